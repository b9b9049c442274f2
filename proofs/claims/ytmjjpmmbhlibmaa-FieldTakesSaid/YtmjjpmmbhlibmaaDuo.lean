/- The program's taker and the document's, side by side: what each call of either leaves. Conditions: fewer than 2^40 bytes. -/
import Derived.Test.YtmjjpmmbhlibmaaRt4
namespace Go.Proofs.Ytmjjpmmbhlibmaa.Fld
open Go.RowKit Gen

theorem TkS.fr {w w' : World} {q r : Nat} {s : TS} (h : TkS w q s) (hf : Fr (fun b => b = r) w w') (hqr : q < r) : TkS w' q s := by
  obtain ⟨a, cap, ht, h1, h2⟩ := h
  exact ⟨a, cap, ht.keep hf (by omega) (fun b off e e2 => by
    obtain ⟨b', off', e1, e3, _⟩ := ht.spot _ e
    cases e1; omega), h1, h2⟩
theorem TkS.drewN {w : World} {q : Nat} {s : TS} (h : TkS w q s) (n : Nat) : TkS (w.drewN n) q s := h.below ⟨rfl, rfl, rfl, Nat.le_refl _, fun _ _ => rfl⟩

/-- Both takers, the question in its box, and the bytes that were handed over. -/
structure Duo (w0 w : World) (q r p : Nat) (a : Option Addr) (cap : Nat) (L : List Nat) (N : Int) (S : ByteArray) (s1 s2 : TS) : Prop where
  tk : TkS w q s1
  rt : RtS w r a cap L s2
  bel : Below w0.heap.size w0 w
  hq : w0.heap.size ≤ q
  qr : q < r
  rp : r < p
  pz : p < w.heap.size
  d1 : w.cell? ⟨p, 1, none⟩ = some (.int .i64 N)
  d2 : w.cell? ⟨p, 2, none⟩ = some (.string S)
theorem Duo.left {w0 w w' : World} {q r p cap : Nat} {a : Option Addr} {L : List Nat} {N : Int} {S : ByteArray} {s1 s2 s1' : TS} (h : Duo w0 w q r p a cap L N S s1 s2) (hf : Fr (fun b => b = q) w w') (ht : TkS w' q s1') : Duo w0 w' q r p a cap L N S s1' s2 :=
  ⟨ht, h.rt.keep hf (by have := h.qr; omega), bel_fr h.bel hf h.hq, h.hq, h.qr, h.rp, Nat.lt_of_lt_of_le h.pz hf.size, (hf.cell (p := ⟨p, 1, none⟩) h.pz (by have := h.qr; have := h.rp; show ¬ p = q; omega)).trans h.d1, (hf.cell (p := ⟨p, 2, none⟩) h.pz (by have := h.qr; have := h.rp; show ¬ p = q; omega)).trans h.d2⟩
theorem Duo.right {w0 w w' : World} {q r p cap : Nat} {a : Option Addr} {L : List Nat} {N : Int} {S : ByteArray} {s1 s2 s2' : TS} (h : Duo w0 w q r p a cap L N S s1 s2) (hf : Fr (fun b => b = r) w w') (ht : RtS w' r a cap L s2') : Duo w0 w' q r p a cap L N S s1 s2' :=
  ⟨h.tk.fr hf h.qr, ht, bel_fr h.bel hf (by have := h.qr; have := h.hq; omega), h.hq, h.qr, h.rp, Nat.lt_of_lt_of_le h.pz hf.size, (hf.cell (p := ⟨p, 1, none⟩) h.pz (by have := h.rp; show ¬ p = r; omega)).trans h.d1, (hf.cell (p := ⟨p, 2, none⟩) h.pz (by have := h.rp; show ¬ p = r; omega)).trans h.d2⟩
theorem Duo.new {w0 w w' : World} {q r p cap : Nat} {a : Option Addr} {L : List Nat} {N : Int} {S : ByteArray} {s1 s2 : TS} (h : Duo w0 w q r p a cap L N S s1 s2) (hb : Below w.heap.size w w') : Duo w0 w' q r p a cap L N S s1 s2 :=
  ⟨h.tk.below hb, h.rt.keep (X := fun _ => False) (⟨hb.os, hb.tape, hb.output, hb.size, fun k hk _ => hb.block k (by have := h.rt.1.lt; exact hk)⟩) (fun e => e), h.bel.trans (hb.mono h.bel.size), h.hq, h.qr, h.rp, Nat.lt_of_lt_of_le h.pz hb.size, (hb.cell (p := ⟨p, 1, none⟩) h.pz).trans h.d1, (hb.cell (p := ⟨p, 2, none⟩) h.pz).trans h.d2⟩
theorem Duo.drew {w0 w : World} {q r p cap : Nat} {a : Option Addr} {L : List Nat} {N : Int} {S : ByteArray} {s1 s2 : TS} (h : Duo w0 w q r p a cap L N S s1 s2) : Duo w0 w.drew q r p a cap L N S s1 s2 := h.new ⟨rfl, rfl, rfl, Nat.le_refl _, fun _ _ => rfl⟩

section
variable {w0 w : World} {q r p cap : Nat} {a : Option Addr} {L : List Nat} {N : Int} {S : ByteArray} {s1 s2 : TS}

theorem d_u (h : Duo w0 w q r p a cap L N S s1 s2) (n : Int) : Calls Try.prog 19 #[.pointer (some ⟨q, 0, none⟩), .int .i64 n] w fun e w' => e = .returned (.int .u64 (lev (nx s1 n true).1 : Int)) ∧ Duo w0 w' q r p a cap L N S (nx s1 n true).2 s2 :=
  (tku_any h.tk n).mono fun _ _ ⟨e, h1, h2⟩ => ⟨e, h.left h2 h1⟩
theorem d_i (h : Duo w0 w q r p a cap L N S s1 s2) (n : Int) : Calls Try.prog 20 #[.pointer (some ⟨q, 0, none⟩), .int .i64 n] w fun e w' => e = .returned (.int .i64 (sgn (nx s1 n true).1)) ∧ Duo w0 w' q r p a cap L N S (nx s1 n true).2 s2 :=
  (tki_any h.tk n).mono fun _ _ ⟨e, h1, h2⟩ => ⟨e, h.left h2 h1⟩
theorem d_text (h : Duo w0 w q r p a cap L N S s1 s2) (n : Int) : Calls Try.prog 22 #[.pointer (some ⟨q, 0, none⟩), .int .i64 n] w fun e w' => e = .returned (.string (tos (tx s1 n).1)) ∧ Duo w0 w' q r p a cap L N S (tx s1 n).2 s2 :=
  (ttext_any h.tk n).mono fun _ _ ⟨e, h1, h2⟩ => ⟨e, h.left h2 h1⟩
theorem r_next (h : Duo w0 w q r p a cap L N S s1 s2) (hS : Src w0 a cap L) (n : Int) (f : Bool) : Calls Try.prog 33 #[.pointer (some ⟨r, 0, none⟩), .int .i64 n, .bool f] w fun e w' => ∃ ao c, e = .returned (.slice ao (nx s2 n f).1.length c) ∧ Byts w0 ao (nx s2 n f).1 ∧ Duo w0 w' q r p a cap L N S s1 (nx s2 n f).2 :=
  (rnext_any hS h.rt n f).mono fun _ _ ⟨ao, c, e, h0, h1, h2⟩ => ⟨ao, c, e, h0, h.right h2 h1⟩
theorem r_text (h : Duo w0 w q r p a cap L N S s1 s2) (hS : Src w0 a cap L) (n : Int) : Calls Try.prog 35 #[.pointer (some ⟨r, 0, none⟩), .int .i64 n] w fun e w' => e = .returned (.string (tos (tx s2 n).1)) ∧ Duo w0 w' q r p a cap L N S s1 (tx s2 n).2 :=
  (rtext_take hS h.rt h.bel (by have := h.hq; have := h.qr; omega) n).mono fun _ _ ⟨e, h1, h2⟩ => ⟨e, h.right h2 h1⟩

/-- Bytes that lie where neither taker writes. -/
def Free (w : World) (q r : Nat) (ao : Option Addr) (l : List Nat) : Prop := Byts w ao l ∧ ∀ b off, ao = some ⟨b, off, none⟩ → b ≠ q ∧ b ≠ r
theorem Free.right {w w' : World} {q r : Nat} {ao : Option Addr} {l : List Nat} (h : Free w q r ao l) (hf : Fr (fun b => b = r) w w') : Free w' q r ao l := ⟨h.1.stay hf (fun b off e => (h.2 b off e).2), h.2⟩
theorem Free.left {w w' : World} {q r : Nat} {ao : Option Addr} {l : List Nat} (h : Free w q r ao l) (hf : Fr (fun b => b = q) w w') : Free w' q r ao l := ⟨h.1.stay hf (fun b off e => (h.2 b off e).1), h.2⟩
theorem Free.new {w w' : World} {q r : Nat} {ao : Option Addr} {l : List Nat} (h : Free w q r ao l) (hb : Below w.heap.size w w') : Free w' q r ao l := ⟨h.1.keep hb, h.2⟩
theorem free_src (h : Duo w0 w q r p a cap L N S s1 s2) {ao : Option Addr} {l : List Nat} (hb : Byts w0 ao l) : Byts w ao l := hb.keep h.bel
theorem free_string (h : Duo w0 w q r p a cap L N S s1 s2) (T : ByteArray) : Free (Lib.bytesWorld w 5 T) q r (some ⟨w.heap.size, 0, none⟩) (sb T) :=
  ⟨byts_of_string w T, fun b off e => by
    have h1 := h.qr; have h2 := h.rp; have h3 := h.pz
    cases e
    omega⟩

theorem d_raw (h : Duo w0 w q r p a cap L N S s1 s2) (n : Int) : Calls Try.prog 27 #[.pointer (some ⟨q, 0, none⟩), .int .i64 n] w fun e w' => ∃ ao c, e = .returned (.slice ao (nx s1 n false).1.length c) ∧ Free w' q r ao (nx s1 n false).1 ∧ Duo w0 w' q r p a cap L N S (nx s1 n false).2 s2 :=
  (traw_any h.tk n).mono fun _ _ ⟨ao, c, e, h0, h1, h2, h3⟩ => ⟨ao, c, e, ⟨h0, fun b off eb => by
    have h4 := h3 b off eb; have h5 := h.qr; have h6 := h.rp; have h7 := h.pz
    omega⟩, h.left h2 h1⟩
/-- The document's Next, behind bytes that stay. -/
theorem r_next2 (h : Duo w0 w q r p a cap L N S s1 s2) (hS : Src w0 a cap L) (n : Int) (f : Bool) {xo : Option Addr} {l : List Nat} (hx : Free w q r xo l) : Calls Try.prog 33 #[.pointer (some ⟨r, 0, none⟩), .int .i64 n, .bool f] w fun e w' => ∃ ao c, e = .returned (.slice ao (nx s2 n f).1.length c) ∧ Byts w' ao (nx s2 n f).1 ∧ Free w' q r xo l ∧ Duo w0 w' q r p a cap L N S s1 (nx s2 n f).2 :=
  (rnext_any hS h.rt n f).mono fun _ _ ⟨ao, c, e, h0, h1, h2⟩ => ⟨ao, c, e, h0.keep (h.right h2 h1).bel, hx.right h2, h.right h2 h1⟩
theorem d_is (h : Duo w0 w q r p a cap L N S s1 s2) {ao : Option Addr} {T : ByteArray} {c : Nat} (hx : Free w q r ao (sb T)) : Calls Try.prog 21 #[.pointer (some ⟨q, 0, none⟩), .slice ao T.size c] w fun e w' => e = .returned (.bool (isB s1 (sb T))) ∧ Duo w0 w' q r p a cap L N S (nx s1 (sb T).length false).2 s2 ∧ (∀ {yo : Option Addr} {l : List Nat}, Free w q r yo l → Free w' q r yo l) := by
  rw [← sb_len]
  exact (is_any h.tk hx.1 (fun b off e => (hx.2 b off e).1)).mono fun _ _ ⟨e, h1, h2⟩ => ⟨e, h.left h2 h1, fun h3 => h3.left h2⟩
theorem r_is (h : Duo w0 w q r p a cap L N S s1 s2) (hS : Src w0 a cap L) {ao : Option Addr} {T : ByteArray} {c : Nat} (hT : T.size ≤ 300) (hx : Free w q r ao (sb T)) : Calls Try.prog 36 #[.pointer (some ⟨r, 0, none⟩), .slice ao T.size c] w fun e w' => e = .returned (.bool (isB s2 (sb T))) ∧ Duo w0 w' q r p a cap L N S s1 (nx s2 (sb T).length false).2 := by
  rw [← sb_len]
  exact (ris_take hS h.rt h.bel (by have := h.hq; have := h.qr; omega) hx.1 (fun b off e => (hx.2 b off e).2) (by rw [sb_len]; omega)).mono fun _ _ ⟨e, h1, h2⟩ => ⟨e, h.right h2 h1⟩
end

/-- What a question leaves the takers in. -/
def ask (s : TS) (K N : Int) (S : ByteArray) : TS := if K = 0 then (nx s N true).2 else if K = 1 then (nx s N true).2 else if K = 2 then (nx s N false).2 else if K = 3 then (tx s N).2 else if K = 4 then (nx s (sb S).length false).2 else s
theorem ask_0 (s : TS) (N : Int) (S : ByteArray) : ask s 0 N S = (nx s N true).2 := by simp [ask]
theorem ask_1 (s : TS) (N : Int) (S : ByteArray) : ask s 1 N S = (nx s N true).2 := by simp [ask]
theorem ask_2 (s : TS) (N : Int) (S : ByteArray) : ask s 2 N S = (nx s N false).2 := by simp [ask]
theorem ask_3 (s : TS) (N : Int) (S : ByteArray) : ask s 3 N S = (tx s N).2 := by simp [ask]
theorem ask_4 (s : TS) (N : Int) (S : ByteArray) : ask s 4 N S = (nx s (sb S).length false).2 := by simp [ask]
end Go.Proofs.Ytmjjpmmbhlibmaa.Fld
