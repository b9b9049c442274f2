/- A taker of bytes in memory (its first error, what is left, how many were taken), and its inner methods. Conditions: fewer than 2^40 bytes. -/
import Derived.Test.YtgcnbeigchppfaaMk4
namespace Go.Proofs.Ytgcnbeigchppfaa.Fld
open Go.RowKit Gen

/-- A taker at block q: its first error F, what is left l, how many were taken. -/
structure TkA (w : World) (q : Nat) (a : Option Addr) (cap F : Nat) (l : List Nat) (pos : Nat) : Prop where
  c0 : w.cell? ⟨q, 0, none⟩ = some (.int .i64 (F : Int))
  c1 : w.cell? ⟨q, 1, none⟩ = some (.slice a l.length cap)
  c2 : w.cell? ⟨q, 2, none⟩ = some (.int .i64 (pos : Int))
  f0 : w.frozen? ⟨q, 0, none⟩ = false
  f1 : w.frozen? ⟨q, 1, none⟩ = false
  f2 : w.frozen? ⟨q, 2, none⟩ = false
  bytes : Byts w a l
  spot : ∀ ad, a = some ad → ∃ b off, ad = ⟨b, off, none⟩ ∧ b < q ∧ b < w.heap.size
  room : l.length ≤ cap
  none : a = none → cap = 0
  err : F ≠ 0 → l = []

set_option maxRecDepth 100000 in
theorem TkA.lt {w : World} {q cap F pos : Nat} {a : Option Addr} {l : List Nat} (h : TkA w q a cap F l pos) : q < w.heap.size := World.block_lt_of_cell? w _ h.c0
set_option maxRecDepth 100000 in
theorem TkA.keep {w w' : World} {q cap F pos : Nat} {a : Option Addr} {l : List Nat} (h : TkA w q a cap F l pos) {X : Nat → Prop} (hf : Fr X w w') (hq : ¬ X q) (ha : ∀ b off, a = some ⟨b, off, .none⟩ → ¬ X b) : TkA w' q a cap F l pos :=
  ⟨(hf.cell (p := ⟨q, 0, .none⟩) h.lt hq).trans h.c0, (hf.cell (p := ⟨q, 1, .none⟩) h.lt hq).trans h.c1, (hf.cell (p := ⟨q, 2, .none⟩) h.lt hq).trans h.c2,
    (hf.frozen (p := ⟨q, 0, .none⟩) h.lt hq).trans h.f0, (hf.frozen (p := ⟨q, 1, .none⟩) h.lt hq).trans h.f1, (hf.frozen (p := ⟨q, 2, .none⟩) h.lt hq).trans h.f2,
    h.bytes.stay hf ha, fun ad e => by
      obtain ⟨b, off, e1, e2, e3⟩ := h.spot ad e
      exact ⟨b, off, e1, e2, Nat.lt_of_lt_of_le e3 hf.size⟩, h.room, h.none, h.err⟩
set_option maxRecDepth 100000 in
theorem TkA.below {w w' : World} {q cap F pos : Nat} {a : Option Addr} {l : List Nat} (h : TkA w q a cap F l pos) (hb : Below w.heap.size w w') : TkA w' q a cap F l pos :=
  h.keep (X := fun k => w.heap.size ≤ k) ⟨hb.os, hb.tape, hb.output, hb.size, fun k hk _ => hb.block k hk⟩ (by have := h.lt; omega) (fun b off e => by
    obtain ⟨b', off', e1, e2, e3⟩ := h.spot _ e
    cases e1; omega)
set_option maxRecDepth 100000 in
theorem TkA.drewN {w : World} {q cap F pos : Nat} {a : Option Addr} {l : List Nat} (h : TkA w q a cap F l pos) (n : Nat) : TkA (w.drewN n) q a cap F l pos := h.below ⟨rfl, rfl, rfl, Nat.le_refl _, fun _ _ => rfl⟩

set_option maxRecDepth 100000 in
/-- A taker behind a store of an error and of nothing left. -/
theorem TkA.stop {w : World} {q cap F pos : Nat} {a : Option Addr} {l : List Nat} (h : TkA w q a cap F l pos) : TkA (w.setCell ⟨q, 1, .none⟩ (.slice .none 0 0)) q .none 0 F [] pos := by
  refine ⟨?_, ?_, ?_, ?_, ?_, ?_, Byts.nil _ _, fun ad e => (by cases e), Nat.le_refl _, fun _ => rfl, fun _ => rfl⟩
  · rw [World.cell?_setCell_other _ _ _ _ (by intro e; simp at e)]; exact h.c0
  · exact World.cell?_setCell_same _ _ _ (by rw [h.c1])
  · rw [World.cell?_setCell_other _ _ _ _ (by intro e; simp at e)]; exact h.c2
  · simp [h.f0]
  · simp [h.f1]
  · simp [h.f2]
set_option maxRecDepth 100000 in
theorem TkA.setF {w : World} {q cap F pos : Nat} {a : Option Addr} {l : List Nat} (h : TkA w q a cap F l pos) (E : Nat) (hl : l = []) : TkA (w.setCell ⟨q, 0, .none⟩ (.int .i64 (E : Int))) q a cap E l pos := by
  refine ⟨?_, ?_, ?_, ?_, ?_, ?_, ?_, ?_, h.room, h.none, fun _ => hl⟩
  · exact World.cell?_setCell_same _ _ _ (by rw [h.c0])
  · rw [World.cell?_setCell_other _ _ _ _ (by intro e; simp at e)]; exact h.c1
  · rw [World.cell?_setCell_other _ _ _ _ (by intro e; simp at e)]; exact h.c2
  · simp [h.f0]
  · simp [h.f1]
  · simp [h.f2]
  · rw [hl]; exact Byts.nil _ _
  · intro ad e
    obtain ⟨b, off, e1, e2, e3⟩ := h.spot ad e
    exact ⟨b, off, e1, e2, by simpa [World.setCell] using e3⟩
set_option maxRecDepth 100000 in
theorem TkA.setPos {w : World} {q cap F pos : Nat} {a : Option Addr} {l : List Nat} (h : TkA w q a cap F l pos) (pos' : Nat) : TkA (w.setCell ⟨q, 2, .none⟩ (.int .i64 (pos' : Int))) q a cap F l pos' := by
  refine ⟨?_, ?_, ?_, ?_, ?_, ?_, ?_, ?_, h.room, h.none, h.err⟩
  · rw [World.cell?_setCell_other _ _ _ _ (by intro e; simp at e)]; exact h.c0
  · rw [World.cell?_setCell_other _ _ _ _ (by intro e; simp at e)]; exact h.c1
  · exact World.cell?_setCell_same _ _ _ (by rw [h.c2])
  · simp [h.f0]
  · simp [h.f1]
  · simp [h.f2]
  · exact h.bytes.stay (X := fun b => b = q) ((Fr.refl (fun b => b = q) _).setCell (p := ⟨q, 2, .none⟩) rfl _) (fun b off e e2 => by
      obtain ⟨b', off', e1, e3, _⟩ := h.spot _ e
      cases e1; exact Nat.ne_of_lt e3 e2)
  · intro ad e
    obtain ⟨b, off, e1, e2, e3⟩ := h.spot ad e
    exact ⟨b, off, e1, e2, by simpa [World.setCell] using e3⟩
set_option maxRecDepth 100000 in
theorem TkA.setLeft {w : World} {q cap F pos : Nat} {a : Option Addr} {l : List Nat} (h : TkA w q a cap F l pos) (a' : Option Addr) (cap' : Nat) (l' : List Nat) (hb : Byts w a' l')
    (hs : ∀ ad, a' = some ad → ∃ b off, ad = ⟨b, off, .none⟩ ∧ b < q ∧ b < w.heap.size) (hr : l'.length ≤ cap') (hn : a' = .none → cap' = 0) (he : F ≠ 0 → l' = []) :
    TkA (w.setCell ⟨q, 1, .none⟩ (.slice a' l'.length cap')) q a' cap' F l' pos := by
  refine ⟨?_, ?_, ?_, ?_, ?_, ?_, ?_, ?_, hr, hn, he⟩
  · rw [World.cell?_setCell_other _ _ _ _ (by intro e; simp at e)]; exact h.c0
  · exact World.cell?_setCell_same _ _ _ (by rw [h.c1])
  · rw [World.cell?_setCell_other _ _ _ _ (by intro e; simp at e)]; exact h.c2
  · simp [h.f0]
  · simp [h.f1]
  · simp [h.f2]
  · exact hb.stay (X := fun b => b = q) ((Fr.refl (fun b => b = q) _).setCell (p := ⟨q, 1, .none⟩) rfl _) (fun b off e e2 => by
      obtain ⟨b', off', e1, e3, _⟩ := hs _ e
      cases e1; exact Nat.ne_of_lt e3 e2)
  · intro ad e
    obtain ⟨b, off, e1, e2, e3⟩ := hs ad e
    exact ⟨b, off, e1, e2, by simpa [World.setCell] using e3⟩

set_option maxRecDepth 100000 in
theorem frq {w : World} {q : Nat} (off : Nat) (u : Value) : Fr (fun b => b = q) w (w.setCell ⟨q, off, .none⟩ u) := (Fr.refl (fun b => b = q) _).setCell (p := ⟨q, off, .none⟩) rfl u

set_option maxRecDepth 100000 in
theorem tfail_nil (E : Value) (w : World) : Calls Try.prog 84 #[.pointer none, E] w fun e w' => e = .returned (.tuple #[]) ∧ w = w' := by
  go_enter Try.func84, Try.ntmps84
  go_wp2_with fail
  go_end0
  exact ⟨rfl, rfl⟩
set_option maxRecDepth 100000 in
theorem tfail_any {w : World} {q cap F pos : Nat} {a : Option Addr} {l : List Nat} (h : TkA w q a cap F l pos) (E : Nat) :
    Calls Try.prog 84 #[.pointer (some ⟨q, 0, none⟩), .int .i64 (E : Int)] w fun e w' => e = .returned (.tuple #[]) ∧ TkA w' q none 0 (fst F E) [] pos ∧ Fr (fun b => b = q) w w' := by
  have H := hid h
  have c0 := h.c0; have c1 := h.c1; have f0 := h.f0; have f1 := h.f1
  clear h
  by_cases hF : F = 0
  · subst hF
    have d1 : (w.setCell ⟨q, 0, none⟩ (.int .i64 (E : Int))).cell? ⟨q, 1, none⟩ = some (.slice a l.length cap) := by
      rw [World.cell?_setCell_other _ _ _ _ (by intro e; simp at e)]; exact c1
    have d2 : (w.setCell ⟨q, 0, none⟩ (.int .i64 (E : Int))).frozen? ⟨q, 1, none⟩ = false := by simp [f1]
    go_enter Try.func84, Try.ntmps84
    go_wp2_with fail
    refine (note_first c0 f0 _).mono ?_
    rintro e w1 ⟨rfl, rfl⟩
    clear c0 c1 f0 f1
    go_wp2_with fail
    go_end0
    refine ⟨rfl, ?_, (frq 0 _).trans (frq 1 _)⟩
    have h1 := H.out
    refine ⟨?_, ?_, ?_, ?_, ?_, ?_, Byts.nil _ _, fun ad e => (by cases e), Nat.le_refl _, fun _ => rfl, fun _ => rfl⟩
    · rw [World.cell?_setCell_other _ _ _ _ (by intro e; simp at e)]; exact World.cell?_setCell_same _ _ _ (by rw [h1.c0])
    · exact World.cell?_setCell_same _ _ _ (by rw [d1])
    · rw [World.cell?_setCell_other _ _ _ _ (by intro e; simp at e), World.cell?_setCell_other _ _ _ _ (by intro e; simp at e)]; exact h1.c2
    · simp [h1.f0]
    · simp [h1.f1]
    · simp [h1.f2]
  · have hF' : (F : Int) ≠ 0 := by omega
    go_enter Try.func84, Try.ntmps84
    go_wp2_with fail
    refine (note_later c0 hF' _).mono ?_
    rintro e w1 ⟨rfl, rfl⟩
    clear hF'
    go_wp2_with fail
    go_end0
    exact ⟨rfl, by unfold fst; rw [if_neg hF]; exact H.out.stop, frq 1 _⟩

set_option maxRecDepth 100000 in
theorem next_nil (n : Value) (w : World) : Calls Try.prog 85 #[.pointer none, n] w fun e w' => e = .returned (.slice none 0 0) ∧ w = w' := by
  go_enter Try.func85, Try.ntmps85
  go_wp2_with fail
  go_ret
  exact ⟨rfl, rfl⟩
set_option maxRecDepth 100000 in
theorem next_end {w : World} {q cap F pos : Nat} {a : Option Addr} {l : List Nat} (h : TkA w q a cap F l pos) (n : Int) (hn : (l.length : Int) < n) :
    Calls Try.prog 85 #[.pointer (some ⟨q, 0, none⟩), .int .i64 n] w fun e w' => e = .returned (.slice none 0 0) ∧ TkA w' q none 0 (fst F 10) [] pos ∧ Fr (fun b => b = q) w w' := by
  have c1 := h.c1
  go_enter Try.func85, Try.ntmps85
  go_wp2_with fail
  refine (tfail_any h 10).mono ?_
  rintro e w1 ⟨rfl, ht, hf⟩
  have HH := hid (And.intro ht hf)
  clear ht hf h c1
  go_wp2_with fail
  go_ret
  exact ⟨rfl, HH.out.1, HH.out.2⟩
/-- What taking n bytes leaves. -/
def NextPost (w : World) (q : Nat) (a : Option Addr) (cap F : Nat) (l : List Nat) (pos n : Nat) (e : Ending) (w' : World) : Prop :=
  e = .returned (.slice a n cap) ∧ (∃ a' cap', TkA w' q a' cap' F (l.drop n) (pos + n) ∧ cap' ≤ cap) ∧ Fr (fun b => b = q) w w'
set_option maxRecDepth 100000 in
set_option maxHeartbeats 800000 in
theorem next_ok {w : World} {q cap F pos : Nat} {a : Option Addr} {l : List Nat} (h : TkA w q a cap F l pos) (n : Nat) (hn : n ≤ l.length) (hc : cap ≤ 9223372036854775807) (hp : pos + n ≤ 1099511627776) :
    Calls Try.prog 85 #[.pointer (some ⟨q, 0, none⟩), .int .i64 (n : Int)] w (NextPost w q a cap F l pos n) := by
  have H := hid h
  have c1 := h.c1; have c2 := h.c2; have f1 := h.f1; have f2 := h.f2
  have hr := h.room
  have hnn := h.none
  have hsp := h.spot
  clear h
  cases a with
  | none =>
    obtain rfl : cap = 0 := hnn rfl
    obtain rfl : l = [] := List.eq_nil_of_length_eq_zero (by omega)
    obtain rfl : n = 0 := by simpa using hn
    go_enter Try.func85, Try.ntmps85
    go_wp2_with fail
    go_ret
    refine ⟨rfl, ⟨none, 0, ?_, Nat.le_refl _⟩, (frq 1 _).trans (frq 2 _)⟩
    have h1 := H.out.setLeft none 0 [] (Byts.nil _ _) (fun ad e => by cases e) (Nat.le_refl _) (fun _ => rfl) (fun _ => rfl)
    exact h1.setPos (pos + 0)
  | some ad =>
    obtain ⟨b, off, rfl, hne, hbl⟩ := hsp ad rfl
    have h1 : (n : Int) ≤ (l.length : Int) := by omega
    have h2 : ¬ (l.length : Int) < (n : Int) := by omega
    have HE := hid H.out.err
    clear hsp hnn
    by_cases hcn : cap = n
    · subst hcn
      have hll : l.length = cap := by omega
      have HL := hid hll
      clear hll
      go_enter Try.func85, Try.ntmps85
      go_wp2_with fail
      go_ret
      refine ⟨rfl, ⟨some ⟨b, off, none⟩, 0, ?_, Nat.zero_le _⟩, (frq 1 _).trans (frq 2 _)⟩
      have hd : l.drop cap = [] := List.drop_eq_nil_of_le (by rw [HL.out]; exact Nat.le_refl _)
      rw [hd]
      have h3 := H.out.setLeft (some ⟨b, off, none⟩) 0 [] (Byts.nil _ _) (fun ad e => by cases e; exact ⟨b, off, rfl, hne, hbl⟩) (Nat.le_refl _) (fun e => by cases e) (fun _ => rfl)
      have h4 := h3.setPos (pos + cap)
      rw [show (((pos + cap : Nat)) : Int) = (pos : Int) + (cap : Int) from by omega] at h4
      exact h4
    · have HC := hid hcn
      go_enter Try.func85, Try.ntmps85
      go_wp2_with fail
      go_ret
      refine ⟨rfl, ⟨some ⟨b, off + n, none⟩, cap - n, ?_, Nat.sub_le _ _⟩, (frq 1 _).trans (frq 2 _)⟩
      have h3 := H.out.setLeft (some ⟨b, off + n, none⟩) (cap - n) (l.drop n) (H.out.bytes.drop n) (fun ad e => by cases e; exact ⟨b, off + n, rfl, hne, hbl⟩) (by rw [List.length_drop]; omega) (fun e => by cases e) (fun e => by rw [HE.out e]; simp)
      have h4 := h3.setPos (pos + n)
      rw [show (((pos + n : Nat)) : Int) = (pos : Int) + (n : Int) from by omega, List.length_drop] at h4
      exact h4
end Go.Proofs.Ytgcnbeigchppfaa.Fld
