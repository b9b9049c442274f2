/- Two writers and a list of bits side by side in memory, and what PutAll, Put, Code, Len, Bytes and the document's Bytes leave of them. Conditions: fewer than 2^39 bits in each. -/
import Derived.Test.YtleamamecgmmjaaAdd
import Derived.Test.YtleamamecgmmjaaKn
import Derived.Test.YtleamamecgmmjaaCd
namespace Go.Proofs.Ytleamamecgmmjaa.Rice
open Go.RowKit Bit

theorem cod_lt {u k : Nat} (hk : k ≤ 30) (hu : coded u) : cod u k < 2 ^ cost u (k : Int) := by
  by_cases h : u / 2 ^ k < 24
  · rw [cost_low hk hu h, show cod u k = (2 ^ (u / 2 ^ k) - 1) * 2 ^ (k + 1) + u % 2 ^ k from if_pos h]
    have h1 : u % 2 ^ k < 2 ^ k := Nat.mod_lt _ (Nat.two_pow_pos k)
    have h2 : 2 ^ (u / 2 ^ k + 1 + k) = 2 ^ (u / 2 ^ k) * 2 ^ (k + 1) := by rw [← Nat.pow_add]; congr 1; omega
    have h3 : 2 ^ (k + 1) = 2 * 2 ^ k := by rw [Nat.pow_succ, Nat.mul_comm]
    have h4 := Nat.two_pow_pos (u / 2 ^ k)
    generalize 2 ^ (u / 2 ^ k) = x at *
    obtain ⟨y, rfl⟩ : ∃ y, x = y + 1 := ⟨x - 1, by omega⟩
    rw [h2, Nat.add_sub_cancel, Nat.add_mul]
    omega
  · rw [cost_high hk hu h, show cod u k = (2 ^ 24 - 1) * 2 ^ 40 + u from if_neg h]
    unfold coded at hu
    omega
theorem codI_lt (u : Nat) (k : Int) : codI u k < 2 ^ cost u k := by
  by_cases h : okK k ∧ coded u
  · obtain ⟨n, rfl⟩ := Int.eq_ofNat_of_zero_le h.1.1
    rw [show codI u n = cod u n from if_pos h]
    exact cod_lt (by have := h.1.2; omega) h.2
  · rw [show codI u k = 0 from if_neg h]; exact Nat.two_pow_pos _

/-- Two writers, the first blocks from w on, and a list of bits. -/
def Tri (w wr : World) (v : Value) (y z c : Nat × Nat) : Prop := ∃ (wo : Option Addr) (wcap : Nat) (xo : Option Addr) (xcap : Nat) (lo : Option Addr) (lcap : Nat), v = .slice lo c.2 lcap ∧
  WrN wr w.heap.size w.heap.size 0 wo wcap y.1 y.2 ∧ WrN wr w.heap.size (w.heap.size + 1) 0 xo xcap z.1 z.2 ∧ Sep w.heap.size wo (w.heap.size + 1) xo ∧ Lst wr w.heap.size lo lcap c.1 c.2 ∧
  (∀ g, blk lo = some g → g ≠ w.heap.size ∧ g ≠ w.heap.size + 1 ∧ blk wo ≠ some g ∧ blk xo ≠ some g) ∧ Below w.heap.size w wr

theorem Tri.below {w wr : World} {v : Value} {y z c : Nat × Nat} (h : Tri w wr v y z c) : Below w.heap.size w wr := by obtain ⟨_, _, _, _, _, _, _, _, _, _, _, _, hb⟩ := h; exact hb
theorem Tri.slice {w wr : World} {v : Value} {y z c : Nat × Nat} (h : Tri w wr v y z c) : ∃ lo lcap, v = .slice lo c.2 lcap := by obtain ⟨_, _, _, _, lo, lcap, e, _⟩ := h; exact ⟨lo, lcap, e⟩
theorem Tri.upto {w wr w' : World} {v : Value} {y z c : Nat × Nat} (h : Tri w wr v y z c) (hb : Below wr.heap.size wr w') : Tri w w' v y z c := by
  obtain ⟨wo, wcap, xo, xcap, lo, lcap, rfl, hw, hx, hs, hl, hd, hb0⟩ := h
  have hf : Fr (fun _ => False) wr w' := ⟨hb.os, hb.tape, hb.output, hb.size, fun k hk _ => hb.block k hk⟩
  exact ⟨wo, wcap, xo, xcap, lo, lcap, rfl, Wr.keep hw hf (fun x => x) (fun _ _ x => x), Wr.keep hx hf (fun x => x) (fun _ _ x => x), hs, hl.fr hf (fun _ _ x => x), hd, hb0.trans (hb.mono hb0.size)⟩
theorem Tri.drewN {w wr : World} {v : Value} {y z c : Nat × Nat} (h : Tri w wr v y z c) (n : Nat) : Tri w (wr.drewN n) v y z c := h.upto ⟨rfl, rfl, rfl, Nat.le_refl _, fun _ _ => rfl⟩
theorem Tri.drew {w wr : World} {v : Value} {y z c : Nat × Nat} (h : Tri w wr v y z c) : Tri w wr.drew v y z c := h.upto ⟨rfl, rfl, rfl, Nat.le_refl _, fun _ _ => rfl⟩

theorem tri_start (w : World) (t : TypeId) : Tri w ((w.alloc (.cells #[.slice none 0 0, .int .u64 0, .int .i64 0] t)).alloc (.cells #[.slice none 0 0, .int .u64 0, .int .i64 0] t)) (.slice none 0 0) (0, 0) (0, 0) (0, 0) := by
  have h1 := Wr.alloc (new_writer' w t w.heap.size (Nat.le_refl _)) (.cells #[.slice none 0 0, .int .u64 0, .int .i64 0] t)
  have h2 := new_writer' (w.alloc (.cells #[.slice none 0 0, .int .u64 0, .int .i64 0] t)) t w.heap.size (by simp)
  have e : (w.alloc (.cells #[.slice none 0 0, .int .u64 0, .int .i64 0] t)).heap.size = w.heap.size + 1 := by simp
  rw [e] at h2
  exact ⟨none, 0, none, 0, none, 0, rfl, h1, h2, ⟨by omega, by simp [blk], by simp [blk], fun g hg => by simp [blk] at hg⟩, World.ownsRow_nil _ _ _ _, fun g hg => by simp [blk] at hg, ((Below.refl _ _).alloc (Nat.le_refl _) _).alloc (by simp) _⟩

theorem sep_lst {wr w' : World} {p : Nat} {ao ao' : Option Addr} {k : Nat} (hp : Pushed wr w' p ao ao' k) {lo : Option Addr} {lcap N L B : Nat} (hl : Lst wr B lo lcap N L) (h1 : ∀ g, blk lo = some g → g ≠ p ∧ blk ao ≠ some g) :
    Lst w' B lo lcap N L ∧ ∀ g, blk lo = some g → blk ao' ≠ some g := by
  refine ⟨hl.fr hp.fr fun g hg e => e.elim (h1 g hg).1 (h1 g hg).2, fun g hg e => ?_⟩
  rcases hp.at_ with e1 | e1
  · exact (h1 g hg).2 (e1 ▸ e)
  · have := e1 g e; have := (hl.lt g hg).2; omega

theorem wrote_below {w wr w' : World} {p : Nat} {ao ao' : Option Addr} {k : Nat} {cap N L : Nat} (hb : Below w.heap.size w wr) (hw : WrN wr w.heap.size p 0 ao cap N L) (hp : Pushed wr w' p ao ao' k) : Below w.heap.size w w' :=
  hb.trans (pushed_below hp hw.base (fun g hg => (Wr.rlt hw g hg).1) hb.size)

theorem putall_w {w wr : World} {v : Value} {y z c : Nat × Nat} (h : Tri w wr v y z c) (a : Option Addr) (len cap b off : Nat) (U : Nat → Nat) (k : Nat) (hk : k ≤ 30) (hU : Us w a len b off U) (hr : allC U len) (hL : y.2 ≤ 3000000000000) (hlen : len ≤ 1048576) :
    Calls Try.prog 78 #[.pointer (some ⟨w.heap.size, 0, none⟩), .slice a len cap, .int .i64 (k : Int)] wr fun e w' => e = .returned (.int .i64 0) ∧ Tri w w' v (cods U k y.1 y.2 len) z c := by
  obtain ⟨wo, wcap, xo, xcap, lo, lcap, rfl, hw, hx, hs, hl, hd, hb0⟩ := h
  refine (putall_ok w.heap.size w.heap.size 0 a len cap b off U k hk wo wcap y.1 y.2 wr hw (hU.below hb0 hU.lt) (fun h0 => ⟨by have := hU.lt h0; omega, fun e => by have := hU.lt h0; have := (Wr.rlt hw b e).1; omega⟩) hr hL hlen).mono ?_
  rintro e w' ⟨rfl, wo', wcap', hw', hp'⟩
  obtain ⟨hx', hs'⟩ := hp'.other hx hs
  obtain ⟨hl', hd'⟩ := sep_lst hp' hl fun g hg => ⟨(hd g hg).1, (hd g hg).2.2.1⟩
  exact ⟨rfl, wo', wcap', xo, xcap, lo, lcap, rfl, hw', hx', hs', hl', fun g hg => ⟨(hd g hg).1, (hd g hg).2.1, hd' g hg, (hd g hg).2.2.2⟩, wrote_below hb0 hw hp'⟩

def pe (u : Nat) (k : Int) : Int := if okK k then (if coded u then 0 else 3) else 1
theorem put_x {w wr : World} {v : Value} {y z c : Nat × Nat} (h : Tri w wr v y z c) (u : Nat) (hu : u < 18446744073709551616) (k : Int) (hL : z.2 ≤ 3000000000000) :
    Calls Try.prog 52 #[.pointer (some ⟨w.heap.size + 1, 0, none⟩), .int .u64 (u : Int), .int .i64 k] wr fun e w' => e = .returned (.int .i64 (pe u k)) ∧ Tri w w' v y (z.1 * 2 ^ cost u k + codI u k, z.2 + cost u k) c := by
  have same : ¬ (okK k ∧ coded u) → (z.1 * 2 ^ cost u k + codI u k, z.2 + cost u k) = z := fun hn => by
    rw [cost_no hn, show codI u k = 0 from if_neg hn, Nat.pow_zero, Nat.mul_one]; rfl
  by_cases h0 : okK k
  · by_cases h1 : coded u
    · obtain ⟨wo, wcap, xo, xcap, lo, lcap, rfl, hw, hx, hs, hl, hd, hb0⟩ := h
      obtain ⟨n, rfl⟩ := Int.eq_ofNat_of_zero_le h0.1
      rw [show codI u n = cod u n from if_pos ⟨h0, h1⟩, show pe u n = 0 from by unfold pe; rw [if_pos h0, if_pos h1]]
      refine (rput_ok w.heap.size (w.heap.size + 1) 0 u h1 n (by have := h0.2; omega) xo xcap z.1 z.2 wr hx hL).mono ?_
      rintro e w' ⟨rfl, xo', xcap', hx', hp'⟩
      obtain ⟨hw', hs'⟩ := hp'.other hw hs.symm
      obtain ⟨hl', hd'⟩ := sep_lst hp' hl fun g hg => ⟨(hd g hg).2.1, (hd g hg).2.2.2⟩
      exact ⟨rfl, wo, wcap, xo', xcap', lo, lcap, rfl, hw', hx', hs'.symm, hl', fun g hg => ⟨(hd g hg).1, (hd g hg).2.1, (hd g hg).2.2.1, hd' g hg⟩, wrote_below hb0 hx hp'⟩
    · rw [same fun h => h1 h.2, show pe u k = 3 from by unfold pe; rw [if_pos h0, if_neg h1]]
      refine (rput_range _ u hu k h0 h1 wr).mono ?_
      rintro e w' ⟨rfl, hb⟩
      exact ⟨rfl, h.upto hb⟩
  · rw [same fun h => h0 h.1, show pe u k = 1 from if_neg h0]
    refine (rput_arg _ u k h0 wr).mono ?_
    rintro e w' ⟨rfl, hb⟩
    exact ⟨rfl, h.upto hb⟩

theorem code_t {w wr : World} {v : Value} {y z c : Nat × Nat} (h : Tri w wr v y z c) (u : Nat) (k : Int) :
    Calls Try.prog 53 #[.int .u64 (u : Int), .int .i64 k] wr fun e w' => ∃ lo lcap, e = .returned (.slice lo (cost u k) lcap) ∧ Tri w w' v y z c ∧ Lst w' wr.heap.size lo lcap (codI u k) (cost u k) := by
  refine (code_any u k wr).mono ?_
  rintro e w' ⟨lo, lcap, rfl, hn⟩
  exact ⟨lo, lcap, rfl, h.upto hn.below, hn.lst⟩

/-- What an append to the list leaves. -/
theorem tri_app {w wr w' : World} {lo lo' : Option Addr} {lcap lcap' x n : Nat} {y z c : Nat × Nat} (h : Tri w wr (.slice lo c.2 lcap) y z c) (hv : x < 2 ^ n)
    (ho : w'.ownsRow w.heap.size 3 1 (.slice lo' (c.2 + n) lcap') (c.2 + n) (bitl c.1 c.2 ++ bitl x n)) (hg : wr.grownBy w' (blk lo)) (hat : blk lo' = blk lo ∨ ∀ g, blk lo' = some g → wr.heap.size ≤ g) :
    Tri w w' (.slice lo' (c.2 + n) lcap') y z (c.1 * 2 ^ n + x, c.2 + n) := by
  obtain ⟨wo, wcap, xo, xcap, lo1, lcap1, e, hw, hx, hs, hl, hd, hb0⟩ := h
  cases e
  have hf : Fr (fun b => blk lo = some b) wr w' := (Fr.refl _ _).grown hg fun k hk _ => hk
  refine ⟨wo, wcap, xo, xcap, lo', lcap', rfl, Wr.keep hw hf (fun e => (hd _ e).1 rfl) (fun g hg e => (hd g e).2.2.1 hg), Wr.keep hx hf (fun e => (hd _ e).2.1 rfl) (fun g hg e => (hd g e).2.2.2 hg), hs, ?_, ?_, hb0.grown hg hb0.size (fun k hk => (hl.lt k hk).1)⟩
  · unfold Lst; rw [bitl_app c.1 c.2 x n hv]; exact ho
  · intro g hg'
    rcases hat with e | e
    · exact hd g (e ▸ hg')
    · have := e g hg'; have := Wr.plt hw; have := Wr.plt hx
      exact ⟨by omega, by omega, fun e => by have := (Wr.rlt hw g e).2; omega, fun e => by have := (Wr.rlt hx g e).2; omega⟩
theorem tri_lst {w wr : World} {lo : Option Addr} {lcap : Nat} {y z c : Nat × Nat} (h : Tri w wr (.slice lo c.2 lcap) y z c) : Lst wr w.heap.size lo lcap c.1 c.2 := by
  obtain ⟨wo, wcap, xo, xcap, lo1, lcap1, e, hw, hx, hs, hl, hd, hb0⟩ := h
  cases e
  exact hl

def str (x : Nat × Nat) : ByteArray := strOfNums ((List.range ((x.2 + 7) / 8)).map fun i => (bts x.1 x.2 i : Int))
def Row (w : World) (g : Nat) (x : Nat × Nat) : Prop := w.rowIs g 5 ((x.2 + 7) / 8) (fun i => .int .u8 (bts x.1 x.2 i : Int))
theorem Row.conv {w : World} {g : Nat} {x : Nat × Nat} (h : Row w g x) : (convert 24 9 (.slice (some ⟨g, 0, none⟩) ((x.2 + 7) / 8) ((x.2 + 7) / 8))).run Try.prog w = .ok (.string (str x)) w := conv_row h
theorem Row.upto {w w' : World} {g : Nat} {x : Nat × Nat} (h : Row w g x) (hb : Below w.heap.size w w') : Row w' g x := World.rowIs.of_block h (hb.block g (World.rowIs.lt h))

theorem len_w {w wr : World} {v : Value} {y z c : Nat × Nat} (h : Tri w wr v y z c) (hL : y.2 ≤ 7000000000000) : Calls Try.prog 13 #[.pointer (some ⟨w.heap.size, 0, none⟩)] wr fun e w' => e = .returned (.int .i64 (y.2 : Int)) ∧ Tri w w' v y z c := by
  have h' := h
  obtain ⟨wo, wcap, xo, xcap, lo, lcap, rfl, hw, _⟩ := h
  refine (len_any hw (by omega)).mono ?_
  rintro e w' ⟨rfl, nq, rfl⟩
  exact ⟨rfl, h'.drewN nq⟩
theorem len_x {w wr : World} {v : Value} {y z c : Nat × Nat} (h : Tri w wr v y z c) (hL : z.2 ≤ 7000000000000) : Calls Try.prog 13 #[.pointer (some ⟨w.heap.size + 1, 0, none⟩)] wr fun e w' => e = .returned (.int .i64 (z.2 : Int)) ∧ Tri w w' v y z c := by
  have h' := h
  obtain ⟨wo, wcap, xo, xcap, lo, lcap, rfl, hw, hx, _⟩ := h
  refine (len_any hx (by omega)).mono ?_
  rintro e w' ⟨rfl, nq, rfl⟩
  exact ⟨rfl, h'.drewN nq⟩
theorem bytes_w {w wr : World} {v : Value} {y z c : Nat × Nat} (h : Tri w wr v y z c) (hL : y.2 ≤ 7000000000000) : Calls Try.prog 14 #[.pointer (some ⟨w.heap.size, 0, none⟩)] wr fun e w' =>
    e = .returned (.slice (some ⟨wr.heap.size, 0, none⟩) ((y.2 + 7) / 8) ((y.2 + 7) / 8)) ∧ Tri w w' v y z c ∧ Row w' wr.heap.size y ∧ Below wr.heap.size wr w' := by
  have h' := h
  obtain ⟨wo, wcap, xo, xcap, lo, lcap, rfl, hw, hx, _⟩ := h
  refine (bytes_any hw (by omega)).mono ?_
  rintro e w' ⟨rfl, hb, hr⟩
  exact ⟨rfl, h'.upto hb, hr, hb⟩
theorem bytes_x {w wr : World} {v : Value} {y z c : Nat × Nat} (h : Tri w wr v y z c) (hL : z.2 ≤ 7000000000000) : Calls Try.prog 14 #[.pointer (some ⟨w.heap.size + 1, 0, none⟩)] wr fun e w' =>
    e = .returned (.slice (some ⟨wr.heap.size, 0, none⟩) ((z.2 + 7) / 8) ((z.2 + 7) / 8)) ∧ Tri w w' v y z c ∧ Row w' wr.heap.size z ∧ Below wr.heap.size wr w' := by
  have h' := h
  obtain ⟨wo, wcap, xo, xcap, lo, lcap, rfl, hw, hx, _⟩ := h
  refine (bytes_any hx (by omega)).mono ?_
  rintro e w' ⟨rfl, hb, hr⟩
  exact ⟨rfl, h'.upto hb, hr, hb⟩
theorem bytes_l {w wr : World} {lo : Option Addr} {lcap L : Nat} {y z c : Nat × Nat} (h : Tri w wr (.slice lo L lcap) y z c) (hL : c.2 ≤ 1000000000000) : Calls Try.prog 15 #[.slice lo L lcap] wr fun e w' =>
    ∃ g, e = .returned (.slice (some ⟨g, 0, none⟩) ((c.2 + 7) / 8) ((c.2 + 7) / 8)) ∧ Tri w w' (.slice lo L lcap) y z c ∧ Row w' g c ∧ Below wr.heap.size wr w' := by
  have h' := h
  obtain ⟨wo, wcap, xo, xcap, lo1, lcap1, e, hw, hx, hs, hl, hd, hb0⟩ := h
  cases e
  refine (rbytes_any wr w.heap.size lo lcap c.1 c.2 hl hb0.size (by omega)).mono ?_
  rintro e w' ⟨g, rfl, hb2, hr⟩
  exact ⟨g, rfl, h'.upto hb2, hr, hb2⟩
end Go.Proofs.Ytleamamecgmmjaa.Rice
