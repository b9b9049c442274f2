/- The document's own reader of a list of bits, and its calls Read, Left, Get, Align: what they answer, where it stands behind them, and that nothing else has turned. Conditions: fewer than 2^20 bytes. -/
import Derived.Test.YtleamamecgmmjaaRef
namespace Go.Proofs.Ytleamamecgmmjaa.Bit
open Go.RowKit

structure Rf (w : World) (B q : Nat) (lo : Option Addr) (lcap M T p : Nat) : Prop where
  c0 : w.cell? ⟨q, 0, none⟩ = some (.slice lo (8 * T) lcap)
  c1 : w.cell? ⟨q, 1, none⟩ = some (.int .i64 (p : Int))
  f1 : w.frozen? ⟨q, 1, none⟩ = false
  own : w.ownsRow B 3 1 (.slice lo (8 * T) lcap) (8 * T) (bl M T (8 * T))
  far : blk lo ≠ some q

theorem Rf.keep {w w' : World} {B q : Nat} {lo : Option Addr} {lcap M T p : Nat} (h : Rf w B q lo lcap M T p) {X : Nat → Prop} (hf : Fr X w w') (hq : ¬ X q) (hg : ∀ g, blk lo = some g → ¬ X g) : Rf w' B q lo lcap M T p := by
  have lq : q < w.heap.size := World.block_lt_of_cell? w _ h.c0
  exact ⟨(hf.cell (p := ⟨q, 0, none⟩) lq hq).trans h.c0, (hf.cell (p := ⟨q, 1, none⟩) lq hq).trans h.c1, (hf.frozen (p := ⟨q, 1, none⟩) lq hq).trans h.f1,
    ownsRow_block h.own fun g hg' => hf.block g (h.own.lt g (by rw [ownBlock_slice]; exact hg')).2 (hg g hg'), h.far⟩
theorem Rf.move {w : World} {B q : Nat} {lo : Option Addr} {lcap M T p : Nat} (h : Rf w B q lo lcap M T p) (p' : Nat) : Rf (w.setCell ⟨q, 1, none⟩ (.int .i64 (p' : Int))) B q lo lcap M T p' :=
  ⟨by rw [World.cell?_setCell_other _ _ _ _ (by intro e; simp at e)]; exact h.c0, World.cell?_setCell_same _ _ _ (by rw [h.c1]), by rw [frozen_setCell]; exact h.f1,
    ownsRow_block h.own fun g hg => RowKit.Below.heap_setCell _ _ _ _ (fun e => h.far (by rw [hg, e])), h.far⟩
theorem Rf.drewN {w : World} {B q : Nat} {lo : Option Addr} {lcap M T p : Nat} (h : Rf w B q lo lcap M T p) (n : Nat) : Rf (w.drewN n) B q lo lcap M T p := h.keep (X := fun _ => False) ((Fr.refl _ _).drewN n) (fun x => x) (fun _ _ x => x)
theorem Rf.bit {w : World} {B q : Nat} {lo : Option Addr} {lcap M T p : Nat} (h : Rf w B q lo lcap M T p) (i : Nat) (hi : i < 8 * T) : ∃ g, lo = some ⟨g, 0, none⟩ ∧ w.cell? ⟨g, i, none⟩ = some (.int .i64 (seg M (8 * T) i 1 : Int)) ∧ g ≠ q := by
  rcases ownsRow_at h.own with ⟨_, h1, _, _⟩ | ⟨g, rfl⟩
  · omega
  · exact ⟨g, rfl, ownsRow_cell h.own i _ (bl_at M T _ i hi), fun e => h.far (by rw [← e]; rfl)⟩
theorem seg1 (M T i : Nat) : seg M T i 1 = 0 ∨ seg M T i 1 = 1 := by have := seg_lt M T i 1; omega

theorem rfread_any (w : World) (ao : Option Addr) (T cap M : Nat) (hT : T ≤ 1048576) (hc : ∀ j, j < T → ∃ b off, ao = some ⟨b, off, none⟩ ∧ w.cell? ⟨b, off + j, none⟩ = some (.int .u8 (byt M (8 * T) j : Int)) ∧ b < w.heap.size) :
    Calls Try.prog 27 #[.slice ao T cap] w fun e w' => ∃ q lo lcap, e = .returned (.pointer (some ⟨q, 0, none⟩)) ∧ Rf w' w.heap.size q lo lcap M T 0 ∧ w.heap.size ≤ q ∧ Below w.heap.size w w' := by
  go_enter Try.func27, Try.ntmps27
  go_wp2_with fail
  refine (of_any w ao T cap M hT hc).mono ?_
  rintro e w1 ⟨lo, lcap, rfl, ho, hb⟩
  have hr : ∃ q, w1.heap.size = q ∧ Rf (w1.alloc (.cells #[.slice lo (8 * T) lcap, .int .i64 0] 56)) w.heap.size q lo lcap M T 0 ∧ w.heap.size ≤ q ∧ Below w.heap.size w (w1.alloc (.cells #[.slice lo (8 * T) lcap, .int .i64 0] 56)) :=
    ⟨_, rfl, ⟨by simp, by simp, by simp, ho.alloc _, fun e => by have := (ho.lt w1.heap.size (by rw [ownBlock_slice]; exact e)).2; omega⟩, hb.size, hb.alloc hb.size _⟩
  obtain ⟨q, hq, h1, h2, h3⟩ := hr
  have HQ := hid hq
  clear hq ho hb
  go_wp2_with fail
  go_ret
  exact ⟨q, lo, lcap, by rw [HQ.out]; rfl, h1, h2, h3⟩

theorem rfleft_any {w : World} {B q : Nat} {lo : Option Addr} {lcap M T p : Nat} (h : Rf w B q lo lcap M T p) (hp : p ≤ 8 * T) (hT : T ≤ 1048576) :
    Calls Try.prog 95 #[.pointer (some ⟨q, 0, none⟩)] w fun e w' => e = .returned (.int .i64 ((8 * T - p : Nat) : Int)) ∧ ∃ nq, w' = w.drewN nq := by
  have c0 := h.c0; have c1 := h.c1
  go_enter Try.func95, Try.ntmps95
  go_wp2
  go_quiet (fail)
  go_wp2
  go_ret
  exact ⟨congrArg (fun x => Ending.returned (.int .i64 x)) (by omega), _, rfl⟩

theorem rfget_arg (a : Addr) (n : Int) (w : World) (hn : n < 0 ∨ 64 < n) : Calls Try.prog 81 #[.pointer (some a), .int .i64 n] w fun e w' => e = .returned (.tuple #[.int .u64 0, .int .i64 1]) ∧ w = w' := by
  rcases hn with hn | hn
  · go_enter Try.func81, Try.ntmps81
    go_wp2_with fail
    go_ret2
    exact ⟨rfl, rfl⟩
  · have h0 : ¬ n < 0 := by omega
    go_enter Try.func81, Try.ntmps81
    go_wp2_with fail
    go_ret2
    exact ⟨rfl, rfl⟩
theorem rfget_end {w : World} {B q : Nat} {lo : Option Addr} {lcap M T p : Nat} (h : Rf w B q lo lcap M T p) (hp : p ≤ 8 * T) (hT : T ≤ 1048576) (n : Nat) (hn : n ≤ 64) (hend : 8 * T < p + n) :
    Calls Try.prog 81 #[.pointer (some ⟨q, 0, none⟩), .int .i64 n] w fun e w' => e = .returned (.tuple #[.int .u64 0, .int .i64 10]) ∧ ∃ nq, w' = w.drewN nq := by
  have h0 : ¬ (n : Int) < 0 := by omega
  have h1 : ¬ (64 : Int) < n := by omega
  have h2 : ((8 * T - p : Nat) : Int) < (n : Int) := by omega
  go_enter Try.func81, Try.ntmps81
  go_wp2_with fail
  refine (rfleft_any h hp hT).mono ?_
  rintro e w1 ⟨rfl, nq, rfl⟩
  go_wp2_with fail
  go_ret2
  exact ⟨rfl, nq, rfl⟩

def RfGot (w : World) (B q : Nat) (lo : Option Addr) (lcap M T p n : Nat) (e : Ending) (w' : World) : Prop :=
  e = .returned (.tuple #[.int .u64 (seg M (8 * T) p n : Int), .int .i64 0]) ∧ Rf w' B q lo lcap M T (p + n) ∧ Fr (fun b => b = q) w w'

theorem seg_succ (M T p i : Nat) (h : p + (i + 1) ≤ T) : 2 * seg M T p i + seg M T (p + i) 1 = seg M T p (i + 1) := by have := seg_app M T p i 1 h; omega

set_option maxHeartbeats 800000 in
theorem rfget_ok {w : World} {B q : Nat} {lo : Option Addr} {lcap M T p : Nat} (h : Rf w B q lo lcap M T p) (hT : T ≤ 1048576) (n : Nat) (hn : n ≤ 64) (hend : p + n ≤ 8 * T) :
    Calls Try.prog 81 #[.pointer (some ⟨q, 0, none⟩), .int .i64 n] w (RfGot w B q lo lcap M T p n) := by
  have h0 : ¬ (n : Int) < 0 := by omega
  have h1 : ¬ (64 : Int) < n := by omega
  have h2 : decide (8 * T - p < n) = false := by simp; omega
  go_enter Try.func81, Try.ntmps81
  go_wp2_with fail
  refine (rfleft_any h (by omega) hT).mono ?_
  rintro e w1 ⟨rfl, nq, rfl⟩
  have hr := h.drewN nq
  have hf : Fr (fun b => b = q) w (w.drewN nq) := (Fr.refl _ _).drewN nq
  clear h
  generalize w.drewN nq = W at hr hf ⊢
  go_wp2_with fail
  go_loopg [6, 7] n (fun g' v i wr => ∃ j : Nat, j ≤ n ∧ g' = n - j ∧ v = .int .u64 (seg M (8 * T) p j : Int) ∧ i = .int .i64 j ∧ Rf wr B q lo lcap M T p ∧ Fr (fun b => b = q) w wr)
  case atStart => exact ⟨0, Nat.zero_le _, rfl, by rw [seg_zero]; rfl, rfl, hr, hf⟩
  case round =>
    obtain ⟨j, hj, hg, rfl, rfl, hr1, hf1⟩ := hrel
    have HG := hid hg
    clear hg hr hf
    by_cases hlt : j < n
    · have hlt1 : (j : Int) < (n : Int) := by omega
      obtain ⟨g, rfl, hcell, _⟩ := hr1.bit (p + j) (by omega)
      have c0 := hr1.c0; have c1 := hr1.c1
      have hi1 : (0 : Int) ≤ (p : Int) + j := by omega
      have hi2 : (p : Int) + j < ((8 * T : Nat) : Int) := by omega
      have hi3 : (p : Int) + j < 8 * (T : Int) := by omega
      have hsu := seg_succ M (8 * T) p j (by omega)
      have hsl := seg_lt M (8 * T) p (j + 1)
      have hpw : 2 ^ (j + 1) ≤ 2 ^ 64 := Nat.pow_le_pow_right (by decide) (by omega)
      have HSU := hid hsu; have HSL := hid (Nat.lt_of_lt_of_le hsl hpw)
      clear hsu hsl hpw
      generalize seg M (8 * T) p j = sj at *
      generalize seg M (8 * T) (p + j) 1 = sb at *
      go_wp2_with fail
      go_quiet (fail)
      have hr2 := hr1.drewN nq
      have hf2 := hf1.drewN nq
      clear c0 c1 hcell hr1 hf1
      go_wp2_with fail
      have hval : IntKind.u64.wrap (IntKind.u64.wrap (2 * (sj : Int)) + IntKind.u64.wrap (sb : Int)) = ((seg M (8 * T) p (j + 1) : Nat) : Int) := by
        rw [← HSU.out]
        have hb : 2 * sj + sb < 18446744073709551616 := by rw [HSU.out]; exact HSL.out
        rw [IntWalk.u64_in (2 * (sj : Int)) (by omega), IntWalk.u64_in (sb : Int) (by omega), IntWalk.u64_in _ (by omega)]
        omega
      go_roundg (n - (j + 1))
      case measure => rw [HG.out]; omega
      case rel => exact ⟨j + 1, by omega, rfl, by rw [hval], by go_num, hr2, hf2⟩
    · have hge : ¬ (j : Int) < (n : Int) := by omega
      obtain rfl : j = n := by omega
      have c1 := hr1.c1; have f1 := hr1.f1
      have hmv := hr1.move (p + j)
      have hfm := hf1.setCell (p := ⟨q, 1, none⟩) rfl (.int .i64 ((p + j : Nat) : Int))
      rw [show ((p + j : Nat) : Int) = (p : Int) + j from by omega] at hmv hfm
      clear hr1 hf1
      go_wp2_with fail
      go_ret2
      exact ⟨rfl, hmv, hfm⟩

def RfAligned (w : World) (B q : Nat) (lo : Option Addr) (lcap M T p : Nat) (e : Ending) (w' : World) : Prop :=
  e = .returned (.int .i64 (alignS M T p).2) ∧ Rf w' B q lo lcap M T (alignS M T p).1 ∧ Fr (fun b => b = q) w w'

theorem align_bad (M T p j : Nat) (hp : p % 8 ≠ 0) (hj : j < 8 - p % 8) (hT : p < 8 * T) (h0 : seg M (8 * T) p j = 0) (h1 : seg M (8 * T) (p + j) 1 = 1) : alignS M T p = (p, 11) := by
  have e1 := seg_succ M (8 * T) p j (by omega)
  have e2 := seg_app M (8 * T) p (j + 1) (8 - p % 8 - (j + 1)) (by omega)
  rw [show j + 1 + (8 - p % 8 - (j + 1)) = 8 - p % 8 from by omega] at e2
  have e3 : seg M (8 * T) p (j + 1) = 1 := by omega
  rw [e3] at e2
  have := Nat.two_pow_pos (8 - p % 8 - (j + 1))
  unfold alignS
  rw [if_neg hp, if_neg (by omega)]

end Go.Proofs.Ytleamamecgmmjaa.Bit
