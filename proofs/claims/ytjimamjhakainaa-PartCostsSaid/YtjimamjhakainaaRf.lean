/- The document's own reader of a list of bits, and its calls Read, Left, Get, Align: what they answer, where it stands behind them, and that nothing else has turned. Conditions: fewer than 2^20 bytes. -/
import Derived.Test.YtjimamjhakainaaRef
namespace Go.Proofs.Ytjimamjhakainaa.Bit
open Go.RowKit

structure Rf (w : World) (B q : Nat) (lo : Option Addr) (lcap M T p : Nat) : Prop where
  c0 : w.cell? ⟨q, 0, none⟩ = some (.slice lo (8 * T) lcap)
  c1 : w.cell? ⟨q, 1, none⟩ = some (.int .i64 (p : Int))
  f1 : w.frozen? ⟨q, 1, none⟩ = false
  own : w.ownsRow B 3 1 (.slice lo (8 * T) lcap) (8 * T) (bl M T (8 * T))
  far : blk lo ≠ some q

theorem Rf.keep {w w' : World} {B q : Nat} {lo : Option Addr} {lcap M T p : Nat} (h : Rf w B q lo lcap M T p) {X : Nat → Prop} (hf : Fr X w w') (hq : ¬ X q) (hg : ∀ g, blk lo = some g → ¬ X g) : Rf w' B q lo lcap M T p := by
  have lq : q < w.heap.size := World.block_lt_of_cell? w _ h.c0
  exact ⟨(hf.cell (p := ⟨q, 0, none⟩) lq hq).trans h.c0, (hf.cell (p := ⟨q, 1, none⟩) lq hq).trans h.c1, (hf.frozen (p := ⟨q, 1, none⟩) lq hq).trans h.f1,
    ownsRow_block h.own fun g hg' => hf.block g (h.own.lt g (by rw [ownBlock_slice]; exact hg')).2 (hg g hg'), h.far⟩
theorem Rf.move {w : World} {B q : Nat} {lo : Option Addr} {lcap M T p : Nat} (h : Rf w B q lo lcap M T p) (p' : Nat) : Rf (w.setCell ⟨q, 1, none⟩ (.int .i64 (p' : Int))) B q lo lcap M T p' :=
  ⟨by rw [World.cell?_setCell_other _ _ _ _ (by intro e; simp at e)]; exact h.c0, World.cell?_setCell_same _ _ _ (by rw [h.c1]), by rw [frozen_setCell]; exact h.f1,
    ownsRow_block h.own fun g hg => RowKit.Below.heap_setCell _ _ _ _ (fun e => h.far (by rw [hg, e])), h.far⟩
theorem Rf.drewN {w : World} {B q : Nat} {lo : Option Addr} {lcap M T p : Nat} (h : Rf w B q lo lcap M T p) (n : Nat) : Rf (w.drewN n) B q lo lcap M T p := h.keep (X := fun _ => False) ((Fr.refl _ _).drewN n) (fun x => x) (fun _ _ x => x)
theorem Rf.bit {w : World} {B q : Nat} {lo : Option Addr} {lcap M T p : Nat} (h : Rf w B q lo lcap M T p) (i : Nat) (hi : i < 8 * T) : ∃ g, lo = some ⟨g, 0, none⟩ ∧ w.cell? ⟨g, i, none⟩ = some (.int .i64 (seg M (8 * T) i 1 : Int)) ∧ g ≠ q := by
  rcases ownsRow_at h.own with ⟨_, h1, _, _⟩ | ⟨g, rfl⟩
  · omega
  · exact ⟨g, rfl, ownsRow_cell h.own i _ (bl_at M T _ i hi), fun e => h.far (by rw [← e]; rfl)⟩
theorem seg1 (M T i : Nat) : seg M T i 1 = 0 ∨ seg M T i 1 = 1 := by have := seg_lt M T i 1; omega

def RfGot (w : World) (B q : Nat) (lo : Option Addr) (lcap M T p n : Nat) (e : Ending) (w' : World) : Prop :=
  e = .returned (.tuple #[.int .u64 (seg M (8 * T) p n : Int), .int .i64 0]) ∧ Rf w' B q lo lcap M T (p + n) ∧ Fr (fun b => b = q) w w'

theorem seg_succ (M T p i : Nat) (h : p + (i + 1) ≤ T) : 2 * seg M T p i + seg M T (p + i) 1 = seg M T p (i + 1) := by have := seg_app M T p i 1 h; omega

def RfAligned (w : World) (B q : Nat) (lo : Option Addr) (lcap M T p : Nat) (e : Ending) (w' : World) : Prop :=
  e = .returned (.int .i64 (alignS M T p).2) ∧ Rf w' B q lo lcap M T (alignS M T p).1 ∧ Fr (fun b => b = q) w w'

theorem align_bad (M T p j : Nat) (hp : p % 8 ≠ 0) (hj : j < 8 - p % 8) (hT : p < 8 * T) (h0 : seg M (8 * T) p j = 0) (h1 : seg M (8 * T) (p + j) 1 = 1) : alignS M T p = (p, 11) := by
  have e1 := seg_succ M (8 * T) p j (by omega)
  have e2 := seg_app M (8 * T) p (j + 1) (8 - p % 8 - (j + 1)) (by omega)
  rw [show j + 1 + (8 - p % 8 - (j + 1)) = 8 - p % 8 from by omega] at e2
  have e3 : seg M (8 * T) p (j + 1) = 1 := by omega
  rw [e3] at e2
  have := Nat.two_pow_pos (8 - p % 8 - (j + 1))
  unfold alignS
  rw [if_neg hp, if_neg (by omega)]

end Go.Proofs.Ytjimamjhakainaa.Bit
