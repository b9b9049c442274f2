/- split of runs: how many bits the gamma codes of a list have, and the numbers that have rice codes. Conditions: those of the memory's own form alone. -/
import Derived.Test.YtjimamjhakainaaRg
import Derived.Test.YtjimamjhakainaaGa
import Derived.Deep.QuietTactic
namespace Go.Proofs.Ytjimamjhakainaa.Runs
open Go.RowKit Bit Rice

/-- The bits of the gamma codes, and the rests, of the first i numbers. -/
def sp (I : Nat → Int) : Nat → Nat × List Nat
  | 0 => (0, [])
  | i + 1 => if I i = 0 then sp I i else ((sp I i).1 + gl (rn I i + 1), (sp I i).2 ++ [zg (I i) - 1])
def spf (I : Nat → Int) (len : Nat) : Nat × List Nat := if 0 < rn I len then ((sp I len).1 + gl (rn I len + 1), (sp I len).2) else sp I len
theorem sp_le (I : Nat → Int) : ∀ i, (sp I i).1 ≤ 63 * i ∧ (sp I i).2.length ≤ i
  | 0 => ⟨Nat.le_refl _, Nat.le_refl _⟩
  | i + 1 => by
    have h := sp_le I i
    have h1 := gl_le (rn I i + 1)
    show (if I i = 0 then _ else _ : Nat × List Nat).1 ≤ _ ∧ (if I i = 0 then _ else _ : Nat × List Nat).2.length ≤ _
    split
    · omega
    · simp only [List.length_append, List.length_singleton]; omega
theorem spf_le (I : Nat → Int) (len : Nat) : (spf I len).1 ≤ 63 * len + 63 ∧ (spf I len).2.length ≤ len := by
  have h := sp_le I len
  have h1 := gl_le (rn I len + 1)
  unfold spf
  split
  · show (sp I len).1 + gl (rn I len + 1) ≤ _ ∧ (sp I len).2.length ≤ _; omega
  · omega
theorem sp_all {I : Nat → Int} : ∀ i, (∀ j, j < i → -9223372036854775808 ≤ I j ∧ I j ≤ 9223372036854775807) → ∀ u ∈ (sp I i).2, u < 18446744073709551616
  | 0, _, u, hu => by cases hu
  | i + 1, h, u, hu => by
    by_cases e : I i = 0
    · rw [show sp I (i + 1) = sp I i from if_pos e] at hu
      exact sp_all i (fun j hj => h j (by omega)) u hu
    · rw [show sp I (i + 1) = ((sp I i).1 + gl (rn I i + 1), (sp I i).2 ++ [zg (I i) - 1]) from if_neg e] at hu
      rcases List.mem_append.1 hu with e | e
      · exact sp_all i (fun j hj => h j (by omega)) u e
      · obtain rfl := List.mem_singleton.1 e
        have := zg_lt (h i (by omega)); omega
theorem spf_snd (I : Nat → Int) (len : Nat) : (spf I len).2 = (sp I len).2 := by unfold spf; split <;> rfl
theorem sp_zero {I : Nat → Int} {o : Nat} : ∀ k, (∀ i, i < k → I (o + i) = 0) → sp I (o + k) = sp I o
  | 0, _ => rfl
  | k + 1, h => by
    have h2 := sp_zero k fun i hi => h i (by omega)
    have hz := h k (by omega)
    show (if I (o + k) = 0 then sp I (o + k) else _) = _
    rw [if_pos hz, h2]

set_option maxRecDepth 100000 in
theorem split1_any (x : Int) (v c b : Nat) (hx : x = (v : Int)) (hv : v < 18446744073709551616) (w : World) (hc : w.cell? ⟨b, 0, none⟩ = some (.int .i64 (c : Int))) (hf : w.frozen? ⟨b, 0, none⟩ = false) (hl : c + gl v ≤ 9223372036854775807) :
    Calls Try.prog 116 #[.int .u64 x, .pointer (some ⟨b, 0, none⟩)] w fun e w' => e = .returned (.tuple #[]) ∧ w' = w.drew.setCell ⟨b, 0, none⟩ (.int .i64 ((c + gl v : Nat) : Int)) := by
  subst hx
  have HG := hid fun w => qt (gcost_any (v : Int) v rfl hv w)
  generalize gl v = g at *
  go_enter Try.func116, Try.ntmps116
  go_wp2_with fail
  go_still_tail 4, (by kernel_rfl)
  still_call (HG.out _)
  repeat still_step
  refine wpStill_nil ?_
  change wpList _ _ _ _ _ w.drew
  have hc2 : w.drew.cell? ⟨b, 0, none⟩ = some (.int .i64 (c : Int)) := hc
  have hf2 : w.drew.frozen? ⟨b, 0, none⟩ = false := hf
  clear hc hf
  go_wp2_with fail
  go_end0
  refine ⟨rfl, ?_⟩
  rw [Int.natCast_add]
  try rw [IntWalk.i64_in _ (by omega)]
  rfl

/-- The boxes of split: bits so far, rests so far. -/
def Sps (w W : World) (x : Nat × List Nat) (wr : World) : Prop := ∃ (lo : Option Addr) (lcap : Nat), wr.cell? ⟨w.heap.size + 1, 0, none⟩ = some (.int .i64 (x.1 : Int)) ∧ wr.frozen? ⟨w.heap.size + 1, 0, none⟩ = false ∧
  wr.cell? ⟨w.heap.size + 2, 0, none⟩ = some (.slice lo x.2.length lcap) ∧ wr.frozen? ⟨w.heap.size + 2, 0, none⟩ = false ∧ Ul wr w.heap.size lo lcap x.2 ∧ (∀ g, blk lo = some g → g = w.heap.size ∨ W.heap.size ≤ g) ∧
  Fr (fun g => w.heap.size ≤ g ∧ g < w.heap.size + 3) W wr
theorem Sps.drew {w W wr : World} {x : Nat × List Nat} (h : Sps w W x wr) : Sps w W x wr.drew := by
  obtain ⟨lo, lcap, a1, a2, a3, a4, a5, a6, a7⟩ := h
  exact ⟨lo, lcap, a1, a2, a3, a4, a5.fr (X := fun _ => False) (Fr.refl _ _).drew (fun _ _ x => x), a6, a7.drew⟩
theorem Sps.bits {w W wr : World} {x : Nat × List Nat} (h : Sps w W x wr) (hW : w.heap.size + 3 ≤ W.heap.size) (c : Nat) : Sps w W (c, x.2) (wr.drew.setCell ⟨w.heap.size + 1, 0, none⟩ (.int .i64 (c : Int))) := by
  obtain ⟨lo, lcap, a1, a2, a3, a4, a5, a6, a7⟩ := h.drew
  have hf : Fr (fun g => g = w.heap.size + 1) wr.drew (wr.drew.setCell ⟨w.heap.size + 1, 0, none⟩ (.int .i64 (c : Int))) := (Fr.refl (fun g => g = w.heap.size + 1) _).setCell (p := ⟨w.heap.size + 1, 0, none⟩) rfl _
  refine ⟨lo, lcap, World.cell?_setCell_same _ _ _ (by rw [a1]), by rw [frozen_setCell]; exact a2, by rw [World.cell?_setCell_other _ _ _ _ (by intro e; simp at e)]; exact a3, by rw [frozen_setCell]; exact a4,
    a5.fr hf (fun g hg e => by have e2 : g = w.heap.size + 1 := e; have := a6 g hg; omega), a6, a7.setCell (p := ⟨w.heap.size + 1, 0, none⟩) (show w.heap.size ≤ w.heap.size + 1 ∧ w.heap.size + 1 < w.heap.size + 3 by omega) _⟩

set_option maxHeartbeats 800000 in
set_option maxRecDepth 100000 in
theorem split2_any (x : Int) (u : Nat) (hx : x = (u : Int)) (w W wr : World) (r : Nat × List Nat) (h : Sps w W r wr) (hW : w.heap.size + 3 ≤ W.heap.size) (hl : r.2.length ≤ 1048576) :
    Calls Try.prog 118 #[.int .u64 x, .pointer (some ⟨w.heap.size + 2, 0, none⟩)] wr fun e w' => e = .returned (.tuple #[]) ∧ Sps w W (r.1, r.2 ++ [u]) w' := by
  subst hx
  obtain ⟨lo, lcap, a1, a2, a3, a4, a5, a6, a7⟩ := h
  obtain ⟨i0, hi, hz0, hz1, hz2⟩ := info_parts Try.info42
  have hul3 : Ul (wr.alloc (.cells #[.int .u64 (u : Int)] 42)) w.heap.size lo lcap r.2 := ownsRow_block a5 fun g hg => RowKit.Below.heap_alloc _ _ _ (a5.lt g hg).2
  have hcell : (wr.alloc (.cells #[.int .u64 (u : Int)] 42)).cell? ⟨wr.heap.size, 0, none⟩ = some (.int .u64 (u : Int)) := by simp
  have hWr : W.heap.size ≤ wr.heap.size := a7.size
  have hsz : w.heap.size ≤ (wr.alloc (.cells #[.int .u64 (u : Int)] 42)).heap.size := by simp; omega
  unfold Ul at hul3
  have l1 : w.heap.size + 1 < wr.heap.size := by omega
  have l2 : w.heap.size + 2 < wr.heap.size := by omega
  have b1 : ∀ p, p = w.heap.size + 1 ∨ p = w.heap.size + 2 → (wr.alloc (.cells #[.int .u64 (u : Int)] 42)).heap[p]? = wr.heap[p]? := fun p hp => RowKit.Below.heap_alloc _ _ _ (by omega)
  have ne1 : blk lo ≠ some (w.heap.size + 1) := fun e => by have := a6 _ e; omega
  have ne2 : blk lo ≠ some (w.heap.size + 2) := fun e => by have := a6 _ e; omega
  have HB1 := hid b1
  clear b1
  go_enter Try.func118, Try.ntmps118
  go_wp2_with (at_builtin; go_must (refine wpList_append_one rfl (.tmp 3) (.tmp 5) 63 rfl w.heap.size 42 i0 (.int .u64 0) 8 Try.underlying63 hi hz0 hz1 hz2 rfl lo r.2.length lcap (ul r.2) rfl hul3 ⟨wr.heap.size, 0, none⟩ 1 (.int .u64 (u : Int)) rfl hcell rfl (by unfold maxLen; omega) (by omega) hsz ?_))
  intro gg cap' w4 hown4 hkept
  have k4 : w4.cell? ⟨w.heap.size + 2, 0, none⟩ = some (.slice lo r.2.length lcap) := ((hkept.grown.cell_far ⟨w.heap.size + 2, 0, none⟩ (by simp; omega) ne2.symm).trans (World.cell?_of_block (HB1.out _ (.inr rfl)))).trans a3
  have k5 : w4.frozen? ⟨w.heap.size + 2, 0, none⟩ = false := ((hkept.grown.frozen_far ⟨w.heap.size + 2, 0, none⟩ (by simp; omega) ne2.symm).trans (World.frozen?_of_block (HB1.out _ (.inr rfl)))).trans a4
  have k6 : w4.cell? ⟨w.heap.size + 1, 0, none⟩ = some (.int .i64 (r.1 : Int)) := ((hkept.grown.cell_far ⟨w.heap.size + 1, 0, none⟩ (by simp; omega) ne1.symm).trans (World.cell?_of_block (HB1.out _ (.inl rfl)))).trans a1
  have k7 : w4.frozen? ⟨w.heap.size + 1, 0, none⟩ = false := ((hkept.grown.frozen_far ⟨w.heap.size + 1, 0, none⟩ (by simp; omega) ne1.symm).trans (World.frozen?_of_block (HB1.out _ (.inl rfl)))).trans a2
  have hat : gg = w.heap.size ∨ W.heap.size ≤ gg := by
    rcases hkept.at_ with e | e
    · exact a6 gg e
    · simp at e; omega
  have hf4 : Fr (fun g => w.heap.size ≤ g ∧ g < w.heap.size + 3) W w4 := (a7.alloc _).grown hkept.grown fun k hk hl2 => by have := a6 k hk; omega
  have hfs : Fr (fun g => g = w.heap.size + 2) w4 (w4.setCell ⟨w.heap.size + 2, 0, none⟩ (.slice (some ⟨gg, 0, none⟩) (r.2.length + 1) cap')) := (Fr.refl (fun g => g = w.heap.size + 2) _).setCell (p := ⟨w.heap.size + 2, 0, none⟩) rfl _
  have hown5 : Ul w4 w.heap.size (some ⟨gg, 0, none⟩) cap' (r.2 ++ [u]) := by
    unfold Ul
    rw [List.length_append, ul_app]
    exact hown4
  have hfin : Sps w W (r.1, r.2 ++ [u]) (w4.setCell ⟨w.heap.size + 2, 0, none⟩ (.slice (some ⟨gg, 0, none⟩) (r.2.length + 1) cap')) := by
    refine ⟨some ⟨gg, 0, none⟩, cap', ?_, ?_, ?_, ?_, ?_, fun g hg => ?_, ?_⟩
    · rw [World.cell?_setCell_other _ _ _ _ (by intro e; simp at e)]; exact k6
    · rw [frozen_setCell]; exact k7
    · simp only [List.length_append, List.length_singleton]
      exact World.cell?_setCell_same _ _ _ (by rw [k4])
    · rw [frozen_setCell]; exact k5
    · exact hown5.fr hfs (fun g hg e => by simp [blk] at hg; omega)
    · simp [blk] at hg; omega
    · exact hf4.setCell (p := ⟨w.heap.size + 2, 0, none⟩) (show w.heap.size ≤ w.heap.size + 2 ∧ w.heap.size + 2 < w.heap.size + 3 by omega) _
  clear hown4 hkept hown5 hf4 hfs k6 k7 a1 a2 a3 a4 a5 hul3 hcell
  go_wp2_with fail
  go_end0
  exact ⟨rfl, hfin⟩
end Go.Proofs.Ytjimamjhakainaa.Runs
