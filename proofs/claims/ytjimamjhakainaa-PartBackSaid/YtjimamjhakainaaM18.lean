/- split of runs: how many bits the gamma codes of a list have, and the numbers that have rice codes. Conditions: those of the memory's own form alone. -/
import Derived.Test.YtjimamjhakainaaM15
import Derived.Test.YtjimamjhakainaaM17
import Derived.Deep.QuietTactic
import Derived.Test.YtjimamjhakainaaM08
import Derived.Test.YtjimamjhakainaaSQc
namespace Go.Proofs.Ytjimamjhakainaa.Runs
open Go.RowKit Bit Rice

/-- The bits of the gamma codes, and the rests, of the first i numbers. -/
def sp (I : Nat → Int) : Nat → Nat × List Nat
  | 0 => (0, [])
  | i + 1 => if I i = 0 then sp I i else ((sp I i).1 + gl (rn I i + 1), (sp I i).2 ++ [zg (I i) - 1])
def spf (I : Nat → Int) (len : Nat) : Nat × List Nat := if 0 < rn I len then ((sp I len).1 + gl (rn I len + 1), (sp I len).2) else sp I len
theorem sp_le (I : Nat → Int) : ∀ i, (sp I i).1 ≤ 63 * i ∧ (sp I i).2.length ≤ i
  | 0 => ⟨Nat.le_refl _, Nat.le_refl _⟩
  | i + 1 => by
    have h := sp_le I i
    have h1 := gl_le (rn I i + 1)
    show (if I i = 0 then _ else _ : Nat × List Nat).1 ≤ _ ∧ (if I i = 0 then _ else _ : Nat × List Nat).2.length ≤ _
    split
    · omega
    · simp only [List.length_append, List.length_singleton]; omega
theorem spf_le (I : Nat → Int) (len : Nat) : (spf I len).1 ≤ 63 * len + 63 ∧ (spf I len).2.length ≤ len := by
  have h := sp_le I len
  have h1 := gl_le (rn I len + 1)
  unfold spf
  split
  · show (sp I len).1 + gl (rn I len + 1) ≤ _ ∧ (sp I len).2.length ≤ _; omega
  · omega
theorem sp_all {I : Nat → Int} : ∀ i, (∀ j, j < i → -9223372036854775808 ≤ I j ∧ I j ≤ 9223372036854775807) → ∀ u ∈ (sp I i).2, u < 18446744073709551616
  | 0, _, u, hu => by cases hu
  | i + 1, h, u, hu => by
    by_cases e : I i = 0
    · rw [show sp I (i + 1) = sp I i from if_pos e] at hu
      exact sp_all i (fun j hj => h j (by omega)) u hu
    · rw [show sp I (i + 1) = ((sp I i).1 + gl (rn I i + 1), (sp I i).2 ++ [zg (I i) - 1]) from if_neg e] at hu
      rcases List.mem_append.1 hu with e | e
      · exact sp_all i (fun j hj => h j (by omega)) u e
      · obtain rfl := List.mem_singleton.1 e
        have := zg_lt (h i (by omega)); omega
theorem spf_snd (I : Nat → Int) (len : Nat) : (spf I len).2 = (sp I len).2 := by unfold spf; split <;> rfl
theorem sp_zero {I : Nat → Int} {o : Nat} : ∀ k, (∀ i, i < k → I (o + i) = 0) → sp I (o + k) = sp I o
  | 0, _ => rfl
  | k + 1, h => by
    have h2 := sp_zero k fun i hi => h i (by omega)
    have hz := h k (by omega)
    show (if I (o + k) = 0 then sp I (o + k) else _) = _
    rw [if_pos hz, h2]

set_option maxRecDepth 100000 in
theorem split1_any (x : Int) (v c b : Nat) (hx : x = (v : Int)) (hv : v < 18446744073709551616) (w : World) (hc : w.cell? ⟨b, 0, none⟩ = some (.int .i64 (c : Int))) (hf : w.frozen? ⟨b, 0, none⟩ = false) (hl : c + gl v ≤ 9223372036854775807) :
    Calls Try.prog 116 #[.int .u64 x, .pointer (some ⟨b, 0, none⟩)] w fun e w' => e = .returned (.tuple #[]) ∧ w' = w.drew.setCell ⟨b, 0, none⟩ (.int .i64 ((c + gl v : Nat) : Int)) := by
  subst hx
  have HG := hid fun w => qt (gcost_any (v : Int) v rfl hv w)
  generalize gl v = g at *
  go_enter Try.func116, Try.ntmps116
  go_wp2_with fail
  go_still_tail 4, (by kernel_rfl)
  still_call (HG.out _)
  repeat still_step
  refine wpStill_nil ?_
  change wpList _ _ _ _ _ w.drew
  have hc2 : w.drew.cell? ⟨b, 0, none⟩ = some (.int .i64 (c : Int)) := hc
  have hf2 : w.drew.frozen? ⟨b, 0, none⟩ = false := hf
  clear hc hf
  go_wp2_with fail
  go_end0
  refine ⟨rfl, ?_⟩
  rw [Int.natCast_add]
  try rw [IntWalk.i64_in _ (by omega)]
  rfl

/-- The boxes of split: bits so far, rests so far. -/
def Sps (w W : World) (x : Nat × List Nat) (wr : World) : Prop := ∃ (lo : Option Addr) (lcap : Nat), wr.cell? ⟨w.heap.size + 1, 0, none⟩ = some (.int .i64 (x.1 : Int)) ∧ wr.frozen? ⟨w.heap.size + 1, 0, none⟩ = false ∧
  wr.cell? ⟨w.heap.size + 2, 0, none⟩ = some (.slice lo x.2.length lcap) ∧ wr.frozen? ⟨w.heap.size + 2, 0, none⟩ = false ∧ Ul wr w.heap.size lo lcap x.2 ∧ (∀ g, blk lo = some g → g = w.heap.size ∨ W.heap.size ≤ g) ∧
  Fr (fun g => w.heap.size ≤ g ∧ g < w.heap.size + 3) W wr
theorem Sps.drew {w W wr : World} {x : Nat × List Nat} (h : Sps w W x wr) : Sps w W x wr.drew := by
  obtain ⟨lo, lcap, a1, a2, a3, a4, a5, a6, a7⟩ := h
  exact ⟨lo, lcap, a1, a2, a3, a4, a5.fr (X := fun _ => False) (Fr.refl _ _).drew (fun _ _ x => x), a6, a7.drew⟩
theorem Sps.bits {w W wr : World} {x : Nat × List Nat} (h : Sps w W x wr) (hW : w.heap.size + 3 ≤ W.heap.size) (c : Nat) : Sps w W (c, x.2) (wr.drew.setCell ⟨w.heap.size + 1, 0, none⟩ (.int .i64 (c : Int))) := by
  obtain ⟨lo, lcap, a1, a2, a3, a4, a5, a6, a7⟩ := h.drew
  have hf : Fr (fun g => g = w.heap.size + 1) wr.drew (wr.drew.setCell ⟨w.heap.size + 1, 0, none⟩ (.int .i64 (c : Int))) := (Fr.refl (fun g => g = w.heap.size + 1) _).setCell (p := ⟨w.heap.size + 1, 0, none⟩) rfl _
  refine ⟨lo, lcap, World.cell?_setCell_same _ _ _ (by rw [a1]), by rw [frozen_setCell]; exact a2, by rw [World.cell?_setCell_other _ _ _ _ (by intro e; simp at e)]; exact a3, by rw [frozen_setCell]; exact a4,
    a5.fr hf (fun g hg e => by have e2 : g = w.heap.size + 1 := e; have := a6 g hg; omega), a6, a7.setCell (p := ⟨w.heap.size + 1, 0, none⟩) (show w.heap.size ≤ w.heap.size + 1 ∧ w.heap.size + 1 < w.heap.size + 3 by omega) _⟩

set_option maxHeartbeats 800000 in
set_option maxRecDepth 100000 in
theorem split2_any (x : Int) (u : Nat) (hx : x = (u : Int)) (w W wr : World) (r : Nat × List Nat) (h : Sps w W r wr) (hW : w.heap.size + 3 ≤ W.heap.size) (hl : r.2.length ≤ 1048576) :
    Calls Try.prog 118 #[.int .u64 x, .pointer (some ⟨w.heap.size + 2, 0, none⟩)] wr fun e w' => e = .returned (.tuple #[]) ∧ Sps w W (r.1, r.2 ++ [u]) w' := by
  subst hx
  obtain ⟨lo, lcap, a1, a2, a3, a4, a5, a6, a7⟩ := h
  obtain ⟨i0, hi, hz0, hz1, hz2⟩ := info_parts Try.info42
  have hul3 : Ul (wr.alloc (.cells #[.int .u64 (u : Int)] 42)) w.heap.size lo lcap r.2 := ownsRow_block a5 fun g hg => RowKit.Below.heap_alloc _ _ _ (a5.lt g hg).2
  have hcell : (wr.alloc (.cells #[.int .u64 (u : Int)] 42)).cell? ⟨wr.heap.size, 0, none⟩ = some (.int .u64 (u : Int)) := by simp
  have hWr : W.heap.size ≤ wr.heap.size := a7.size
  have hsz : w.heap.size ≤ (wr.alloc (.cells #[.int .u64 (u : Int)] 42)).heap.size := by simp; omega
  unfold Ul at hul3
  have l1 : w.heap.size + 1 < wr.heap.size := by omega
  have l2 : w.heap.size + 2 < wr.heap.size := by omega
  have b1 : ∀ p, p = w.heap.size + 1 ∨ p = w.heap.size + 2 → (wr.alloc (.cells #[.int .u64 (u : Int)] 42)).heap[p]? = wr.heap[p]? := fun p hp => RowKit.Below.heap_alloc _ _ _ (by omega)
  have ne1 : blk lo ≠ some (w.heap.size + 1) := fun e => by have := a6 _ e; omega
  have ne2 : blk lo ≠ some (w.heap.size + 2) := fun e => by have := a6 _ e; omega
  have HB1 := hid b1
  clear b1
  go_enter Try.func118, Try.ntmps118
  go_wp2_with (at_builtin; go_must (refine wpList_append_one rfl (.tmp 3) (.tmp 5) 63 rfl w.heap.size 42 i0 (.int .u64 0) 8 Try.underlying63 hi hz0 hz1 hz2 rfl lo r.2.length lcap (ul r.2) rfl hul3 ⟨wr.heap.size, 0, none⟩ 1 (.int .u64 (u : Int)) rfl hcell rfl (by unfold maxLen; omega) (by omega) hsz ?_))
  intro gg cap' w4 hown4 hkept
  have k4 : w4.cell? ⟨w.heap.size + 2, 0, none⟩ = some (.slice lo r.2.length lcap) := ((hkept.grown.cell_far ⟨w.heap.size + 2, 0, none⟩ (by simp; omega) ne2.symm).trans (World.cell?_of_block (HB1.out _ (.inr rfl)))).trans a3
  have k5 : w4.frozen? ⟨w.heap.size + 2, 0, none⟩ = false := ((hkept.grown.frozen_far ⟨w.heap.size + 2, 0, none⟩ (by simp; omega) ne2.symm).trans (World.frozen?_of_block (HB1.out _ (.inr rfl)))).trans a4
  have k6 : w4.cell? ⟨w.heap.size + 1, 0, none⟩ = some (.int .i64 (r.1 : Int)) := ((hkept.grown.cell_far ⟨w.heap.size + 1, 0, none⟩ (by simp; omega) ne1.symm).trans (World.cell?_of_block (HB1.out _ (.inl rfl)))).trans a1
  have k7 : w4.frozen? ⟨w.heap.size + 1, 0, none⟩ = false := ((hkept.grown.frozen_far ⟨w.heap.size + 1, 0, none⟩ (by simp; omega) ne1.symm).trans (World.frozen?_of_block (HB1.out _ (.inl rfl)))).trans a2
  have hat : gg = w.heap.size ∨ W.heap.size ≤ gg := by
    rcases hkept.at_ with e | e
    · exact a6 gg e
    · simp at e; omega
  have hf4 : Fr (fun g => w.heap.size ≤ g ∧ g < w.heap.size + 3) W w4 := (a7.alloc _).grown hkept.grown fun k hk hl2 => by have := a6 k hk; omega
  have hfs : Fr (fun g => g = w.heap.size + 2) w4 (w4.setCell ⟨w.heap.size + 2, 0, none⟩ (.slice (some ⟨gg, 0, none⟩) (r.2.length + 1) cap')) := (Fr.refl (fun g => g = w.heap.size + 2) _).setCell (p := ⟨w.heap.size + 2, 0, none⟩) rfl _
  have hown5 : Ul w4 w.heap.size (some ⟨gg, 0, none⟩) cap' (r.2 ++ [u]) := by
    unfold Ul
    rw [List.length_append, ul_app]
    exact hown4
  have hfin : Sps w W (r.1, r.2 ++ [u]) (w4.setCell ⟨w.heap.size + 2, 0, none⟩ (.slice (some ⟨gg, 0, none⟩) (r.2.length + 1) cap')) := by
    refine ⟨some ⟨gg, 0, none⟩, cap', ?_, ?_, ?_, ?_, ?_, fun g hg => ?_, ?_⟩
    · rw [World.cell?_setCell_other _ _ _ _ (by intro e; simp at e)]; exact k6
    · rw [frozen_setCell]; exact k7
    · simp only [List.length_append, List.length_singleton]
      exact World.cell?_setCell_same _ _ _ (by rw [k4])
    · rw [frozen_setCell]; exact k5
    · exact hown5.fr hfs (fun g hg e => by simp [blk] at hg; omega)
    · simp [blk] at hg; omega
    · exact hf4.setCell (p := ⟨w.heap.size + 2, 0, none⟩) (show w.heap.size ≤ w.heap.size + 2 ∧ w.heap.size + 2 < w.heap.size + 3 by omega) _
  clear hown4 hkept hown5 hf4 hfs k6 k7 a1 a2 a3 a4 a5 hul3 hcell
  go_wp2_with fail
  go_end0
  exact ⟨rfl, hfin⟩
end Go.Proofs.Ytjimamjhakainaa.Runs
/- split, Cost and Best of runs: what they answer. Conditions: at most 2^20 numbers. -/
namespace Go.Proofs.Ytjimamjhakainaa.Runs
open Go.RowKit Bit Rice

/-- The world in which split goes over its list. -/
def sp0 (w : World) : World := ((w.alloc (.cells #[] 42)).alloc (.cells #[.int .i64 0] 3)).alloc (.cells #[.slice (some ⟨w.heap.size, 0, none⟩) 0 0] 63)
theorem sp0_size (w : World) : (sp0 w).heap.size = w.heap.size + 3 := by simp [sp0]
theorem sp0_below (w : World) : Below w.heap.size w (sp0 w) := (((Below.refl _ _).alloc (Nat.le_refl _) _).alloc (by simp) _).alloc (by simp; omega) _
theorem sp0_sps (w W : World) (hb : Below (sp0 w).heap.size (sp0 w) W) : Sps w W (0, []) W := by
  have z := sp0_size w
  have c2 : (sp0 w).cell? ⟨w.heap.size + 2, 0, none⟩ = some (.slice (some ⟨w.heap.size, 0, none⟩) 0 0) := by
    have g : ∀ V : World, V.heap.size = w.heap.size + 2 → (V.alloc (.cells #[.slice (some ⟨w.heap.size, 0, none⟩) 0 0] 63)).cell? ⟨w.heap.size + 2, 0, none⟩ = some (.slice (some ⟨w.heap.size, 0, none⟩) 0 0) := fun V h => by rw [← h]; simp
    exact g _ (by simp)
  have f2 : (sp0 w).frozen? ⟨w.heap.size + 2, 0, none⟩ = false := by
    have g : ∀ V : World, V.heap.size = w.heap.size + 2 → (V.alloc (.cells #[.slice (some ⟨w.heap.size, 0, none⟩) 0 0] 63)).frozen? ⟨w.heap.size + 2, 0, none⟩ = false := fun V h => by rw [← h]; simp
    exact g _ (by simp)
  have b1 : (sp0 w).heap[w.heap.size + 1]? = ((w.alloc (.cells #[] 42)).alloc (.cells #[.int .i64 0] 3)).heap[w.heap.size + 1]? := RowKit.Below.heap_alloc _ _ _ (by simp)
  have c1 : (sp0 w).cell? ⟨w.heap.size + 1, 0, none⟩ = some (.int .i64 0) := by
    rw [World.cell?_of_block (a := ⟨w.heap.size + 1, 0, none⟩) b1]
    have e : (w.alloc (.cells #[] 42)).heap.size = w.heap.size + 1 := by simp
    rw [← e]; simp
  have f1 : (sp0 w).frozen? ⟨w.heap.size + 1, 0, none⟩ = false := by
    rw [World.frozen?_of_block (a := ⟨w.heap.size + 1, 0, none⟩) b1]
    have e : (w.alloc (.cells #[] 42)).heap.size = w.heap.size + 1 := by simp
    rw [← e]; simp
  have own0 : (w.alloc (.cells #[] 42)).ownsRow w.heap.size 42 1 (.slice (some ⟨w.heap.size, 0, none⟩) 0 0) 0 [] := World.ownsRow_made w #[] 0 (Nat.le_refl _) (Nat.zero_le _) rfl
  have own : Ul (sp0 w) w.heap.size (some ⟨w.heap.size, 0, none⟩) 0 [] := ownsRow_block (ownsRow_block own0 fun g hg => RowKit.Below.heap_alloc _ _ _ (by simp [blk] at hg; simp; omega)) fun g hg => RowKit.Below.heap_alloc _ _ _ (by simp [blk] at hg; simp; omega)
  refine ⟨some ⟨w.heap.size, 0, none⟩, 0, (hb.cell (p := ⟨w.heap.size + 1, 0, none⟩) (by rw [z]; show w.heap.size + 1 < _; omega)).trans c1, (hb.frozen (p := ⟨w.heap.size + 1, 0, none⟩) (by rw [z]; show w.heap.size + 1 < _; omega)).trans f1,
    (hb.cell (p := ⟨w.heap.size + 2, 0, none⟩) (by rw [z]; show w.heap.size + 2 < _; omega)).trans c2, (hb.frozen (p := ⟨w.heap.size + 2, 0, none⟩) (by rw [z]; show w.heap.size + 2 < _; omega)).trans f2,
    own.fr (fr_of_below hb) (fun _ _ x => x), fun g hg => .inl (by simpa [blk] using hg.symm), Fr.refl _ _⟩

def SplitPost (w : World) (x : Nat × List Nat) (e : Ending) (w' : World) : Prop := ∃ lo lcap, e = .returned (.tuple #[.int .i64 (x.1 : Int), .slice lo x.2.length lcap]) ∧ Ul w' w.heap.size lo lcap x.2 ∧ Below w.heap.size w w'
set_option maxRecDepth 100000 in
theorem split_any (w : World) (a : Option Addr) (len cap b off : Nat) (I : Nat → Int) (h : Is w a len cap b off I) (hlen : len ≤ 1048576) :
    Calls Try.prog 94 #[.slice a len cap] w (SplitPost w (spf I len)) := by
  let fg : Value := .func (.func 116) #[] #[.pointer (some ⟨w.heap.size + 1, 0, none⟩)]
  let fr : Value := .func (.func 118) #[] #[.pointer (some ⟨w.heap.size + 2, 0, none⟩)]
  have hbb := boxes_below (sp0 w) fg fr
  have hWs := boxes_size (sp0 w) fg fr
  have hz := sp0_size w
  have h1 := h.below (sp0_below w) h.lt
  have hcd := codes_any 116 118 #[.pointer (some ⟨w.heap.size + 1, 0, none⟩)] #[.pointer (some ⟨w.heap.size + 2, 0, none⟩)] (fun args w => Try.call116 args w) (fun args w => Try.call118 args w)
    (sp0 w) a len cap b off I (Sps w (boxes (sp0 w) fg fr) (spf I len))
    (fun o wr => o ≤ len ∧ rn I o = 0 ∧ Sps w (boxes (sp0 w) fg fr) (sp I o) wr)
    (fun o k wr => o + k ≤ len ∧ rn I o = 0 ∧ Sps w (boxes (sp0 w) fg fr) ((sp I o).1 + gl (k + 1), (sp I o).2) wr)
    (fun g => w.heap.size ≤ g ∧ g < w.heap.size + 3) h1
    (fun g hg => by rw [hz]; exact hg.2)
    (fun h0 e => by have := h.lt h0; have := e.1; omega)
    ⟨Nat.zero_le _, rfl, sp0_sps w _ hbb⟩
    (fun o wr ⟨_, _, _, _, _, _, _, _, _, _, hf⟩ => hf)
    (fun o k wr ⟨_, _, _, _, _, _, _, _, _, _, hf⟩ => hf)
    (fun o k wr ⟨q1, q2, hs⟩ => ⟨q1, q2, hs.drew⟩)
    (fun o k wr x hle hz2 hor ⟨q1, q2, hs⟩ hx => by
      have hl := sp_le I o
      have hg := gl_le (k + 1)
      obtain ⟨lo, lcap, a1, a2, a3⟩ := hs
      refine (split1_any x (k + 1) (sp I o).1 (w.heap.size + 1) hx (by omega) wr a1 a2 (by omega)).mono ?_
      rintro e w' ⟨rfl, rfl⟩
      exact ⟨rfl, hle, q2, Sps.bits (x := sp I o) ⟨lo, lcap, a1, a2, a3⟩ (by rw [hWs, hz]; omega) _⟩)
    (fun o k wr y hlt hz2 hnz ⟨q1, q2, hs⟩ hy => by
      have hl := sp_le I o
      refine (split2_any y (zg (I (o + k)) - 1) hy w _ wr _ hs (by rw [hWs, hz]; omega) (by show (sp I o).2.length ≤ _; omega)).mono ?_
      rintro e w' ⟨rfl, hs'⟩
      obtain ⟨e1, e2⟩ := runs_zero (kp := 0) (p := (0, 0)) q2 k hz2
      have e3 := sp_zero k hz2
      have e4 : sp I (o + k + 1) = ((sp I o).1 + gl (k + 1), (sp I o).2 ++ [zg (I (o + k)) - 1]) := by
        show (if I (o + k) = 0 then _ else _) = _
        rw [if_neg hnz, e1, e3]
      refine ⟨rfl, hlt, if_neg hnz, ?_⟩
      rw [e4]
      exact hs')
    (fun wr ⟨q1, q2, hs⟩ => by
      unfold spf
      rw [q2, if_neg (Nat.lt_irrefl _)]
      exact hs)
    (fun o k wr hlt hz2 hk0 ⟨q1, q2, hs⟩ => by
      obtain ⟨e1, e2⟩ := runs_zero (kp := 0) (p := (0, 0)) q2 k hz2
      have e3 := sp_zero k hz2
      unfold spf
      rw [← hlt, e1, e3, if_pos hk0]
      exact hs)
  have HCD := hid hcd
  have HB := hid ((sp0_below w).trans (hbb.mono (by rw [hz]; omega)))
  have HW := hid (show w.heap.size ≤ (boxes (sp0 w) fg fr).heap.size by rw [hWs, hz]; omega)
  clear hcd h1 hbb hWs hz h
  go_enter Try.func94, Try.ntmps94
  go_wp2_with fail
  refine Calls.mono HCD.out ?_
  rintro e w1 ⟨rfl, lo, lcap, a1, a2, a3, a4, a5, a6, a7⟩
  have hb1 : Below w.heap.size w w1 := HB.out.trans ⟨a7.os, a7.tape, a7.output, a7.size, fun k hk => a7.block k (by have := HW.out; omega) (by omega)⟩
  have HB1 := hid hb1
  have HU := hid a5
  clear a2 a4 a5 a6 a7 hb1
  generalize spf I len = x at *
  go_wp2_with fail
  go_quiet (fail)
  have hfin : SplitPost w x (.returned (.tuple #[.int .i64 (x.1 : Int), .slice lo x.2.length lcap])) (w1.drewN nq) := ⟨lo, lcap, rfl, HU.out.fr (X := fun _ => False) ((Fr.refl _ _).drewN nq) (fun _ _ x => x), HB1.out.trans ⟨rfl, rfl, rfl, Nat.le_refl _, fun _ _ => rfl⟩⟩
  clear a1 a3
  go_wp2_with fail
  go_ret2
  exact hfin

/-- What a list's rests are, as a function. -/
def ru (I : Nat → Int) (len : Nat) : Nat → Nat := fun i => (spf I len).2.getD i 0
/-- What a list costs, that is coded. -/
def cst (I : Nat → Int) (k : Int) (len : Nat) : Nat := (spf I len).1 + tot (ru I len) k (spf I len).2.length
instance (I : Nat → Int) (len : Nat) : Decidable (allZ I len) := by unfold allZ; infer_instance
def cstI (I : Nat → Int) (k : Int) (len : Nat) : Nat := if okK k ∧ allZ I len then cst I k len else 0
theorem cst_le (I : Nat → Int) (k : Int) (len : Nat) : cst I k len ≤ 127 * len + 63 := by
  have h1 := spf_le I len
  have h2 := tot_le (ru I len) k (spf I len).2.length
  unfold cst
  omega

/-- The best parameter from 0 to j. -/
def rbs (I : Nat → Int) (len : Nat) : Nat → Nat
  | 0 => 0
  | j + 1 => if cstI I (j + 1 : Nat) len < cstI I (rbs I len j : Nat) len then j + 1 else rbs I len j
theorem rbs_le (I : Nat → Int) (len : Nat) : ∀ j, rbs I len j ≤ j
  | 0 => Nat.le_refl _
  | j + 1 => by
    have := rbs_le I len j
    show (if _ then _ else _) ≤ _
    split
    · exact Nat.le_refl _
    · exact Nat.le_succ_of_le this
theorem rbs_bst {I : Nat → Int} {len : Nat} (hz : allZ I len) : ∀ j, j ≤ 30 → rbs I len j = bst (ru I len) (spf I len).2.length j
  | 0, _ => rfl
  | j + 1, h => by
    have h1 := rbs_bst hz j (by omega)
    have hl := rbs_le I len j
    have e1 : cstI I (j + 1 : Nat) len = (spf I len).1 + tot (ru I len) (j + 1 : Nat) (spf I len).2.length := if_pos ⟨⟨by omega, by omega⟩, hz⟩
    have e2 : cstI I (rbs I len j : Nat) len = (spf I len).1 + tot (ru I len) (rbs I len j : Nat) (spf I len).2.length := if_pos ⟨⟨by omega, by omega⟩, hz⟩
    show (if cstI I (j + 1 : Nat) len < cstI I (rbs I len j : Nat) len then j + 1 else rbs I len j) = (if tot (ru I len) (j + 1 : Nat) (spf I len).2.length < tot (ru I len) (bst (ru I len) (spf I len).2.length j : Nat) (spf I len).2.length then j + 1 else bst (ru I len) (spf I len).2.length j)
    rw [e1, e2, h1]
    by_cases hc : tot (ru I len) (j + 1 : Nat) (spf I len).2.length < tot (ru I len) (bst (ru I len) (spf I len).2.length j : Nat) (spf I len).2.length
    · rw [if_pos hc, if_pos (by omega)]
    · rw [if_neg hc, if_neg (by omega)]
theorem rbs_no {I : Nat → Int} {len : Nat} (hz : ¬ allZ I len) : ∀ j, rbs I len j = 0
  | 0 => rfl
  | j + 1 => by
    have h1 := rbs_no hz j
    have e : ∀ k, cstI I k len = 0 := fun k => if_neg fun h => hz h.2
    show (if cstI I (j + 1 : Nat) len < cstI I (rbs I len j : Nat) len then j + 1 else rbs I len j) = 0
    rw [e, e, if_neg (Nat.lt_irrefl _), h1]

set_option maxRecDepth 100000 in
theorem rbest_r (w : World) (a : Option Addr) (len cap b off : Nat) (I : Nat → Int) (h : Is w a len cap b off I) (hlen : len ≤ 1048576) :
    Calls Try.prog 64 #[.slice a len cap] w fun e w' => e = .returned (.tuple #[.int .i64 (rbs I len 30 : Int), .int .i64 (cstI I (rbs I len 30 : Nat) len : Int)]) ∧ Below w.heap.size w w' := by
  have HCO := hid (zcoded_any w a len cap b off I h)
  by_cases hz : allZ I len
  · have HSP := hid (split_any w a len cap b off I h hlen)
    have hsl := spf_le I len
    have hss := sp_all len h.ib
    rw [← spf_snd] at hss
    have hr := rbs_bst hz 30 (Nat.le_refl _)
    have hrl := rbs_le I len 30
    have HCT : Hid (cstI I (rbs I len 30 : Nat) len = (spf I len).1 + tot (ru I len) (rbs I len 30 : Nat) (spf I len).2.length) := hid (if_pos ⟨⟨by omega, by omega⟩, hz⟩)
    have hct := cst_le I (rbs I len 30 : Nat) len
    have hctI : cstI I (rbs I len 30 : Nat) len ≤ 127 * len + 63 := by unfold cstI; split <;> omega
    have hru : ∀ lo n cp b2 W, n = (spf I len).2.length → Us W lo n b2 0 (fun i => (spf I len).2.getD i 0) → Calls Try.prog 95 #[.slice lo n cp, .int .i64 30] W fun e w' => e = .returned (.tuple #[.int .i64 (rbs I len 30 : Int), .int .i64 (tot (ru I len) (rbs I len 30 : Nat) (spf I len).2.length : Int)]) ∧ Below W.heap.size W w' := fun lo n cp b2 W hn hU => by
      have := best_any W lo n cp b2 0 _ hU (by omega) 30
      rw [show m30 30 = 30 from rfl] at this
      rw [hr, ← hn]
      subst hn
      exact this
    have HRU := hid hru
    clear h hru hr hct
    generalize cstI I (rbs I len 30 : Nat) len = ct at *
    generalize rbs I len 30 = rb at *
    generalize ru I len = U at *
    generalize spf I len = x at *
    have HSL := hid hsl
    go_enter Try.func64, Try.ntmps64
    go_wp2_with fail
    refine HCO.out.mono ?_
    rintro e w1 ⟨y, rfl, rfl, hy⟩
    obtain rfl : y = true := hy.2 hz
    clear hy HCO
    go_wp2_with fail
    refine Calls.mono HSP.out ?_
    rintro e w1 ⟨lo, lcap, rfl, hul, hb⟩
    obtain ⟨b2, hus⟩ := hul.us (by have := HSL.out.2; omega) hss
    have HB := hid hb
    clear hul hb hss hsl
    go_wp2_with fail
    refine (HRU.out lo _ _ b2 w1 rfl hus).mono ?_
    rintro e w2 ⟨rfl, hb2⟩
    have hfin := HB.out.trans (hb2.mono HB.out.size)
    have e1 := HCT.out
    clear hus hb2 HRU
    generalize tot U (rb : Nat) x.2.length = tt at *
    have HE1 := hid e1
    have hb1 : (x.1 : Int) + (tt : Int) ≤ 9223372036854775807 := by omega
    clear e1 hctI
    go_wp2_with fail
    go_ret2
    exact ⟨congrArg (fun z : Int => Ending.returned (.tuple #[.int .i64 (rb : Int), .int .i64 z])) (by rw [HE1.out]; omega), hfin⟩
  · have e1 := rbs_no hz 30
    have e2 : cstI I (rbs I len 30 : Nat) len = 0 := if_neg fun h => hz h.2
    rw [e2, e1]
    clear h e1 e2
    go_enter Try.func64, Try.ntmps64
    go_wp2_with fail
    refine HCO.out.mono ?_
    rintro e w1 ⟨y, rfl, rfl, hy⟩
    obtain rfl : y = false := by
      cases y with
      | false => rfl
      | true => exact absurd (hy.1 rfl) hz
    clear hy HCO
    go_wp2_with fail
    go_ret2
    exact ⟨rfl, Below.refl _ _⟩
end Go.Proofs.Ytjimamjhakainaa.Runs
/- The document's Coded, Cost and Best of runs; RunsCosts' walk. Conditions: those of the memory's own form alone. -/
namespace Go.Proofs.Ytjimamjhakainaa.Runs
open Go.RowKit Bit Rice

def CodedPost (w : World) (I : Nat → Int) (len : Nat) (e : Ending) (w' : World) : Prop := ∃ x : Bool, e = .returned (.bool x) ∧ w = w' ∧ (x = true ↔ allZ I len)
set_option maxRecDepth 100000 in
theorem rcoded_any (w : World) (a : Option Addr) (len cap b off : Nat) (I : Nat → Int) (h : Is w a len cap b off I) :
    Calls Try.prog 98 #[.slice a len cap] w (CodedPost w I len) := by
  have H := hid h
  have hl := h.hl
  have hc := h.hc
  clear h
  go_enter Try.func98, Try.ntmps98
  go_wp2_with fail
  go_loopg [3] len (fun g i wr => ∃ k : Nat, k ≤ len ∧ g = len - k ∧ i = .int .i64 k ∧ w = wr ∧ allZ I k)
  case atStart => exact ⟨0, Nat.zero_le _, rfl, rfl, rfl, fun j hj => absurd hj (Nat.not_lt_zero _)⟩
  case round =>
    obtain ⟨k, hk, hg, rfl, rfl, hall⟩ := hrel
    have HG := hid hg
    have HA := hid hall
    clear hg hall
    by_cases hlt : k < len
    · have hlt2 : (k : Int) < (len : Int) := by omega
      obtain rfl := H.out.addr (by omega)
      have ck := H.out.c k hlt
      go_wp2_with fail
      refine (rzig_any (I k) (H.out.ib k hlt) w).mono ?_
      rintro e w' ⟨rfl, rfl⟩
      by_cases hc : coded (zg (I k))
      · have g1 : ¬ (1099511627776 : Int) ≤ (zg (I k) : Int) := by unfold coded at hc; omega
        have HC := hid hc
        clear hc
        generalize hzz : zg (I k) = z at *
        have HZ := hid hzz
        clear hzz
        have g2 : decide ((1099511627776 : Int) ≤ (z : Int)) = false := decide_eq_false g1
        clear g1
        go_wp2_with fail
        go_roundg (len - (k + 1))
        case measure => rw [HG.out]; omega
        case rel => exact ⟨k + 1, by omega, rfl, by go_num, rfl, fun j hj => by
          by_cases e : j = k
          · rw [e, HZ.out]; exact HC.out
          · exact HA.out j (by omega)⟩
      · have g1 : (1099511627776 : Int) ≤ (zg (I k) : Int) := by unfold coded at hc; omega
        have HC := hid fun (h : allZ I len) => hc (h k hlt)
        clear hc
        generalize zg (I k) = z at *
        go_wp2_with fail
        go_ret
        exact ⟨_, rfl, rfl, by simp only [Bool.false_eq_true, false_iff]; exact HC.out⟩
    · have hge : ¬ (k : Int) < (len : Int) := by omega
      obtain rfl : k = len := by omega
      go_wp2_with fail
      go_ret
      exact ⟨_, rfl, rfl, by simp only [true_iff]; exact HA.out⟩

/-- What the codes of the first i numbers cost, but for the noughts at their end. -/
def rcs (I : Nat → Int) (k : Int) : Nat → Nat
  | 0 => 0
  | i + 1 => if I i = 0 then rcs I k i else rcs I k i + gl (rn I i + 1) + cost (zg (I i) - 1) k
def tl (k : Int) : List Nat → Nat
  | [] => 0
  | u :: l => cost u k + tl k l
theorem tl_app (k : Int) (u : Nat) : ∀ l, tl k (l ++ [u]) = tl k l + cost u k
  | [] => by simp [tl]
  | v :: l => by
    have := tl_app k u l
    show cost v k + tl k (l ++ [u]) = cost v k + tl k l + cost u k
    rw [this]; omega
theorem tot_congr (U V : Nat → Nat) (k : Int) : ∀ n, (∀ i, i < n → U i = V i) → tot U k n = tot V k n
  | 0, _ => rfl
  | n + 1, h => by
    have h1 := tot_congr U V k n fun i hi => h i (by omega)
    show tot U k n + cost (U n) k = tot V k n + cost (V n) k
    rw [h1, h n (by omega)]
theorem tot_shift (U : Nat → Nat) (k : Int) : ∀ n, tot U k (n + 1) = cost (U 0) k + tot (fun i => U (i + 1)) k n
  | 0 => by show 0 + cost (U 0) k = cost (U 0) k + 0; omega
  | n + 1 => by
    have h1 := tot_shift U k n
    show tot U k (n + 1) + cost (U (n + 1)) k = cost (U 0) k + (tot (fun i => U (i + 1)) k n + cost (U (n + 1)) k)
    rw [h1]; omega
theorem tot_tl (k : Int) : ∀ l : List Nat, tot (fun i => l.getD i 0) k l.length = tl k l
  | [] => rfl
  | u :: l => by
    have h1 := tot_tl k l
    show tot _ k (l.length + 1) = cost u k + tl k l
    rw [tot_shift, ← h1]
    rfl
theorem rcs_sp (I : Nat → Int) (k : Int) : ∀ i, rcs I k i = (sp I i).1 + tl k (sp I i).2
  | 0 => rfl
  | i + 1 => by
    have h := rcs_sp I k i
    show (if I i = 0 then rcs I k i else rcs I k i + gl (rn I i + 1) + cost (zg (I i) - 1) k) = (if I i = 0 then sp I i else ((sp I i).1 + gl (rn I i + 1), (sp I i).2 ++ [zg (I i) - 1]) : Nat × List Nat).1 + tl k (if I i = 0 then sp I i else ((sp I i).1 + gl (rn I i + 1), (sp I i).2 ++ [zg (I i) - 1]) : Nat × List Nat).2
    by_cases e : I i = 0
    · rw [if_pos e, if_pos e]; exact h
    · rw [if_neg e, if_neg e]
      show _ = (sp I i).1 + gl (rn I i + 1) + tl k ((sp I i).2 ++ [zg (I i) - 1])
      rw [tl_app, h]; omega
theorem cst_rcs (I : Nat → Int) (k : Int) (len : Nat) : cst I k len = if 0 < rn I len then rcs I k len + gl (rn I len + 1) else rcs I k len := by
  unfold cst ru
  rw [tot_tl, spf_snd, rcs_sp]
  unfold spf
  split
  · show (sp I len).1 + gl (rn I len + 1) + _ = _; omega
  · rfl
theorem rcs_le (I : Nat → Int) (k : Int) : ∀ i, rcs I k i ≤ 127 * i
  | 0 => Nat.le_refl _
  | i + 1 => by
    have h := rcs_le I k i
    have h1 := gl_le (rn I i + 1)
    have h2 := cost_le (zg (I i) - 1) k
    show (if I i = 0 then _ else _) ≤ _
    split <;> omega

theorem rwidthI (xi : Int) (x : Nat) (hxi : xi = x) (hx : x < 18446744073709551616) (w : World) : Calls Try.prog 37 #[.int .u64 xi] w fun e w' => e = .returned (.int .i64 (Lib.bitLen x : Int)) ∧ w = w' := by subst hxi; exact rwidth_any x hx w
theorem rcostI (ui : Int) (u : Nat) (hui : ui = u) (k : Int) (hu : u < 18446744073709551616) (w : World) : Calls Try.prog 96 #[.int .u64 ui, .int .i64 k] w fun e w' => e = .returned (.int .i64 (cost u k : Int)) ∧ w = w' := by subst hui; exact rcost_any u k hu w

def RCostPost (w : World) (x : Nat) (e : Ending) (w' : World) : Prop := e = .returned (.int .i64 (x : Int)) ∧ Fr (fun _ => False) w w'
set_option maxHeartbeats 1600000 in
set_option maxRecDepth 100000 in
theorem rrcost_any (w : World) (a : Option Addr) (len cap b off : Nat) (I : Nat → Int) (h : Is w a len cap b off I) (hlen : len ≤ 1048576) (k : Int) :
    Calls Try.prog 69 #[.slice a len cap, .int .i64 k] w (RCostPost w (cstI I k len)) := by
  unfold RCostPost cstI
  by_cases hk : okK k
  · have hd := decide_eq_true hk
    have HCO := hid (rcoded_any w a len cap b off I h)
    by_cases hz : allZ I len
    · rw [if_pos ⟨hk, hz⟩]
      have HCT := hid (cst_rcs I k len)
      have H := hid h
      clear h
      generalize cst I k len = ct at *
      go_enter Try.func69, Try.ntmps69
      go_wp2_with fail
      refine (rparam k w).mono ?_
      rintro e w1 ⟨rfl, rfl⟩
      rw [hd]
      go_wp2_with fail
      refine Calls.mono HCO.out ?_
      rintro e w1 ⟨y, rfl, rfl, hy⟩
      obtain rfl : y = true := hy.2 hz
      clear hy HCO
      go_wp2_with fail
      go_loopg [5, 6, 7] len (fun g s n i wr => ∃ j : Nat, j ≤ len ∧ g = len - j ∧ s = .int .i64 (rcs I k j : Int) ∧ n = .int .i64 (rn I j : Int) ∧ i = .int .i64 j ∧ Fr (fun _ => False) w wr)
      case atStart => exact ⟨0, Nat.zero_le _, rfl, rfl, rfl, rfl, Fr.refl _ _⟩
      case round =>
        obtain ⟨j, hj, hg, rfl, rfl, rfl, hf⟩ := hrel
        have HG := hid hg
        have hrl := rn_le I j
        have hrs := rcs_le I k j
        clear hg
        by_cases hlt : j < len
        · have hlt2 : (j : Int) < (len : Int) := by omega
          have his := H.out.fr hf (fun _ x => x)
          obtain rfl := H.out.addr (by omega)
          have ck := his.c j hlt
          by_cases h0 : I j = 0
          · have HE : Hid (rcs I k (j + 1) = rcs I k j ∧ rn I (j + 1) = rn I j + 1) := hid ⟨if_pos h0, if_pos h0⟩
            have e0 : ((I j) != 0) = false := by rw [h0]; rfl
            clear h0
            generalize rcs I k j = sj at *
            generalize rn I j = nj at *
            generalize I j = ij at *
            go_wp2_with fail
            go_roundg (len - (j + 1))
            case measure => rw [HG.out]; omega
            case rel => exact ⟨j + 1, by omega, rfl, by rw [HE.out.1], by rw [HE.out.2]; go_num, by go_num, hf⟩
          · have HE : Hid (rcs I k (j + 1) = rcs I k j + gl (rn I j + 1) + cost (zg (I j) - 1) k ∧ rn I (j + 1) = 0) := hid ⟨if_neg h0, if_neg h0⟩
            have e0 : ((I j) != 0) = true := bne_iff_ne.2 h0
            have hgk := gl_ok (v := rn I j + 1) ⟨by omega, by omega⟩
            have HWD := hid fun xi (hx : xi = ((rn I j + 1 : Nat) : Int)) w => rwidthI xi (rn I j + 1) hx (by omega) w
            have HZG := hid fun w => rzig_any (I j) (H.out.ib j hlt) w
            have hzl := zg_lt (H.out.ib j hlt)
            have hzp := zg_pos h0
            have HCS := hid fun ui (hu : ui = ((zg (I j) - 1 : Nat) : Int)) w => rcostI ui (zg (I j) - 1) hu k (by omega) w
            have hcl := cost_le (zg (I j) - 1) k
            have ckk : ∀ p : Kp wr, p.w'.cell? ⟨b, off + j, none⟩ = some (.int .i64 (I j)) := fun p => ((his.fr p.h (fun _ x => x)).c j hlt)
            obtain ⟨q1, q2, q3, _, _, _⟩ := hgk
            clear h0 his
            generalize cost (zg (I j) - 1) k = cj at *
            generalize gl (rn I j + 1) = gj at *
            generalize Lib.bitLen (rn I j + 1) = bj at *
            generalize zg (I j) = zj at *
            generalize rcs I k j = sj at *
            generalize rn I j = nj at *
            generalize I j = ij at *
            go_wp2_with fail
            clear ck
            refine wp_region_quiet_kp (by kernel_rfl) (by kernel_rfl) ?_
            repeat (quiet_step (first | (go_at_call 37; exact kp_same (HWD.out _ (by first | omega | (simp only [IntKind.wrap_u64]; omega)) _)) | (go_at_call 67; exact kp_same (HZG.out _)) | (go_at_call 96; exact kp_same (HCS.out _ (by first | omega | (simp only [IntKind.wrap_u64]; omega)) _))))
            refine wpQuiet_nil ?_
            intro _ hw'
            obtain ⟨⟨wq, hq⟩, hw''⟩ := hw'
            subst hw''
            have hf2 := hf.trans hq
            clear hq ckk hf
            go_wp2_with fail
            go_roundg (len - (j + 1))
            case measure => rw [HG.out]; omega
            case rel =>
              have e5 : IntKind.i64.wrap (IntKind.i64.wrap (IntKind.i64.wrap ((sj : Int) + IntKind.i64.wrap (2 * (bj : Int))) - 1) + (cj : Int)) = ((sj + gj + cj : Nat) : Int) := by
                rw [IntWalk.i64_in (2 * (bj : Int)) (by omega), IntWalk.i64_in ((sj : Int) + 2 * (bj : Int)) (by omega), IntWalk.i64_in ((sj : Int) + 2 * (bj : Int) - 1) (by omega), IntWalk.i64_in ((sj : Int) + 2 * (bj : Int) - 1 + (cj : Int)) (by omega)]
                omega
              have e6 : rcs I k (j + 1) = sj + gj + cj := HE.out.1
              have e7 : rn I (j + 1) = 0 := HE.out.2
              exact ⟨j + 1, by omega, rfl, by rw [e6, ← e5], by rw [e7]; rfl, by go_num, hf2⟩
        · have hge : ¬ (j : Int) < (len : Int) := by omega
          obtain rfl : j = len := by omega
          by_cases h0 : 0 < rn I j
          · have g0 : (0 : Int) < (rn I j : Int) := by omega
            have HE : Hid (ct = rcs I k j + gl (rn I j + 1)) := hid (by rw [HCT.out, if_pos h0])
            have hgk := gl_ok (v := rn I j + 1) ⟨by omega, by omega⟩
            have HWD := hid fun xi (hx : xi = ((rn I j + 1 : Nat) : Int)) w => rwidthI xi (rn I j + 1) hx (by omega) w
            obtain ⟨q1, q2, q3, _, _, _⟩ := hgk
            clear HCT
            generalize gl (rn I j + 1) = gj at *
            generalize Lib.bitLen (rn I j + 1) = bj at *
            generalize rcs I k j = sj at *
            generalize rn I j = nj at *
            go_wp2_with fail
            refine (HWD.out _ (by first | omega | (simp only [IntKind.wrap_u64]; omega)) _).mono ?_
            rintro e w1 ⟨rfl, rfl⟩
            go_wp2_with fail
            go_ret
            exact ⟨congrArg (fun z : Int => Ending.returned (.int .i64 z)) (by rw [HE.out]; omega), hf⟩
          · have g0 : ¬ (0 : Int) < (rn I j : Int) := by omega
            have HE : Hid (ct = rcs I k j) := hid (by rw [HCT.out, if_neg h0])
            clear HCT
            go_wp2_with fail
            go_ret
            exact ⟨congrArg (fun z : Nat => Ending.returned (.int .i64 (z : Int))) HE.out.symm, hf⟩
    · rw [if_neg (fun h => hz h.2)]
      clear h
      go_enter Try.func69, Try.ntmps69
      go_wp2_with fail
      refine (rparam k w).mono ?_
      rintro e w1 ⟨rfl, rfl⟩
      rw [hd]
      go_wp2_with fail
      refine Calls.mono HCO.out ?_
      rintro e w1 ⟨y, rfl, rfl, hy⟩
      obtain rfl : y = false := by
        cases y with
        | false => rfl
        | true => exact absurd (hy.1 rfl) hz
      clear hy HCO
      go_wp2_with fail
      go_ret
      exact ⟨rfl, Fr.refl _ _⟩
  · have hd := decide_eq_false hk
    rw [if_neg (fun h => hk h.1)]
    clear h
    go_enter Try.func69, Try.ntmps69
    go_wp2_with fail
    refine (rparam k w).mono ?_
    rintro e w1 ⟨rfl, rfl⟩
    rw [hd]
    go_wp2_with fail
    go_ret
    exact ⟨rfl, Fr.refl _ _⟩

def RBestPost (w : World) (x y : Nat) (e : Ending) (w' : World) : Prop := e = .returned (.tuple #[.int .i64 (x : Int), .int .i64 (y : Int)]) ∧ Fr (fun _ => False) w w'
set_option maxHeartbeats 800000 in
theorem rrbest_any (w : World) (a : Option Addr) (len cap b off : Nat) (I : Nat → Int) (h : Is w a len cap b off I) (hlen : len ≤ 1048576) :
    Calls Try.prog 39 #[.slice a len cap] w (RBestPost w (rbs I len 30) (cstI I (rbs I len 30 : Nat) len)) := by
  unfold RBestPost
  have HT := hid fun w' (hf : Fr (fun _ => False) w w') k => rrcost_any w' a len cap b off I (h.fr hf (fun _ x => x)) hlen k
  clear h hlen
  go_enter Try.func39, Try.ntmps39
  go_wp2_with fail
  go_loopg [4, 5] 31 (fun g b k wr => ∃ j : Nat, j ≤ 30 ∧ g = 31 - j ∧ b = .int .i64 (rbs I len j : Int) ∧ k = .int .i64 ((j : Int) + 1) ∧ Fr (fun _ => False) w wr)
  case atStart => exact ⟨0, Nat.zero_le _, by omega, rfl, rfl, Fr.refl _ _⟩
  case round =>
    obtain ⟨j, hj, hg, rfl, rfl, hf⟩ := hrel
    have HG := hid hg
    clear hg
    by_cases hlt : j < 30
    · have g1 : (j : Int) + 1 ≤ 30 := by omega
      have HN : Hid (rbs I len (j + 1) = if cstI I (j + 1 : Nat) len < cstI I (rbs I len j : Nat) len then j + 1 else rbs I len j) := hid rfl
      have HTK := hid fun w' hf => HT.out w' hf ((j : Int) + 1)
      have HTB := hid fun w' hf => HT.out w' hf (rbs I len j : Nat)
      rw [show ((j + 1 : Nat) : Int) = (j : Int) + 1 from rfl] at HN
      generalize rbs I len j = bj at *
      generalize cstI I (bj : Nat) len = bt at *
      generalize cstI I ((j : Int) + 1) len = nt at *
      go_wp2_with fail
      refine Calls.mono (HTK.out _ hf) ?_
      rintro e w2 ⟨rfl, hf2⟩
      have hf3 := hf.trans hf2
      clear hf hf2
      go_wp2_with fail
      refine Calls.mono (HTB.out _ hf3) ?_
      rintro e w4 ⟨rfl, hf4⟩
      have hf5 := hf3.trans hf4
      clear hf3 hf4
      by_cases hc : nt < bt
      · have g3 : (nt : Int) < (bt : Int) := by omega
        have HE : Hid (rbs I len (j + 1) = j + 1) := hid (by rw [HN.out, if_pos hc])
        go_wp2_with fail
        go_roundg (31 - (j + 1))
        case measure => rw [HG.out]; omega
        case rel => exact ⟨j + 1, by omega, rfl, by rw [HE.out]; rfl, by go_num, hf5⟩
      · have g3 : ¬ (nt : Int) < (bt : Int) := by omega
        have HE : Hid (rbs I len (j + 1) = bj) := hid (by rw [HN.out, if_neg hc])
        go_wp2_with fail
        go_roundg (31 - (j + 1))
        case measure => rw [HG.out]; omega
        case rel => exact ⟨j + 1, by omega, rfl, by rw [HE.out], by go_num, hf5⟩
    · obtain rfl : j = 30 := by omega
      have HTB := hid fun w' hf => HT.out w' hf (rbs I len 30 : Nat)
      go_wp2_with fail
      refine Calls.mono (HTB.out _ hf) ?_
      rintro e w2 ⟨rfl, hf2⟩
      have hf3 := hf.trans hf2
      clear hf hf2
      go_wp2_with fail
      go_ret2
      exact ⟨rfl, hf3⟩

theorem fr_below0 {a w w' : World} (h : Below a.heap.size a w) (hf : Fr (fun _ => False) w w') : Below a.heap.size a w' :=
  h.trans ⟨hf.os, hf.tape, hf.output, hf.size, fun k hk => hf.block k (Nat.lt_of_lt_of_le hk h.size) (fun x => x)⟩
end Go.Proofs.Ytjimamjhakainaa.Runs
