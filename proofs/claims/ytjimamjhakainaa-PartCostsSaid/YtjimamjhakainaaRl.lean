/- split, Cost and Best of runs: what they answer. Conditions: at most 2^20 numbers. -/
import Derived.Test.YtjimamjhakainaaRk
import Derived.Test.YtjimamjhakainaaBe
namespace Go.Proofs.Ytjimamjhakainaa.Runs
open Go.RowKit Bit Rice

/-- The world in which split goes over its list. -/
def sp0 (w : World) : World := ((w.alloc (.cells #[] 42)).alloc (.cells #[.int .i64 0] 3)).alloc (.cells #[.slice (some ⟨w.heap.size, 0, none⟩) 0 0] 63)
theorem sp0_size (w : World) : (sp0 w).heap.size = w.heap.size + 3 := by simp [sp0]
theorem sp0_below (w : World) : Below w.heap.size w (sp0 w) := (((Below.refl _ _).alloc (Nat.le_refl _) _).alloc (by simp) _).alloc (by simp; omega) _
theorem sp0_sps (w W : World) (hb : Below (sp0 w).heap.size (sp0 w) W) : Sps w W (0, []) W := by
  have z := sp0_size w
  have c2 : (sp0 w).cell? ⟨w.heap.size + 2, 0, none⟩ = some (.slice (some ⟨w.heap.size, 0, none⟩) 0 0) := by
    have g : ∀ V : World, V.heap.size = w.heap.size + 2 → (V.alloc (.cells #[.slice (some ⟨w.heap.size, 0, none⟩) 0 0] 63)).cell? ⟨w.heap.size + 2, 0, none⟩ = some (.slice (some ⟨w.heap.size, 0, none⟩) 0 0) := fun V h => by rw [← h]; simp
    exact g _ (by simp)
  have f2 : (sp0 w).frozen? ⟨w.heap.size + 2, 0, none⟩ = false := by
    have g : ∀ V : World, V.heap.size = w.heap.size + 2 → (V.alloc (.cells #[.slice (some ⟨w.heap.size, 0, none⟩) 0 0] 63)).frozen? ⟨w.heap.size + 2, 0, none⟩ = false := fun V h => by rw [← h]; simp
    exact g _ (by simp)
  have b1 : (sp0 w).heap[w.heap.size + 1]? = ((w.alloc (.cells #[] 42)).alloc (.cells #[.int .i64 0] 3)).heap[w.heap.size + 1]? := RowKit.Below.heap_alloc _ _ _ (by simp)
  have c1 : (sp0 w).cell? ⟨w.heap.size + 1, 0, none⟩ = some (.int .i64 0) := by
    rw [World.cell?_of_block (a := ⟨w.heap.size + 1, 0, none⟩) b1]
    have e : (w.alloc (.cells #[] 42)).heap.size = w.heap.size + 1 := by simp
    rw [← e]; simp
  have f1 : (sp0 w).frozen? ⟨w.heap.size + 1, 0, none⟩ = false := by
    rw [World.frozen?_of_block (a := ⟨w.heap.size + 1, 0, none⟩) b1]
    have e : (w.alloc (.cells #[] 42)).heap.size = w.heap.size + 1 := by simp
    rw [← e]; simp
  have own0 : (w.alloc (.cells #[] 42)).ownsRow w.heap.size 42 1 (.slice (some ⟨w.heap.size, 0, none⟩) 0 0) 0 [] := World.ownsRow_made w #[] 0 (Nat.le_refl _) (Nat.zero_le _) rfl
  have own : Ul (sp0 w) w.heap.size (some ⟨w.heap.size, 0, none⟩) 0 [] := ownsRow_block (ownsRow_block own0 fun g hg => RowKit.Below.heap_alloc _ _ _ (by simp [blk] at hg; simp; omega)) fun g hg => RowKit.Below.heap_alloc _ _ _ (by simp [blk] at hg; simp; omega)
  refine ⟨some ⟨w.heap.size, 0, none⟩, 0, (hb.cell (p := ⟨w.heap.size + 1, 0, none⟩) (by rw [z]; show w.heap.size + 1 < _; omega)).trans c1, (hb.frozen (p := ⟨w.heap.size + 1, 0, none⟩) (by rw [z]; show w.heap.size + 1 < _; omega)).trans f1,
    (hb.cell (p := ⟨w.heap.size + 2, 0, none⟩) (by rw [z]; show w.heap.size + 2 < _; omega)).trans c2, (hb.frozen (p := ⟨w.heap.size + 2, 0, none⟩) (by rw [z]; show w.heap.size + 2 < _; omega)).trans f2,
    own.fr (fr_of_below hb) (fun _ _ x => x), fun g hg => .inl (by simpa [blk] using hg.symm), Fr.refl _ _⟩

def SplitPost (w : World) (x : Nat × List Nat) (e : Ending) (w' : World) : Prop := ∃ lo lcap, e = .returned (.tuple #[.int .i64 (x.1 : Int), .slice lo x.2.length lcap]) ∧ Ul w' w.heap.size lo lcap x.2 ∧ Below w.heap.size w w'
set_option maxRecDepth 100000 in
theorem split_any (w : World) (a : Option Addr) (len cap b off : Nat) (I : Nat → Int) (h : Is w a len cap b off I) (hlen : len ≤ 1048576) :
    Calls Try.prog 94 #[.slice a len cap] w (SplitPost w (spf I len)) := by
  let fg : Value := .func (.func 116) #[] #[.pointer (some ⟨w.heap.size + 1, 0, none⟩)]
  let fr : Value := .func (.func 118) #[] #[.pointer (some ⟨w.heap.size + 2, 0, none⟩)]
  have hbb := boxes_below (sp0 w) fg fr
  have hWs := boxes_size (sp0 w) fg fr
  have hz := sp0_size w
  have h1 := h.below (sp0_below w) h.lt
  have hcd := codes_any 116 118 #[.pointer (some ⟨w.heap.size + 1, 0, none⟩)] #[.pointer (some ⟨w.heap.size + 2, 0, none⟩)] (fun args w => Try.call116 args w) (fun args w => Try.call118 args w)
    (sp0 w) a len cap b off I (Sps w (boxes (sp0 w) fg fr) (spf I len))
    (fun o wr => o ≤ len ∧ rn I o = 0 ∧ Sps w (boxes (sp0 w) fg fr) (sp I o) wr)
    (fun o k wr => o + k ≤ len ∧ rn I o = 0 ∧ Sps w (boxes (sp0 w) fg fr) ((sp I o).1 + gl (k + 1), (sp I o).2) wr)
    (fun g => w.heap.size ≤ g ∧ g < w.heap.size + 3) h1
    (fun g hg => by rw [hz]; exact hg.2)
    (fun h0 e => by have := h.lt h0; have := e.1; omega)
    ⟨Nat.zero_le _, rfl, sp0_sps w _ hbb⟩
    (fun o wr ⟨_, _, _, _, _, _, _, _, _, _, hf⟩ => hf)
    (fun o k wr ⟨_, _, _, _, _, _, _, _, _, _, hf⟩ => hf)
    (fun o k wr ⟨q1, q2, hs⟩ => ⟨q1, q2, hs.drew⟩)
    (fun o k wr x hle hz2 hor ⟨q1, q2, hs⟩ hx => by
      have hl := sp_le I o
      have hg := gl_le (k + 1)
      obtain ⟨lo, lcap, a1, a2, a3⟩ := hs
      refine (split1_any x (k + 1) (sp I o).1 (w.heap.size + 1) hx (by omega) wr a1 a2 (by omega)).mono ?_
      rintro e w' ⟨rfl, rfl⟩
      exact ⟨rfl, hle, q2, Sps.bits (x := sp I o) ⟨lo, lcap, a1, a2, a3⟩ (by rw [hWs, hz]; omega) _⟩)
    (fun o k wr y hlt hz2 hnz ⟨q1, q2, hs⟩ hy => by
      have hl := sp_le I o
      refine (split2_any y (zg (I (o + k)) - 1) hy w _ wr _ hs (by rw [hWs, hz]; omega) (by show (sp I o).2.length ≤ _; omega)).mono ?_
      rintro e w' ⟨rfl, hs'⟩
      obtain ⟨e1, e2⟩ := runs_zero (kp := 0) (p := (0, 0)) q2 k hz2
      have e3 := sp_zero k hz2
      have e4 : sp I (o + k + 1) = ((sp I o).1 + gl (k + 1), (sp I o).2 ++ [zg (I (o + k)) - 1]) := by
        show (if I (o + k) = 0 then _ else _) = _
        rw [if_neg hnz, e1, e3]
      refine ⟨rfl, hlt, if_neg hnz, ?_⟩
      rw [e4]
      exact hs')
    (fun wr ⟨q1, q2, hs⟩ => by
      unfold spf
      rw [q2, if_neg (Nat.lt_irrefl _)]
      exact hs)
    (fun o k wr hlt hz2 hk0 ⟨q1, q2, hs⟩ => by
      obtain ⟨e1, e2⟩ := runs_zero (kp := 0) (p := (0, 0)) q2 k hz2
      have e3 := sp_zero k hz2
      unfold spf
      rw [← hlt, e1, e3, if_pos hk0]
      exact hs)
  have HCD := hid hcd
  have HB := hid ((sp0_below w).trans (hbb.mono (by rw [hz]; omega)))
  have HW := hid (show w.heap.size ≤ (boxes (sp0 w) fg fr).heap.size by rw [hWs, hz]; omega)
  clear hcd h1 hbb hWs hz h
  go_enter Try.func94, Try.ntmps94
  go_wp2_with fail
  refine Calls.mono HCD.out ?_
  rintro e w1 ⟨rfl, lo, lcap, a1, a2, a3, a4, a5, a6, a7⟩
  have hb1 : Below w.heap.size w w1 := HB.out.trans ⟨a7.os, a7.tape, a7.output, a7.size, fun k hk => a7.block k (by have := HW.out; omega) (by omega)⟩
  have HB1 := hid hb1
  have HU := hid a5
  clear a2 a4 a5 a6 a7 hb1
  generalize spf I len = x at *
  go_wp2_with fail
  go_quiet (fail)
  have hfin : SplitPost w x (.returned (.tuple #[.int .i64 (x.1 : Int), .slice lo x.2.length lcap])) (w1.drewN nq) := ⟨lo, lcap, rfl, HU.out.fr (X := fun _ => False) ((Fr.refl _ _).drewN nq) (fun _ _ x => x), HB1.out.trans ⟨rfl, rfl, rfl, Nat.le_refl _, fun _ _ => rfl⟩⟩
  clear a1 a3
  go_wp2_with fail
  go_ret2
  exact hfin

/-- What a list's rests are, as a function. -/
def ru (I : Nat → Int) (len : Nat) : Nat → Nat := fun i => (spf I len).2.getD i 0
/-- What a list costs, that is coded. -/
def cst (I : Nat → Int) (k : Int) (len : Nat) : Nat := (spf I len).1 + tot (ru I len) k (spf I len).2.length
instance (I : Nat → Int) (len : Nat) : Decidable (allZ I len) := by unfold allZ; infer_instance
def cstI (I : Nat → Int) (k : Int) (len : Nat) : Nat := if okK k ∧ allZ I len then cst I k len else 0
theorem cst_le (I : Nat → Int) (k : Int) (len : Nat) : cst I k len ≤ 127 * len + 63 := by
  have h1 := spf_le I len
  have h2 := tot_le (ru I len) k (spf I len).2.length
  unfold cst
  omega

/-- The best parameter from 0 to j. -/
def rbs (I : Nat → Int) (len : Nat) : Nat → Nat
  | 0 => 0
  | j + 1 => if cstI I (j + 1 : Nat) len < cstI I (rbs I len j : Nat) len then j + 1 else rbs I len j
theorem rbs_le (I : Nat → Int) (len : Nat) : ∀ j, rbs I len j ≤ j
  | 0 => Nat.le_refl _
  | j + 1 => by
    have := rbs_le I len j
    show (if _ then _ else _) ≤ _
    split
    · exact Nat.le_refl _
    · exact Nat.le_succ_of_le this
theorem rbs_bst {I : Nat → Int} {len : Nat} (hz : allZ I len) : ∀ j, j ≤ 30 → rbs I len j = bst (ru I len) (spf I len).2.length j
  | 0, _ => rfl
  | j + 1, h => by
    have h1 := rbs_bst hz j (by omega)
    have hl := rbs_le I len j
    have e1 : cstI I (j + 1 : Nat) len = (spf I len).1 + tot (ru I len) (j + 1 : Nat) (spf I len).2.length := if_pos ⟨⟨by omega, by omega⟩, hz⟩
    have e2 : cstI I (rbs I len j : Nat) len = (spf I len).1 + tot (ru I len) (rbs I len j : Nat) (spf I len).2.length := if_pos ⟨⟨by omega, by omega⟩, hz⟩
    show (if cstI I (j + 1 : Nat) len < cstI I (rbs I len j : Nat) len then j + 1 else rbs I len j) = (if tot (ru I len) (j + 1 : Nat) (spf I len).2.length < tot (ru I len) (bst (ru I len) (spf I len).2.length j : Nat) (spf I len).2.length then j + 1 else bst (ru I len) (spf I len).2.length j)
    rw [e1, e2, h1]
    by_cases hc : tot (ru I len) (j + 1 : Nat) (spf I len).2.length < tot (ru I len) (bst (ru I len) (spf I len).2.length j : Nat) (spf I len).2.length
    · rw [if_pos hc, if_pos (by omega)]
    · rw [if_neg hc, if_neg (by omega)]
theorem rbs_no {I : Nat → Int} {len : Nat} (hz : ¬ allZ I len) : ∀ j, rbs I len j = 0
  | 0 => rfl
  | j + 1 => by
    have h1 := rbs_no hz j
    have e : ∀ k, cstI I k len = 0 := fun k => if_neg fun h => hz h.2
    show (if cstI I (j + 1 : Nat) len < cstI I (rbs I len j : Nat) len then j + 1 else rbs I len j) = 0
    rw [e, e, if_neg (Nat.lt_irrefl _), h1]

set_option maxRecDepth 100000 in
theorem rbest_r (w : World) (a : Option Addr) (len cap b off : Nat) (I : Nat → Int) (h : Is w a len cap b off I) (hlen : len ≤ 1048576) :
    Calls Try.prog 64 #[.slice a len cap] w fun e w' => e = .returned (.tuple #[.int .i64 (rbs I len 30 : Int), .int .i64 (cstI I (rbs I len 30 : Nat) len : Int)]) ∧ Below w.heap.size w w' := by
  have HCO := hid (zcoded_any w a len cap b off I h)
  by_cases hz : allZ I len
  · have HSP := hid (split_any w a len cap b off I h hlen)
    have hsl := spf_le I len
    have hss := sp_all len h.ib
    rw [← spf_snd] at hss
    have hr := rbs_bst hz 30 (Nat.le_refl _)
    have hrl := rbs_le I len 30
    have HCT : Hid (cstI I (rbs I len 30 : Nat) len = (spf I len).1 + tot (ru I len) (rbs I len 30 : Nat) (spf I len).2.length) := hid (if_pos ⟨⟨by omega, by omega⟩, hz⟩)
    have hct := cst_le I (rbs I len 30 : Nat) len
    have hctI : cstI I (rbs I len 30 : Nat) len ≤ 127 * len + 63 := by unfold cstI; split <;> omega
    have hru : ∀ lo n cp b2 W, n = (spf I len).2.length → Us W lo n b2 0 (fun i => (spf I len).2.getD i 0) → Calls Try.prog 95 #[.slice lo n cp, .int .i64 30] W fun e w' => e = .returned (.tuple #[.int .i64 (rbs I len 30 : Int), .int .i64 (tot (ru I len) (rbs I len 30 : Nat) (spf I len).2.length : Int)]) ∧ Below W.heap.size W w' := fun lo n cp b2 W hn hU => by
      have := best_any W lo n cp b2 0 _ hU (by omega) 30
      rw [show m30 30 = 30 from rfl] at this
      rw [hr, ← hn]
      subst hn
      exact this
    have HRU := hid hru
    clear h hru hr hct
    generalize cstI I (rbs I len 30 : Nat) len = ct at *
    generalize rbs I len 30 = rb at *
    generalize ru I len = U at *
    generalize spf I len = x at *
    have HSL := hid hsl
    go_enter Try.func64, Try.ntmps64
    go_wp2_with fail
    refine HCO.out.mono ?_
    rintro e w1 ⟨y, rfl, rfl, hy⟩
    obtain rfl : y = true := hy.2 hz
    clear hy HCO
    go_wp2_with fail
    refine Calls.mono HSP.out ?_
    rintro e w1 ⟨lo, lcap, rfl, hul, hb⟩
    obtain ⟨b2, hus⟩ := hul.us (by have := HSL.out.2; omega) hss
    have HB := hid hb
    clear hul hb hss hsl
    go_wp2_with fail
    refine (HRU.out lo _ _ b2 w1 rfl hus).mono ?_
    rintro e w2 ⟨rfl, hb2⟩
    have hfin := HB.out.trans (hb2.mono HB.out.size)
    have e1 := HCT.out
    clear hus hb2 HRU
    generalize tot U (rb : Nat) x.2.length = tt at *
    have HE1 := hid e1
    have hb1 : (x.1 : Int) + (tt : Int) ≤ 9223372036854775807 := by omega
    clear e1 hctI
    go_wp2_with fail
    go_ret2
    exact ⟨congrArg (fun z : Int => Ending.returned (.tuple #[.int .i64 (rb : Int), .int .i64 z])) (by rw [HE1.out]; omega), hfin⟩
  · have e1 := rbs_no hz 30
    have e2 : cstI I (rbs I len 30 : Nat) len = 0 := if_neg fun h => hz h.2
    rw [e2, e1]
    clear h e1 e2
    go_enter Try.func64, Try.ntmps64
    go_wp2_with fail
    refine HCO.out.mono ?_
    rintro e w1 ⟨y, rfl, rfl, hy⟩
    obtain rfl : y = false := by
      cases y with
      | false => rfl
      | true => exact absurd (hy.1 rfl) hz
    clear hy HCO
    go_wp2_with fail
    go_ret2
    exact ⟨rfl, Below.refl _ _⟩
end Go.Proofs.Ytjimamjhakainaa.Runs
