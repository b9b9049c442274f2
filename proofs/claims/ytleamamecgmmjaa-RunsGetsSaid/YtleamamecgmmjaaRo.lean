/- Runs of runs, and the document's; Ints; RunsCounts' walk. Conditions: those of the memory's own form alone. -/
import Derived.Test.YtleamamecgmmjaaRm
import Derived.Test.YtleamamecgmmjaaRi
import Derived.Laws.BitsLemmas
namespace Go.Proofs.Ytleamamecgmmjaa.Runs
open Go.RowKit Bit Rice

/-- Whole numbers in a row of the call's own. -/
def il (l : List Int) : List Value := l.map fun x => .int .i64 x
def Il (w : World) (B : Nat) (lo : Option Addr) (lcap : Nat) (l : List Int) : Prop := w.ownsRow B 3 1 (.slice lo l.length lcap) l.length (il l)
theorem Il.lt {w : World} {B : Nat} {lo : Option Addr} {lcap : Nat} {l : List Int} (h : Il w B lo lcap l) : ∀ g, blk lo = some g → B ≤ g ∧ g < w.heap.size := fun g hg => World.ownsRow.lt h g (by rw [ownBlock_slice]; exact hg)
theorem Il.fr {w w' : World} {B : Nat} {lo : Option Addr} {lcap : Nat} {l : List Int} (h : Il w B lo lcap l) {X : Nat → Prop} (hf : Fr X w w') (hx : ∀ g, blk lo = some g → ¬ X g) : Il w' B lo lcap l := ownsRow_block h fun g hg => hf.block g (h.lt g hg).2 (hx g hg)
theorem il_app (l : List Int) (x : Int) : il (l ++ [x]) = il l ++ [.int .i64 x] := by unfold il; rw [List.map_append]; rfl
theorem Il.is {w : World} {B : Nat} {lo : Option Addr} {lcap : Nat} {l : List Int} (h : Il w B lo lcap l) (hc : ∀ x ∈ l, -9223372036854775808 ≤ x ∧ x ≤ 9223372036854775807) : ∃ b, Is w lo l.length lcap b 0 (fun i => l.getD i 0) := by
  have hcap : l.length ≤ lcap ∧ lcap ≤ 9223372036854775807 := by
    rcases h.2 with ⟨hv, h0⟩ | ⟨g, c, cur, hv, _, _, h1, h2, _⟩
    · simp only [Value.slice.injEq] at hv; omega
    · simp only [Value.slice.injEq] at hv
      obtain ⟨_, _, rfl⟩ := hv
      exact ⟨h1, h2⟩
  rcases ownsRow_at h with ⟨_, h1, _, _⟩ | ⟨g, rfl⟩
  · exact ⟨0, fun h0 => by omega, fun i hi => by omega, fun i hi => by omega, fun h0 => by omega, hcap.1, hcap.2⟩
  · refine ⟨g, fun _ => rfl, fun i hi => ?_, fun i hi => ?_, fun _ => (World.ownsRow.lt h g (by rw [ownBlock_slice]; rfl)).2, hcap.1, hcap.2⟩
    · rw [Nat.zero_add]
      exact ownsRow_cell h i _ (by simp [il, hi])
    · have : l.getD i 0 = l[i] := by simp [hi]
      rw [this]
      exact hc _ (List.getElem_mem hi)

/-- Two lists that have the same numbers are the same. -/
theorem ints_any (w : World) (a a' : Option Addr) (len cap cap' b off b' off' : Nat) (I J : Nat → Int) (h : Is w a len cap b off I) (h' : Is w a' len cap' b' off' J) (he : ∀ i, i < len → I i = J i) :
    Calls Try.prog 30 #[.slice a len cap, .slice a' len cap'] w fun e w' => e = .returned (.bool true) ∧ Fr (fun _ => False) w w' := by
  have H := hid h
  have H' := hid h'
  have HE := hid he
  have hl := h.hl
  have hc := h.hc
  clear h h' he
  go_enter Try.func30, Try.ntmps30
  go_wp2_with fail
  go_loopg [5] len (fun g i wr => ∃ j : Nat, j ≤ len ∧ g = len - j ∧ i = .int .i64 j ∧ Fr (fun _ => False) w wr)
  case atStart => exact ⟨0, Nat.zero_le _, rfl, rfl, Fr.refl _ _⟩
  case round =>
    obtain ⟨j, hj, hg, rfl, hf⟩ := hrel
    have HG := hid hg
    clear hg
    by_cases hlt : j < len
    · have hlt2 : (j : Int) < (len : Int) := by omega
      obtain rfl := H.out.addr (by omega)
      obtain rfl := H'.out.addr (by omega)
      have ck := (H.out.fr hf fun _ x => x).c j hlt
      have ck' := (H'.out.fr hf fun _ x => x).c j hlt
      rw [← HE.out j hlt] at ck'
      generalize I j = x at *
      go_wp2_with fail
      go_quiet (fail)
      have hf2 := hf.drewN nq
      clear ck ck' hf
      go_wp2_with fail
      go_roundg (len - (j + 1))
      case measure => rw [HG.out]; omega
      case rel => exact ⟨j + 1, by omega, rfl, by go_num, hf2⟩
    · have hge : ¬ (j : Int) < (len : Int) := by omega
      obtain rfl : j = len := by omega
      go_wp2_with fail
      go_ret
      exact ⟨rfl, hf⟩

/-- How many noughts stand ahead of each other number of the first i. -/
def rr (I : Nat → Int) : Nat → List Int
  | 0 => []
  | i + 1 => if I i = 0 then rr I i else rr I i ++ [(rn I i : Int)]
theorem rr_len (I : Nat → Int) : ∀ i, (rr I i).length ≤ i
  | 0 => Nat.le_refl _
  | i + 1 => by
    have h := rr_len I i
    show (if I i = 0 then _ else _ : List Int).length ≤ _
    split
    · omega
    · simp only [List.length_append, List.length_singleton]; omega
theorem rr_zero {I : Nat → Int} {o : Nat} : ∀ k, (∀ i, i < k → I (o + i) = 0) → rr I (o + k) = rr I o
  | 0, _ => rfl
  | k + 1, h => by
    have h2 := rr_zero k fun i hi => h i (by omega)
    have hz := h k (by omega)
    show (if I (o + k) = 0 then rr I (o + k) else _) = _
    rw [if_pos hz, h2]
theorem rr_in (I : Nat → Int) : ∀ i, i ≤ 1048576 → ∀ x ∈ rr I i, -9223372036854775808 ≤ x ∧ x ≤ 9223372036854775807
  | 0, _, x, hx => by cases hx
  | i + 1, h, x, hx => by
    by_cases e : I i = 0
    · rw [show rr I (i + 1) = rr I i from if_pos e] at hx
      exact rr_in I i (by omega) x hx
    · rw [show rr I (i + 1) = rr I i ++ [(rn I i : Int)] from if_neg e] at hx
      rcases List.mem_append.1 hx with e | e
      · exact rr_in I i (by omega) x e
      · obtain rfl := List.mem_singleton.1 e
        have := rn_le I i; omega

/-- The box of Runs. -/
def Srn (w : World) (l : List Int) (wr : World) : Prop := ∃ (lo : Option Addr) (lcap : Nat), wr.cell? ⟨w.heap.size + 1, 0, none⟩ = some (.slice lo l.length lcap) ∧ wr.frozen? ⟨w.heap.size + 1, 0, none⟩ = false ∧ Il wr w.heap.size lo lcap l ∧
  (∀ g, blk lo = some g → g ≠ w.heap.size + 1) ∧ Below w.heap.size w wr
set_option maxHeartbeats 800000 in
set_option maxRecDepth 100000 in
theorem runs1_any (k : Nat) (v : Value) (w wr : World) (l : List Int) (h : Srn w l wr) (hl : l.length ≤ 1048576) :
    Calls Try.prog 60 #[.int .i64 ((k : Nat) : Int), v, .pointer (some ⟨w.heap.size + 1, 0, none⟩)] wr fun e w' => e = .returned (.tuple #[]) ∧ Srn w (l ++ [(k : Int)]) w' := by
  obtain ⟨lo, lcap, a3, a4, a5, a6, a7⟩ := h
  obtain ⟨i0, hi, hz0, hz1, hz2⟩ := info_parts Try.info3
  have hul3 : Il (wr.alloc (.cells #[.int .i64 (k : Int)] 3)) w.heap.size lo lcap l := ownsRow_block a5 fun g hg => RowKit.Below.heap_alloc _ _ _ (a5.lt g hg).2
  have hcell : (wr.alloc (.cells #[.int .i64 (k : Int)] 3)).cell? ⟨wr.heap.size, 0, none⟩ = some (.int .i64 (k : Int)) := by simp
  have l2 : w.heap.size + 1 < wr.heap.size := World.block_lt_of_cell? _ _ a3
  have hsz : w.heap.size ≤ (wr.alloc (.cells #[.int .i64 (k : Int)] 3)).heap.size := by simp; omega
  unfold Il at hul3
  have b1 : (wr.alloc (.cells #[.int .i64 (k : Int)] 3)).heap[w.heap.size + 1]? = wr.heap[w.heap.size + 1]? := RowKit.Below.heap_alloc _ _ _ l2
  have ne2 : blk lo ≠ some (w.heap.size + 1) := fun e => by have := a6 _ e; omega
  have HB1 := hid b1
  clear b1
  go_enter Try.func60, Try.ntmps60
  go_wp2_with (at_builtin; go_must (refine wpList_append_one rfl (.tmp 5) (.tmp 7) 29 rfl w.heap.size 3 i0 (.int .i64 0) 8 Try.underlying29 hi hz0 hz1 hz2 rfl lo l.length lcap (il l) rfl hul3 ⟨wr.heap.size, 0, none⟩ 1 (.int .i64 (k : Int)) rfl hcell rfl (by unfold maxLen; omega) (by omega) hsz ?_))
  intro gg cap' w4 hown4 hkept
  have k4 : w4.cell? ⟨w.heap.size + 1, 0, none⟩ = some (.slice lo l.length lcap) := ((hkept.grown.cell_far ⟨w.heap.size + 1, 0, none⟩ (by simp; omega) ne2.symm).trans (World.cell?_of_block HB1.out)).trans a3
  have k5 : w4.frozen? ⟨w.heap.size + 1, 0, none⟩ = false := ((hkept.grown.frozen_far ⟨w.heap.size + 1, 0, none⟩ (by simp; omega) ne2.symm).trans (World.frozen?_of_block HB1.out)).trans a4
  have hat : gg ≠ w.heap.size + 1 := by
    rcases hkept.at_ with e | e
    · exact a6 gg e
    · simp at e; omega
  have hb4 : Below w.heap.size w w4 := (a7.alloc a7.size _).grown hkept.grown hsz (fun k hk => (a5.lt k hk).1)
  have hfs : Fr (fun g => g = w.heap.size + 1) w4 (w4.setCell ⟨w.heap.size + 1, 0, none⟩ (.slice (some ⟨gg, 0, none⟩) (l.length + 1) cap')) := (Fr.refl (fun g => g = w.heap.size + 1) _).setCell (p := ⟨w.heap.size + 1, 0, none⟩) rfl _
  have hown5 : Il w4 w.heap.size (some ⟨gg, 0, none⟩) cap' (l ++ [(k : Int)]) := by
    unfold Il
    rw [List.length_append, il_app]
    exact hown4
  have hfin : Srn w (l ++ [(k : Int)]) (w4.setCell ⟨w.heap.size + 1, 0, none⟩ (.slice (some ⟨gg, 0, none⟩) (l.length + 1) cap')) := by
    refine ⟨some ⟨gg, 0, none⟩, cap', ?_, ?_, ?_, fun g hg => ?_, ?_⟩
    · simp only [List.length_append, List.length_singleton]
      exact World.cell?_setCell_same _ _ _ (by rw [k4])
    · rw [frozen_setCell]; exact k5
    · exact hown5.fr hfs (fun g hg e => by have e2 : g = w.heap.size + 1 := e; simp [blk] at hg; omega)
    · simp [blk] at hg; omega
    · exact hb4.setCell (p := ⟨w.heap.size + 1, 0, none⟩) (show w.heap.size ≤ w.heap.size + 1 by omega) _
  clear hown4 hkept hown5 hfs hb4 a3 a4 a5 hul3 hcell
  go_wp2_with fail
  go_end0
  exact ⟨rfl, hfin⟩

def RunsPost (w : World) (l : List Int) (e : Ending) (w' : World) : Prop := ∃ lo lcap, e = .returned (.slice lo l.length lcap) ∧ Il w' w.heap.size lo lcap l ∧ Below w.heap.size w w'
theorem runs_any (w : World) (a : Option Addr) (len cap b off : Nat) (I : Nat → Int) (h : Is w a len cap b off I) (hlen : len ≤ 1048575) :
    Calls Try.prog 32 #[.slice a len cap] w (RunsPost w (rr I len ++ [(rn I len : Int)])) := by
  have hz : ((w.alloc (.cells #[] 3)).alloc (.cells #[.slice (some ⟨w.heap.size, 0, none⟩) 0 0] 29)).heap.size = w.heap.size + 2 := by simp
  have hb0 : Below w.heap.size w ((w.alloc (.cells #[] 3)).alloc (.cells #[.slice (some ⟨w.heap.size, 0, none⟩) 0 0] 29)) := ((Below.refl _ _).alloc (Nat.le_refl _) _).alloc (by simp) _
  have hs0 : Srn w [] ((w.alloc (.cells #[] 3)).alloc (.cells #[.slice (some ⟨w.heap.size, 0, none⟩) 0 0] 29)) := by
    have e : (w.alloc (.cells #[] 3)).heap.size = w.heap.size + 1 := by simp
    have own0 : (w.alloc (.cells #[] 3)).ownsRow w.heap.size 3 1 (.slice (some ⟨w.heap.size, 0, none⟩) 0 0) 0 [] := World.ownsRow_made w #[] 0 (Nat.le_refl _) (Nat.zero_le _) rfl
    refine ⟨some ⟨w.heap.size, 0, none⟩, 0, by rw [← e]; simp, by rw [← e]; simp, ownsRow_block own0 fun g hg => RowKit.Below.heap_alloc _ _ _ (by simp [blk] at hg; simp; omega), fun g hg => by simp [blk] at hg; omega, hb0⟩
  have hea := each_any 60 #[.pointer (some ⟨w.heap.size + 1, 0, none⟩)] (fun args w => Try.call60 args w) _ a len cap b off I (Srn w (rr I len ++ [(rn I len : Int)]))
    (fun o wr => o ≤ len ∧ rn I o = 0 ∧ Srn w (rr I o) wr) (h.below hb0 h.lt) ⟨Nat.zero_le _, rfl, hs0⟩
    (fun o wr ⟨_, _, _, _, _, _, _, _, hb⟩ => h.below hb h.lt)
    (fun o k wr v hlt hz hnz ⟨q1, q2, hs⟩ ht => by
      have hl := rr_len I o
      refine (runs1_any k v w wr _ hs (by omega)).mono ?_
      rintro e w' ⟨rfl, hs'⟩
      obtain ⟨e1, e2⟩ := runs_zero (kp := 0) (p := (0, 0)) q2 k hz
      have e3 := rr_zero k hz
      have e4 : rr I (o + k + 1) = rr I o ++ [(k : Int)] := by
        show (if I (o + k) = 0 then _ else _) = _
        rw [if_neg hnz, e1, e3]
      refine ⟨rfl, by omega, if_neg hnz, ?_⟩
      rw [e4]
      exact hs')
    (fun o k wr v hlt hz ⟨q1, q2, hs⟩ ht => by
      have hl := rr_len I o
      refine (runs1_any k v w wr _ hs (by omega)).mono ?_
      rintro e w' ⟨rfl, hs'⟩
      obtain ⟨e1, e2⟩ := runs_zero (kp := 0) (p := (0, 0)) q2 k hz
      have e3 := rr_zero k hz
      refine ⟨rfl, ?_⟩
      rw [← hlt, e3, e1]
      exact hs')
  have HEA := hid hea
  clear hea hs0 hb0 h hz
  go_enter Try.func32, Try.ntmps32
  go_wp2_with fail
  refine Calls.mono HEA.out ?_
  rintro e w1 ⟨rfl, lo, lcap, a3, a4, a5, a6, a7⟩
  have hfin : RunsPost w (rr I len ++ [(rn I len : Int)]) (.returned (.slice lo (rr I len ++ [(rn I len : Int)]).length lcap)) w1 := ⟨lo, lcap, rfl, a5, a7⟩
  clear a4 a5 a6 a7 HEA
  generalize rr I len ++ [(rn I len : Int)] = l at *
  go_wp2_with fail
  go_ret
  exact hfin

set_option maxHeartbeats 1600000 in
set_option maxRecDepth 100000 in
theorem rruns_any (w : World) (a : Option Addr) (len cap b off : Nat) (I : Nat → Int) (h : Is w a len cap b off I) (hlen : len ≤ 1048575) :
    Calls Try.prog 33 #[.slice a len cap] w (RunsPost w (rr I len ++ [(rn I len : Int)])) := by
  obtain ⟨i0, hi, hz0, hz1, hz2⟩ := info_parts Try.info3
  have H := hid h
  clear h
  go_enter Try.func33, Try.ntmps33
  go_wp2_with fail
  go_loopg [3, 4, 5] len (fun g v n i wr => ∃ (j : Nat) (lo : Option Addr) (lcap : Nat), j ≤ len ∧ g = len - j ∧ v = .slice lo (rr I j).length lcap ∧ n = .int .i64 (rn I j : Int) ∧ i = .int .i64 j ∧ Il wr w.heap.size lo lcap (rr I j) ∧ Below w.heap.size w wr)
  case atStart => exact ⟨0, none, 0, Nat.zero_le _, rfl, rfl, rfl, rfl, World.ownsRow_nil _ _ _ _, Below.refl _ _⟩
  case round =>
    obtain ⟨j, lo, lcap, hj, hg, rfl, rfl, rfl, hil, hb⟩ := hrel
    have HG := hid hg
    have hrl := rn_le I j
    have hrr := rr_len I j
    clear hg
    by_cases hlt : j < len
    · have hlt2 : (j : Int) < (len : Int) := by omega
      have ck := (H.out.below hb H.out.lt).c j hlt
      obtain rfl := H.out.addr (by omega)
      by_cases h0 : I j = 0
      · have HE : Hid (rr I (j + 1) = rr I j ∧ rn I (j + 1) = rn I j + 1) := hid ⟨if_pos h0, if_pos h0⟩
        rw [h0] at ck
        clear h0
        generalize rr I j = lj at *
        generalize rn I j = nj at *
        go_wp2_with fail
        go_roundg (len - (j + 1))
        case measure => rw [HG.out]; omega
        case rel => exact ⟨j + 1, lo, lcap, by omega, rfl, by rw [HE.out.1], by rw [HE.out.2]; go_num, by go_num, by rw [HE.out.1]; exact hil, hb⟩
      · have HE : Hid (rr I (j + 1) = rr I j ++ [(rn I j : Int)] ∧ rn I (j + 1) = 0) := hid ⟨if_neg h0, if_neg h0⟩
        have e0 : ((I j) == 0) = false := beq_eq_false_iff_ne.2 h0
        clear h0
        generalize rr I j = lj at *
        generalize rn I j = nj at *
        generalize I j = ij at *
        have hul3 : Il (wr.alloc (.cells #[.int .i64 (nj : Int)] 3)) w.heap.size lo lcap lj := ownsRow_block hil fun g hg => RowKit.Below.heap_alloc _ _ _ (hil.lt g hg).2
        have hcell : (wr.alloc (.cells #[.int .i64 (nj : Int)] 3)).cell? ⟨wr.heap.size, 0, none⟩ = some (.int .i64 (nj : Int)) := by simp
        have hsz : w.heap.size ≤ (wr.alloc (.cells #[.int .i64 (nj : Int)] 3)).heap.size := by have := hb.size; simp; omega
        unfold Il at hul3
        go_wp2_with (at_builtin; go_must (refine wpList_append_one rfl (.tmp 19) (.tmp 21) 29 rfl w.heap.size 3 i0 (.int .i64 0) 8 Try.underlying29 hi hz0 hz1 hz2 rfl lo lj.length lcap (il lj) rfl hul3 ⟨wr.heap.size, 0, none⟩ 1 (.int .i64 (nj : Int)) rfl hcell rfl (by unfold maxLen; omega) (by omega) hsz ?_))
        intro gg cap' w4 hown4 hkept
        have hb4 : Below w.heap.size w w4 := (hb.alloc hb.size _).grown hkept.grown hsz (fun k hk => (hil.lt k hk).1)
        have hown5 : Il w4 w.heap.size (some ⟨gg, 0, none⟩) cap' (lj ++ [(nj : Int)]) := by
          unfold Il
          rw [List.length_append, il_app]
          exact hown4
        clear hown4 hkept hul3 hcell hsz ck hil hb
        go_wp2_with fail
        go_roundg (len - (j + 1))
        case measure => rw [HG.out]; omega
        case rel => exact ⟨j + 1, _, cap', by omega, rfl, by rw [HE.out.1, List.length_append]; rfl, by rw [HE.out.2]; rfl, by go_num, by rw [HE.out.1]; exact hown5, hb4⟩
    · have hge : ¬ (j : Int) < (len : Int) := by omega
      obtain rfl : j = len := by omega
      have HE : Hid (rr I j ++ [(rn I j : Int)] = rr I j ++ [(rn I j : Int)]) := hid rfl
      generalize hlj : rr I j = lj at *
      generalize hnj : rn I j = nj at *
      have HLJ := hid hlj
      have HNJ := hid hnj
      clear hlj hnj
      have hul3 : Il (wr.alloc (.cells #[.int .i64 (nj : Int)] 3)) w.heap.size lo lcap lj := ownsRow_block hil fun g hg => RowKit.Below.heap_alloc _ _ _ (hil.lt g hg).2
      have hcell : (wr.alloc (.cells #[.int .i64 (nj : Int)] 3)).cell? ⟨wr.heap.size, 0, none⟩ = some (.int .i64 (nj : Int)) := by simp
      have hsz : w.heap.size ≤ (wr.alloc (.cells #[.int .i64 (nj : Int)] 3)).heap.size := by have := hb.size; simp; omega
      unfold Il at hul3
      go_wp2_with (at_builtin; go_must (refine wpList_append_one rfl (.tmp 23) (.tmp 25) 29 rfl w.heap.size 3 i0 (.int .i64 0) 8 Try.underlying29 hi hz0 hz1 hz2 rfl lo lj.length lcap (il lj) rfl hul3 ⟨wr.heap.size, 0, none⟩ 1 (.int .i64 (nj : Int)) rfl hcell rfl (by unfold maxLen; omega) (by omega) hsz ?_))
      intro gg cap' w4 hown4 hkept
      have hb4 : Below w.heap.size w w4 := (hb.alloc hb.size _).grown hkept.grown hsz (fun k hk => (hil.lt k hk).1)
      have hfin : RunsPost w (lj ++ [(nj : Int)]) (.returned (.slice (some ⟨gg, 0, none⟩) (lj.length + 1) cap')) w4 := by
        refine ⟨some ⟨gg, 0, none⟩, cap', by rw [List.length_append]; rfl, ?_, hb4⟩
        unfold Il
        rw [List.length_append, il_app]
        exact hown4
      clear hown4 hkept hul3 hcell hsz hil hb hb4 HE
      go_wp2_with fail
      go_ret
      exact hfin

theorem and511 (n : Int) : bits .and .i64 n 511 = n % 512 := by
  have h127 : (BitVec.ofInt 64 511).toNat = 2 ^ 9 - 1 := by decide
  have key : (BitVec.ofInt 64 n &&& BitVec.ofInt 64 511).toNat = (n % ((2 ^ 64 : Nat) : Int)).toNat % 2 ^ 9 := by
    rw [BitVec.toNat_and, BitVec.toNat_ofInt, h127, Nat.and_two_pow_sub_one_eq_mod]
  show IntKind.i64.wrap ((BitVec.ofInt 64 n &&& BitVec.ofInt 64 511).toNat : Nat) = n % 512
  rw [key, IntKind.wrap_i64]
  omega
end Go.Proofs.Ytleamamecgmmjaa.Runs
