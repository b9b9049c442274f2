/- Get of runs: the whole. Conditions: the parameter and the number may be; fewer than 2^20 bytes. -/
import Derived.Test.YtleamamecgmmjaaRs
namespace Go.Proofs.Ytleamamecgmmjaa.Runs
open Go.RowKit Bit Rice

theorem rget_arg (w : World) (a : Addr) (n k : Int) (h : ¬ (okK k ∧ 0 ≤ n ∧ n ≤ 1048576)) : Calls Try.prog 28 #[.pointer (some a), .int .i64 n, .int .i64 k] w fun e w' => e = .returned (.tuple #[.slice none 0 0, .int .i64 1]) ∧ w = w' := by
  by_cases h0 : okK k
  · have hd0 := decide_eq_true h0
    by_cases h1 : n < 0
    · clear h
      go_enter Try.func28, Try.ntmps28
      go_wp2_with fail
      refine (isparr k w).mono ?_
      rintro e w' ⟨rfl, rfl⟩
      rw [hd0]
      go_wp2_with fail
      go_ret2
      exact ⟨rfl, rfl⟩
    · have h2 : 1048576 < n := by
        by_cases e : n ≤ 1048576
        · exact absurd ⟨h0, by omega, e⟩ h
        · omega
      clear h
      go_enter Try.func28, Try.ntmps28
      go_wp2_with fail
      refine (isparr k w).mono ?_
      rintro e w' ⟨rfl, rfl⟩
      rw [hd0]
      go_wp2_with fail
      go_ret2
      exact ⟨rfl, rfl⟩
  · have hd0 := decide_eq_false h0
    clear h
    go_enter Try.func28, Try.ntmps28
    go_wp2_with fail
    refine (isparr k w).mono ?_
    rintro e w' ⟨rfl, rfl⟩
    rw [hd0]
    go_wp2_with fail
    go_ret2
    exact ⟨rfl, rfl⟩

/-- A list, and noughts behind it. -/
def padd (l : List Int) (i : Nat) : Int := l.getD i 0
theorem padd_app (pre : List Int) (z : Nat) (x : Int) (i : Nat) : (if i = pre.length + z then x else padd pre i) = padd (pre ++ List.replicate z 0 ++ [x]) i := by
  unfold padd
  simp only [List.getD_eq_getElem?_getD]
  by_cases e : i = pre.length + z
  · subst e
    rw [if_pos rfl, List.getElem?_append_right (by simp)]
    simp
  · rw [if_neg e]
    by_cases h1 : i < pre.length
    · rw [List.append_assoc, List.getElem?_append_left h1]
    · rw [List.getElem?_eq_none (by omega)]
      by_cases h2 : i < pre.length + z
      · rw [List.getElem?_append_left (by simp; omega), List.getElem?_append_right (by omega), List.getElem?_replicate]
        split <;> rfl
      · rw [List.getElem?_eq_none (by simp; omega)]
theorem padd_rep (pre : List Int) (m i : Nat) : padd pre i = padd (pre ++ List.replicate m 0) i := by
  unfold padd
  simp only [List.getD_eq_getElem?_getD]
  by_cases h1 : i < pre.length
  · rw [List.getElem?_append_left h1]
  · rw [List.getElem?_eq_none (by omega), List.getElem?_append_right (by omega), List.getElem?_replicate]
    split <;> rfl

/-- What Get has read so far. -/
def GI (w : World) (q g0 M T k n p0 g' : Nat) (v : Value) (wr : World) : Prop := ∃ (p : Nat) (l : List Int), p ≤ 8 * T ∧ Rd wr q g0 M T p ∧ Fr (fun b => b = q) w wr ∧ wr.rowIs w.heap.size 3 n (fun i => .int .i64 (padd l i)) ∧
  ((∃ f m cap', 0 < m ∧ v = .slice (some ⟨w.heap.size, n - m, none⟩) m cap' ∧ m ≤ cap' ∧ cap' ≤ 9223372036854775807 ∧ Pre M T k n p0 l f m p ∧ g' = m) ∨
   (∃ a' cap', v = .slice a' 0 cap' ∧ GRun M T k n n p0 (l, 0, p) ∧ g' = 0))
def GetPost (w : World) (q g0 M T k n p0 : Nat) (e : Ending) (w' : World) : Prop := ∃ (r : List Int × Int × Nat) (lo : Option Addr) (lcap : Nat), GRun M T k n n p0 r ∧ e = .returned (.tuple #[.slice lo r.1.length lcap, .int .i64 r.2.1]) ∧
  (0 < r.1.length → lo = some ⟨w.heap.size, 0, none⟩) ∧ r.1.length ≤ lcap ∧ lcap ≤ 9223372036854775807 ∧ (∀ i, i < r.1.length → w'.cell? ⟨w.heap.size, i, none⟩ = some (.int .i64 (padd r.1 i))) ∧ w.heap.size < w'.heap.size ∧ Rd w' q g0 M T r.2.2 ∧ Fr (fun b => b = q) w w'

set_option maxHeartbeats 1600000 in
set_option maxRecDepth 100000 in
theorem get_any {w : World} {q g0 M T p0 : Nat} (h : Rd w q g0 M T p0) (hp : p0 ≤ 8 * T) (hT : T ≤ 1048576) (n k : Nat) (hk : k ≤ 30) (hn : n ≤ 1048576) :
    Calls Try.prog 28 #[.pointer (some ⟨q, 0, none⟩), .int .i64 (n : Int), .int .i64 (k : Int)] w (GetPost w q g0 M T k n p0) := by
  have hkk : okK (k : Int) := ⟨by omega, by omega⟩
  have hd0 := decide_eq_true hkk
  have g1 : ¬ (n : Int) < 0 := by omega
  have g2 : ¬ (1048576 : Int) < (n : Int) := by omega
  have hmk : ∀ w, (Instr.makeSlice 29 (.int .i64 (n : Int)) (.int .i64 (n : Int))).run Try.prog w = .ok (.slice (some ⟨w.heap.size, 0, none⟩) n n) (w.alloc (.cells (madeCells #[.int .i64 0] n) 3)) := fun w =>
    run_make_row' (P := Try.prog) 29 3 (.int .i64 0) 8 Try.underlying29 Try.info3 rfl .i64 .i64 n (by omega) (by omega) w
  have hq0 : q < w.heap.size := World.block_lt_of_cell? w _ h.c0
  have hg0 : g0 < w.heap.size := h.row.lt
  have hst : GI w q g0 M T k n p0 n (.slice (some ⟨w.heap.size, 0, none⟩) n n) (w.alloc (.cells (madeCells #[.int .i64 0] n) 3)) := by
    have hrow := World.rowIs_made w (.int .i64 0) n 3
    refine ⟨p0, [], hp, h.keep (X := fun _ => False) ((Fr.refl _ _).alloc _) (fun x => x) (fun x => x), (Fr.refl _ _).alloc _, hrow.congr fun i hi => rfl, ?_⟩
    have hpre := Pre.start M T k n p0
    by_cases h0 : n = 0
    · subst h0
      exact .inr ⟨_, _, rfl, hpre.done, rfl⟩
    · exact .inl ⟨n, n, n, by omega, by rw [Nat.sub_self], Nat.le_refl _, by omega, hpre, rfl⟩
  clear h
  go_enter Try.func28, Try.ntmps28
  go_wp2_with fail
  refine (isparr k w).mono ?_
  rintro e w' ⟨rfl, rfl⟩
  rw [hd0]
  go_wp2_with fail
  clear hmk
  go_loopg [9] n (fun g' v wr => GI w q g0 M T k n p0 g' v wr)
  case atStart => exact hst
  case round =>
    obtain ⟨p, l, hpp, hrd, hfr, hrow, hcase⟩ := hrel
    clear hst
    rcases hcase with ⟨f, m, cap', hm, rfl, hmc, hcc, hpre, hg⟩ | ⟨a', cap', rfl, hrun, hg⟩
    · have HG := hid hg
      have HPRE := hid hpre
      have hlen := hpre.2.1
      clear hg hpre
      have hm0 : (0 : Int) < (m : Int) := by omega
      have hcell : ∀ i, i < m → wr.cell? ⟨w.heap.size, n - m + i, none⟩ = some (.int .i64 0) := fun i hi => by
        rw [hrow.cell (i := n - m + i) (by omega)]
        unfold padd
        rw [List.getD_eq_getElem?_getD, List.getElem?_eq_none (by omega)]; rfl
      have HR := hid (getrun_any hrd hpp (by omega) k hk w.heap.size (n - m) m cap' hm hmc hcc (by omega) (by omega) hcell (fun i _ => hrow.frozen _) hrow.lt)
      clear hcell hrd
      go_wp2_with fail
      refine Calls.mono HR.out ?_
      rintro e w2 ⟨x, hx, hxc⟩
      have HX := hid hx
      have hle := hx.le hpp
      clear HR hx
      rcases hxc with ⟨he, rfl, hrd2, hf2⟩ | ⟨he, hz, rfl, hrd2, hf2⟩ | ⟨he, hz, a', cap2, rfl, ha', hc1, hc2, w1, hrd1, hf1, rfl⟩
      · have hne : (x.1 != 0) = true := bne_iff_ne.2 he
        have hrun := HPRE.out.err hm HX.out he
        have hfin : GetPost w q g0 M T k n p0 (.returned (.tuple #[.slice none 0 0, .int .i64 x.1])) w2 :=
          ⟨_, none, 0, hrun, rfl, fun h => absurd h (Nat.lt_irrefl _), Nat.le_refl _, by omega, fun i hi => absurd hi (Nat.not_lt_zero _), Nat.lt_of_lt_of_le hrow.lt hf2.size, hrd2, hfr.trans hf2⟩
        clear hrun hrd2 hf2 hfr hrow he
        go_wp2_with fail
        go_ret2
        exact hfin
      · have hrun := HPRE.out.last hm HX.out he hz
        have hst2 : GI w q g0 M T k n p0 0 (.slice none 0 0) w2 := by
          refine ⟨x.2.1, l ++ List.replicate m 0, hle.1, hrd2, hfr.trans hf2, ?_, .inr ⟨none, 0, rfl, hrun, rfl⟩⟩
          exact (hrow.of_block (hf2.block _ hrow.lt (by omega))).congr fun i hi => by rw [padd_rep l m]
        clear hrun hrd2 hf2 hfr hrow he hz
        go_wp2_with fail
        go_roundg 0
        case measure => rw [HG.out]; omega
        case rel => exact hst2
      · obtain ⟨f', hpre2⟩ := HPRE.out.num hm HX.out he hz
        have hgw : w.heap.size < w1.heap.size := Nat.lt_of_lt_of_le hrow.lt hf1.size
        have hfs : Fr (fun b => b = w.heap.size) w1 (w1.setCell ⟨w.heap.size, n - m + x.2.2.1, none⟩ (.int .i64 x.2.2.2)) := (Fr.refl (fun b => b = w.heap.size) _).setCell (p := ⟨w.heap.size, n - m + x.2.2.1, none⟩) rfl _
        have hst2 : GI w q g0 M T k n p0 (m - x.2.2.1 - 1) (.slice a' (m - x.2.2.1 - 1) cap2) (w1.setCell ⟨w.heap.size, n - m + x.2.2.1, none⟩ (.int .i64 x.2.2.2)) := by
          refine ⟨x.2.1, l ++ List.replicate x.2.2.1 0 ++ [x.2.2.2], hle.1, hrd1.keep hfs (by omega) (by omega), ?_, ?_, ?_⟩
          · have h3 := hfr.trans hf1
            exact ⟨h3.os, h3.tape, h3.output, Nat.le_trans h3.size hfs.size, fun b hb hx => (hfs.block b (Nat.lt_of_lt_of_le hb h3.size) (by omega)).trans (h3.block b hb hx)⟩
          · refine ((hrow.of_block (hf1.block _ hrow.lt (by omega))).set (n - m + x.2.2.1) (.int .i64 x.2.2.2)).congr fun i hi => ?_
            rw [← padd_app l x.2.2.1 x.2.2.2 i, show l.length + x.2.2.1 = n - m + x.2.2.1 from by omega]
            split <;> rfl
          · by_cases h0 : m - x.2.2.1 - 1 = 0
            · refine .inr ⟨a', cap2, by rw [h0], ?_, h0⟩
              rw [h0] at hpre2
              exact hpre2.done
            · refine .inl ⟨f', _, cap2, by omega, ?_, hc1, hc2, hpre2, rfl⟩
              rw [ha' (by omega), show n - (m - x.2.2.1 - 1) = n - m + x.2.2.1 + 1 from by omega]
        have hmm : m - x.2.2.1 - 1 < m := by omega
        clear hpre2 hfs hrd1 hf1 hfr hrow he hz ha' hc1 hc2 hle
        go_wp2_with fail
        go_roundg (m - x.2.2.1 - 1)
        case measure => rw [HG.out]; exact hmm
        case rel => exact hst2
    · have hll := hrun.len rfl
      simp only at hll
      have hfin : GetPost w q g0 M T k n p0 (.returned (.tuple #[.slice (some ⟨w.heap.size, 0, none⟩) n n, .int .i64 0])) wr := by
        refine ⟨_, some ⟨w.heap.size, 0, none⟩, n, hrun, by simp only [hll], fun _ => rfl, by simp only [hll]; exact Nat.le_refl _, by omega, fun i hi => ?_, hrow.lt, hrd, hfr⟩
        simp only [hll] at hi
        exact hrow.cell hi
      clear hrun hrd hfr hrow hll
      go_wp2_with fail
      go_ret2
      exact hfin
end Go.Proofs.Ytleamamecgmmjaa.Runs
