/- An append to a list of the call's own, as a step of a region that draws its order; the document's Gamma. Conditions: those that each lemma names. -/
import Derived.Test.YtleamamecgmmjaaRh
namespace Go.Proofs.Ytleamamecgmmjaa.Runs
open Go.RowKit Bit Rice

theorem run_append_list {P : Program} (w : World) (t ty : TypeId)
    (base : Nat) (e : TypeId) (i : TypeInfo) (z : Value) (bytes : Nat) (h1 : P.underlying t = some (.slice e)) (h2 : P.info? e = some i) (h3 : i.zero = some z)
    (h4 : i.size = 1) (h5 : i.bytes = bytes) (h6 : z.cells.size = 1)
    (ao : Option Addr) (n cap : Nat) (xs : List Value) (hown : w.ownsRow base e 1 (.slice ao n cap) n xs)
    (bo : Option Addr) (m c : Nat) (news : List Value) (hl : news.length = m) (hnone : bo = none → m = 0 ∧ c = 0) (hc : ∀ ad, bo = some ad → ∀ j u, news[j]? = some u → w.cell? (ad.add j) = some u) (hu : ∀ u ∈ news, u.oneCell' = true)
    (b1 : n + m ≤ maxLen) (b2 : (n + m) * bytes ≤ 140737488355328) (hbase : base ≤ w.heap.size) :
    ∃ ao' cap' w', (Builtin.append_ #[t, t] ty #[.slice ao n cap, .slice bo m c]).run P w = .ok (.slice ao' (n + m) cap') w' ∧
      w'.ownsRow base e 1 (.slice ao' (n + m) cap') (n + m) (xs ++ news) ∧ w.grownBy w' (blk ao) := by
  cases bo with
  | none =>
    obtain ⟨rfl, rfl⟩ := hnone rfl
    obtain rfl : news = [] := List.eq_nil_of_length_eq_zero hl
    exact ⟨ao, cap, w, run_append_owned_none w base t ty e i 1 h1 h2 _ n xs hown, by simpa using hown, World.grownBy.refl _ _⟩
  | some ad =>
    obtain ⟨v', w', hrun, r1, r2, _⟩ := run_append_own (P := P) w base t ty e i z 1 bytes h1 h2 h3 h4 h5 h6 (by decide) (.slice ao n cap) n xs hown ad m c news (by omega) (hc ad rfl) hu b1 b2 hbase
    rw [ownBlock_slice] at r2
    obtain ⟨ao', cap', rfl⟩ : ∃ ao' cap', v' = .slice ao' (n + m) cap' := by
      rcases r1.2 with ⟨hv, h0⟩ | ⟨g, c', cur, hv, _⟩
      · exact ⟨none, 0, by rw [hv, h0]⟩
      · exact ⟨_, _, hv⟩
    exact ⟨ao', cap', w', hrun, r1, r2⟩

theorem step_append_list {P : Program} {ops : Array Oper} {o : Oper} {a : Act} {K : Act → World → Prop} {Q : Exit → Act → World → Prop} {w : World} {E : Prop} (hgd : o.guard = none) (s x : Operand) (t : TypeId)
    (hop : o.op = .call { callee := .builtin .append, args := #[s, x], argTypes := #[t, t] })
    (base : Nat) (e : TypeId) (i : TypeInfo) (z : Value) (bytes : Nat) (h1 : P.underlying t = some (.slice e)) (h2 : P.info? e = some i) (h3 : i.zero = some z)
    (h4 : i.size = 1) (h5 : i.bytes = bytes) (h6 : z.cells.size = 1)
    (ao : Option Addr) (n cap : Nat) (xs : List Value) (hs : a.eval s = .slice ao n cap) (hown : w.ownsRow base e 1 (.slice ao n cap) n xs)
    (bo : Option Addr) (m c : Nat) (news : List Value) (hx : a.eval x = .slice bo m c) (hl : news.length = m) (hnone : bo = none → m = 0 ∧ c = 0) (hc : ∀ ad, bo = some ad → ∀ j u, news[j]? = some u → w.cell? (ad.add j) = some u) (hu : ∀ u ∈ news, u.oneCell' = true)
    (b1 : n + m ≤ maxLen) (b2 : (n + m) * bytes ≤ 140737488355328) (hbase : base ≤ w.heap.size)
    (hK : ∀ ao' cap' w', w'.ownsRow base e 1 (.slice ao' (n + m) cap') (n + m) (xs ++ news) → w.grownBy w' (blk ao) → K (a.put o.dst (.slice ao' (n + m) cap')) w') :
    if Region.wanted o (yielded ops a.tmps) = true then Oper.wp P o a w K Q else E := by
  have hw : Region.wanted o (yielded ops a.tmps) = true := by simp [Region.wanted, hgd]
  rw [if_pos hw]
  obtain ⟨ao', cap', w', hrun, r1, r2⟩ := run_append_list (P := P) w t o.type base e i z bytes h1 h2 h3 h4 h5 h6 ao n cap xs hown bo m c news hl hnone hc hu b1 b2 hbase
  unfold Oper.wp
  simp [execOp, hop, resolve, invoke, builtin, hs, hx, hrun, Result.andThen]
  exact hK ao' cap' w' r1 r2

theorem Lst.base_le {w : World} {B B' : Nat} {lo : Option Addr} {lcap N L : Nat} (h : Lst w B lo lcap N L) (hB : B' ≤ B) : Lst w B' lo lcap N L :=
  ⟨h.1, h.2.imp id fun ⟨g, c, cur, h1, h2, h3⟩ => ⟨g, c, cur, h1, Nat.le_trans hB h2, h3⟩⟩
theorem bitl_zero (m : Nat) : bitl 0 m = List.replicate m (.int .i64 0) := by
  unfold bitl
  apply List.ext_getElem
  · simp
  · intro i h1 h2
    simp [bitOf]
theorem own_zeros (w : World) (m : Nat) (hm : m ≤ 9223372036854775807) : (w.alloc (.cells (madeCells #[.int .i64 0] m) 3)).ownsRow w.heap.size 3 1 (.slice (some ⟨w.heap.size, 0, none⟩) m m) m (bitl 0 m) := by
  refine ⟨by rw [bitl_len, Nat.mul_one], .inr ⟨w.heap.size, m, _, rfl, Nat.le_refl _, heap_alloc_new w _, Nat.le_refl _, hm, by simp [size_madeCells], ?_⟩⟩
  rw [bitl_zero]
  apply List.ext_getElem
  · simp [size_madeCells]
  · intro i h1 h2
    simp [madeCells, Nat.mod_one]

theorem Nw.of_own {w w' : World} {lo : Option Addr} {lcap N L : Nat} (h : w'.ownsRow w.heap.size 3 1 (.slice lo L lcap) L (bitl N L)) (hb : Below w.heap.size w w') : Nw w w.heap.size lo lcap N L w' :=
  ⟨h, hb, fun g hg => (World.ownsRow.lt h g (by rw [ownBlock_slice]; exact hg)).1⟩

def gv (v : Nat) : Nat := if hg v then v else 0
theorem gv_ok {v : Nat} (h : hg v) : gv v = v := if_pos h
theorem gv_lt (v : Nat) : gv v < 2 ^ gl v := by
  by_cases h : hg v
  · rw [gv_ok h]; exact (gl_ok h).2.2.2.1
  · rw [gl_no h, show gv v = 0 from if_neg h]; decide

set_option maxHeartbeats 1600000 in
set_option maxRecDepth 100000 in
theorem rgamma_any (v : Nat) (hv : v < 18446744073709551616) (w : World) : Calls Try.prog 11 #[.int .u64 (v : Int)] w (CodePost w (gv v) (gl v)) := by
  by_cases h : hg v
  · obtain ⟨e1, e2, e3, e4, e5, e6⟩ := gl_ok h
    rw [gv_ok h, e1]
    obtain ⟨i0, hi, hz0, hz1, hz2⟩ := info_parts Try.info3
    have h0 : 0 < v := h.1
    have h1 : v < 4294967296 := h.2
    have g0 : ¬ (v : Int) < 1 := by omega
    have g1 : ¬ (4294967295 : Int) < (v : Int) := by omega
    have HW := hid (rwidth_any v hv)
    have HE6 := hid e6
    clear e1 e4 e5 e6 h
    generalize Lib.bitLen v = n at *
    have em : IntKind.i64.wrap ((n : Int) - 1) = ((n - 1 : Nat) : Int) := by rw [IntWalk.i64_in _ (by omega)]; omega
    have hmk : ∀ w, (Instr.makeSlice 29 (.int .i64 (IntKind.i64.wrap ((n : Int) - 1))) (.int .i64 (IntKind.i64.wrap ((n : Int) - 1)))).run Try.prog w = .ok (.slice (some ⟨w.heap.size, 0, none⟩) (n - 1) (n - 1)) (w.alloc (.cells (madeCells #[.int .i64 0] (n - 1)) 3)) := fun w => by
      rw [em]
      exact run_make_row' (P := Try.prog) 29 3 (.int .i64 0) 8 Try.underlying29 Try.info3 rfl .i64 .i64 (n - 1) (by omega) (by omega) w
    clear em
    go_enter Try.func11, Try.ntmps11
    go_wp2_with fail
    refine (HW.out w).mono ?_
    rintro e w1 ⟨rfl, rfl⟩
    go_wp2_with fail
    have hbd : Below w.heap.size w w.drew := ⟨rfl, rfl, rfl, Nat.le_refl _, fun _ _ => rfl⟩
    have hsd : w.drew.heap.size = w.heap.size := rfl
    go_region_law (first
      | (go_simp; go_at_call 37; (with_reducible refine (bits_any v n _ (by omega) hv).mono ?_); rintro e w5 ⟨rfl, hb5, hrow⟩; (try (have hrA : w5.rowIs (w.heap.size + 1) 3 n (fun i => .int .i64 (bitOf v n i : Int)) := by simpa using hrow)); (try (have hrB : w5.rowIs w.heap.size 3 n (fun i => .int .i64 (bitOf v n i : Int)) := hrow)); dsimp only)
      | (refine step_append_list (by rfl) (.tmp 14) (.tmp 17) 29 (by rfl) w.heap.size 3 i0 (.int .i64 0) 8 Try.underlying29 hi hz0 hz1 hz2 rfl (some ⟨w.heap.size, 0, none⟩) (n - 1) (n - 1) (bitl 0 (n - 1)) (by rfl)
            (Lst.upto (own_zeros w.drew (n - 1) (by omega)) hb5) (some ⟨w.heap.size + 1, 0, none⟩) n n (bitl v n) (by rfl) (bitl_len v n) (by simp) (fun ad had i u' hj => by
              cases had
              have hjm : i < n := by have := (List.getElem?_eq_some_iff.1 hj).1; simpa [bitl] using this
              rw [Addr.add_lit, Nat.zero_add, hrA.cell hjm, ← bitl_at v n i hjm]; exact hj) (bitl_one v n) (by unfold maxLen; omega) (by omega) (by have := hb5.size; simp at this; omega) ?_
         intro lo4 lcap4 w4 hown4 hg4)
      | (refine step_append_list (by rfl) (.tmp 14) (.tmp 17) 29 (by rfl) w.heap.size 3 i0 (.int .i64 0) 8 Try.underlying29 hi hz0 hz1 hz2 rfl (some ⟨w5.heap.size, 0, none⟩) (n - 1) (n - 1) (bitl 0 (n - 1)) (by rfl)
            (Lst.base_le (own_zeros w5 (n - 1) (by omega)) hb5.size) (some ⟨w.heap.size, 0, none⟩) n n (bitl v n) (by rfl) (bitl_len v n) (by simp) (fun ad had i u' hj => by
              cases had
              have hjm : i < n := by have := (List.getElem?_eq_some_iff.1 hj).1; simpa [bitl] using this
              rw [Addr.add_lit, Nat.zero_add, (hrB.alloc _).cell hjm, ← bitl_at v n i hjm]; exact hj) (bitl_one v n) (by unfold maxLen; omega) (by omega) (by have := hb5.size; simp at this ⊢; omega) ?_
         intro lo4 lcap4 w4 hown4 hg4))
    all_goals
      have hbw4 : Below w.heap.size w w4 := by
        first
          | exact ((hbd.alloc (by rw [hsd]; exact Nat.le_refl _) _).trans (hb5.mono (by simp))).grown hg4 (by have := hb5.size; simp at this; omega) (fun k hk => by simp [blk] at hk; omega)
          | exact ((hbd.trans (hb5.mono (Nat.le_refl _))).alloc hb5.size _).grown hg4 (by have := hb5.size; simp at this ⊢; omega) (fun k hk => by have := hb5.size; simp [blk] at this hk; omega)
      have hfin : CodePost w v (2 * n - 1) (.returned (.slice lo4 (n - 1 + n) lcap4)) w4 := by
        have e : n - 1 + n = 2 * n - 1 := by omega
        refine ⟨lo4, lcap4, by rw [e], Nw.of_own ?_ hbw4⟩
        have ho := hown4
        rw [← bitl_app 0 (n - 1) v n HE6.out, e, Nat.zero_mul, Nat.zero_add] at ho
        exact ho
      clear hown4 hg4 hbw4 hb5
      go_wp2_with fail
      go_ret
      exact hfin
  · rw [show gv v = 0 from if_neg h, gl_no h]
    have hn := nw_none w
    by_cases h0 : v = 0
    · subst h0
      clear h
      go_enter Try.func11, Try.ntmps11
      go_wp2_with fail
      go_ret
      exact ⟨none, 0, rfl, hn⟩
    · have g0 : ¬ (v : Int) < 1 := by omega
      have g1 : (4294967295 : Int) < (v : Int) := by unfold hg at h; omega
      clear h
      go_enter Try.func11, Try.ntmps11
      go_wp2_with fail
      go_ret
      exact ⟨none, 0, rfl, hn⟩
end Go.Proofs.Ytleamamecgmmjaa.Runs
