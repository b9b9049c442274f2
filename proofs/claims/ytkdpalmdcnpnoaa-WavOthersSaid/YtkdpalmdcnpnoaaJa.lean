/- slices.Grow of an empty list; an append of noughts that are made for it; an append of a list that may be nil. Conditions: fewer than 2^40 numbers. -/
import Derived.Test.YtkdpalmdcnpnoaaSl
namespace Go.Proofs.Ytkdpalmdcnpnoaa.Pcm
open Go.RowKit Gen

set_option maxRecDepth 20000 in
theorem zeroCells_one (m : Nat) : Builtin.zeroCells #[.int .i64 0] m = (List.replicate m (.int .i64 0)).toArray := by
  unfold Builtin.zeroCells
  apply Array.ext
  · simp
  · intro i h1 h2
    simp [Nat.mod_one]

set_option maxRecDepth 20000 in
theorem run_append_zeros {P : Program} (w : World) (t u ty : TypeId)
    (base : Nat) (e : TypeId) (i : TypeInfo) (h1 : P.underlying t = some (.slice e)) (hu : P.underlying u = some (.int .i64)) (h2 : P.info? e = some i) (h3 : i.zero = some (.int .i64 0))
    (h4 : i.size = 1) (h5 : i.bytes = 8)
    (ao : Option Addr) (n cap : Nat) (xs : List Value) (hown : w.ownsRow base e 1 (.slice ao n cap) n xs)
    (m : Nat) (b1 : n + m ≤ 1099511627776) (hbase : base ≤ w.heap.size) :
    ∃ ao' cap' w', (Builtin.append_ #[t, u] ty #[.slice ao n cap, .int .i64 (m : Int)]).run P w = .ok (.slice ao' (n + m) cap') w' ∧
      w'.ownsRow base e 1 (.slice ao' (n + m) cap') (n + m) (xs ++ List.replicate m (.int .i64 0)) ∧ w.grownBy w' (blk ao) := by
  have hwr : IntKind.i64.wrap (m : Int) = (m : Int) := by rw [IntWalk.i64_in _ (by omega)]
  have hwr0 : IntKind.i64.wrap 0 = 0 := by decide
  have hm0 : ¬ (m : Int) < 0 := by omega
  have hm8 : ¬ (281474976710656 : Int) < (m : Int) * 8 := by omega
  have hlen : (xs ++ List.replicate m (Value.int .i64 0)).length = (n + m) * 1 := by rw [List.length_append, hown.1, List.length_replicate, Nat.add_mul, Nat.mul_one m]
  have grown : ∀ (old : Nat), old < n + m → ∀ (row : Option Nat),
      (w.drew.alloc (.cells (xs.toArray ++ (List.replicate m (Value.int .i64 0)).toArray ++ Builtin.zeroCells #[.int .i64 0] (grownCap w (n + m) old e - (n + m))) e)).ownsRow base e 1
        (.slice (some ⟨w.heap.size, 0, none⟩) (n + m) (grownCap w (n + m) old e)) (n + m) (xs ++ List.replicate m (.int .i64 0)) ∧
      w.grownBy (w.drew.alloc (.cells (xs.toArray ++ (List.replicate m (Value.int .i64 0)).toArray ++ Builtin.zeroCells #[.int .i64 0] (grownCap w (n + m) old e - (n + m))) e)) row := by
    intro old ho row
    have hge := grownCap_ge w (n + m) old e
    have hcm : grownCap w (n + m) old e ≤ maxLen := grownCap_le_maxLen w (n + m) old e (by unfold maxLen; omega)
    refine ⟨⟨hlen, .inr ⟨w.heap.size, _, _, rfl, hbase, heap_alloc_new w.drew _, hge, hcm, ?_, ?_⟩⟩, ⟨rfl, rfl, rfl, by simp, fun k hk _ => RowKit.Below.heap_alloc w.drew _ k hk⟩⟩
    · have h0 := hown.1
      simp only [Array.size_append, List.size_toArray, size_zeroCells, List.length_replicate, Nat.mul_one] at h0 ⊢
      simp only [h0, List.length_singleton]
      omega
    · simp only [Array.toList_append, List.append_assoc]
      rw [← List.append_assoc, ← hlen]
      exact List.take_left
  rcases hown.2 with ⟨hv, h0⟩ | ⟨g, c', cur, hv, hbg, hg, hnc, hcm, hcs, htake⟩
  · cases hv
    have hx : xs = [] := List.eq_nil_of_length_eq_zero (by simpa using hown.1)
    subst hx
    by_cases hm : m = 0
    · subst hm
      refine ⟨none, 0, w, ?_, World.ownsRow_nil w base e 1, World.grownBy.refl _ _⟩
      simp [Builtin.append_, run_underlying h1, run_underlying hu, sizeOf, typeInfo, h2, Builtin.lenOf, asInt, asIntOf, h5, hwr0]
    · have hgr := grown 0 (by omega) (blk none)
      have h48' : ¬ (281474976710656 < Builtin.nextslicecap m 0 * 8) := by rw [nextslicecap_zero (by omega)]; omega
      have h63' : ¬ (9223372036854775807 < (m : Int)) := by omega
      refine ⟨_, _, _, ?_, hgr.1, hgr.2⟩
      simp [Builtin.append_, run_underlying h1, run_underlying hu, sizeOf, typeInfo, zeroValue, h2, h3, h4, h5, Builtin.lenOf, asInt, asIntOf, hwr, hm, hm0, hm8, h63', h48', Question.forced, run_firstCells_none, newRow, grownCap, zeroCells_one, Value.cells]
  · cases hv
    by_cases hroom : n + m ≤ cap
    · have hfit : n + (List.replicate m (Value.int .i64 0)).length ≤ cur.size := by rw [List.length_replicate]; omega
      have hst := run_storeCells_at P g n e (List.replicate m (Value.int .i64 0)) 0 cur w hg (by simpa using hfit) (by simp [Value.oneCell'])
      simp only [Nat.add_zero] at hst
      refine ⟨some ⟨g, 0, none⟩, cap, w.setRow g (cur.toList.take n ++ List.replicate m (Value.int .i64 0) ++ cur.toList.drop (n + (List.replicate m (Value.int .i64 0)).length)).toArray, ?_, ⟨hlen, .inr ⟨g, cap, _, rfl, hbg, setRow_heap w g cur _ e _ hg, hroom, hcm, ?_, ?_⟩⟩, ⟨rfl, rfl, rfl, by simp, fun k _ hk => setRow_other w g k _ (fun e => hk (by simp [blk, e]))⟩⟩
      · by_cases hm : m = 0
        · subst hm
          have hst0 : Sem.run P (storeCells { block := g, off := n } []) w = Result.ok () (w.setRow g cur) := by simpa using hst
          simp [Builtin.append_, run_underlying h1, run_underlying hu, sizeOf, typeInfo, zeroValue, h2, h3, h4, h5, Builtin.lenOf, asInt, asIntOf, hwr0, hnc, Addr.add_lit, hst0]
        · simp [Builtin.append_, run_underlying h1, run_underlying hu, sizeOf, typeInfo, zeroValue, h2, h3, h4, h5, Builtin.lenOf, asInt, asIntOf, hwr, hm, hm0, hm8, hroom, Addr.add_lit, zeroCells_one, Value.cells, hst]
      · simp only [List.size_toArray, List.length_append, List.length_take, List.length_drop, Array.length_toList, List.length_replicate]
        omega
      · have e1 : List.take n cur.toList = xs := by simpa using htake
        rw [e1, ← hlen]
        exact List.take_left
    · have holds : ∀ j u, xs[j]? = some u → w.cell? ((⟨g, 0, none⟩ : Addr).add j) = some u := hown.cells (g := g) rfl
      have hgr := grown cap (by omega) (blk (some ⟨g, 0, none⟩))
      have h63' : ¬ (9223372036854775807 < (n : Int) + (m : Int)) := by omega
      have h48' : ¬ (281474976710656 < Builtin.nextslicecap (n + m) cap * 8) := by have := growslice_fits (need := n + m) (old := cap) (bytes := 8) (by omega) (by omega); omega
      have hfo := run_firstCells_some (P := P) w.drew 1 n ⟨g, 0, none⟩ n cap xs hown.1 (by simpa using holds)
      refine ⟨_, _, _, ?_, hgr.1, hgr.2⟩
      by_cases hm : m = 0
      · omega
      · simp [Builtin.append_, run_underlying h1, run_underlying hu, sizeOf, typeInfo, zeroValue, h2, h3, h4, h5, Builtin.lenOf, asInt, asIntOf, hwr, hm, hm0, hm8, hroom, h63', h48', Question.forced, hfo, newRow, grownCap, zeroCells_one, Value.cells]

set_option maxRecDepth 20000 in
theorem wpList_append_zeros {P : Program} {ops : Array Oper} {o : Oper} {a : Act} {Q : Exit → Act → World → Prop} (w : World) {rest : List Oper} (hgd : o.guard = none) (s x : Operand) (t u : TypeId)
    (hop : o.op = .call { callee := .builtin .append, args := #[s, x], argTypes := #[t, u] })
    (base : Nat) (e : TypeId) (i : TypeInfo) (h1 : P.underlying t = some (.slice e)) (hu : P.underlying u = some (.int .i64)) (h2 : P.info? e = some i) (h3 : i.zero = some (.int .i64 0))
    (h4 : i.size = 1) (h5 : i.bytes = 8)
    (ao : Option Addr) (n cap : Nat) (xs : List Value) (hs : a.eval s = .slice ao n cap) (hown : w.ownsRow base e 1 (.slice ao n cap) n xs)
    (m : Nat) (hx : a.eval x = .int .i64 (m : Int)) (b1 : n + m ≤ 1099511627776) (hbase : base ≤ w.heap.size)
    (hK : ∀ ao' cap' w', w'.ownsRow base e 1 (.slice ao' (n + m) cap') (n + m) (xs ++ List.replicate m (.int .i64 0)) → w.grownBy w' (blk ao) → wpList P ops Q rest (a.put o.dst (.slice ao' (n + m) cap')) w') :
    wpList P ops Q (o :: rest) a w := by
  obtain ⟨ao', cap', w', hrun, r1, r2⟩ := run_append_zeros (P := P) w t u o.type base e i h1 hu h2 h3 h4 h5 ao n cap xs hown m b1 hbase
  refine wpList_plain hgd fun K hK' => ?_
  unfold Oper.wp
  simp [execOp, hop, resolve, invoke, builtin, hs, hx, hrun, Result.andThen]
  exact hK' _ _ (hK ao' cap' w' r1 r2)

set_option maxRecDepth 20000 in
theorem wpList_append_src {P : Program} {ops : Array Oper} {o : Oper} {a : Act} {Q : Exit → Act → World → Prop} (w : World) {rest : List Oper} (hgd : o.guard = none) (s x : Operand) (t : TypeId)
    (hop : o.op = .call { callee := .builtin .append, args := #[s, x], argTypes := #[t, t] })
    (base : Nat) (e : TypeId) (i : TypeInfo) (z : Value) (bytes : Nat) (h1 : P.underlying t = some (.slice e)) (h2 : P.info? e = some i) (h3 : i.zero = some z)
    (h4 : i.size = 1) (h5 : i.bytes = bytes) (h6 : z.cells.size = 1)
    (ao : Option Addr) (n cap : Nat) (xs : List Value) (hs : a.eval s = .slice ao n cap) (hown : w.ownsRow base e 1 (.slice ao n cap) n xs)
    (bo : Option Addr) (m c : Nat) (news : List Value) (hx : a.eval x = .slice bo m c) (hl : news.length = m) (hnone : bo = none → m = 0) (hc : ∀ ad, bo = some ad → ∀ j u, news[j]? = some u → w.cell? (ad.add j) = some u) (hu : ∀ u ∈ news, u.oneCell' = true)
    (b1 : n + m ≤ maxLen) (b2 : (n + m) * bytes ≤ 140737488355328) (hbase : base ≤ w.heap.size)
    (hK : ∀ ao' cap' w', w'.ownsRow base e 1 (.slice ao' (n + m) cap') (n + m) (xs ++ news) → w.grownBy w' (blk ao) → (blk ao' = blk ao ∨ ∀ g, blk ao' = some g → w.heap.size ≤ g) → wpList P ops Q rest (a.put o.dst (.slice ao' (n + m) cap')) w') :
    wpList P ops Q (o :: rest) a w := by
  cases bo with
  | some ad => exact wpList_append_list w hgd s x t hop base e i z bytes h1 h2 h3 h4 h5 h6 ao n cap xs hs hown (some ad) m c news hx hl (fun h => by cases h) hc hu b1 b2 hbase hK
  | none =>
    obtain rfl := hnone rfl
    obtain rfl : news = [] := List.eq_nil_of_length_eq_zero hl
    have hrun : (Builtin.append_ #[t, t] o.type #[.slice ao n cap, .slice none 0 c]).run P w = .ok (.slice ao n cap) w := by
      have h0 := run_append_owned_none (P := P) w base t o.type e i 1 h1 h2 (.slice ao n cap) n xs hown
      exact h0
    refine wpList_plain hgd fun K hK' => ?_
    unfold Oper.wp
    simp [execOp, hop, resolve, invoke, builtin, hs, hx, hrun, Result.andThen]
    have := hK ao cap w (by simpa using hown) (World.grownBy.refl _ _) (.inl rfl)
    exact hK' _ _ (by simpa using this)

set_option maxRecDepth 20000 in
theorem own_cut {w : World} {B m cap : Nat} {g : Nat} {xs : List Value} (h : w.ownsRow B 3 1 (.slice (some ⟨g, 0, none⟩) m cap) m xs) : w.ownsRow B 3 1 (.slice (some ⟨g, 0, none⟩) 0 cap) 0 [] := by
  rcases h.2 with ⟨hv, _⟩ | ⟨g', c', cur, hv, h1, h2, h3, h4, h5, h6⟩
  · cases hv
  · cases hv
    exact ⟨rfl, .inr ⟨g, cap, cur, rfl, h1, h2, Nat.zero_le _, h4, h5, by simp⟩⟩

end Go.Proofs.Ytkdpalmdcnpnoaa.Pcm
