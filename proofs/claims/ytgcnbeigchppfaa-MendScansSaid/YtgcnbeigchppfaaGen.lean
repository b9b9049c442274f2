/- What every seat wants: rows of the call's own, appends to them as steps of a walk, what of a world stands. No program in it; no condition but those that each lemma names. -/
import Derived.WalkKit
import Derived.OwnWalk
import Derived.ArgAppend
import Derived.Deep.AppendLies
import Derived.Laws.AppendOwnNone
import Derived.Deep.OwnRows
namespace Go.Proofs.Ytgcnbeigchppfaa.Gen

set_option maxRecDepth 100000 in
theorem hid {p : Prop} (h : p) : RowKit.Hid p := h
def blk (ao : Option Addr) : Option Nat := ao.map (·.block)
set_option maxRecDepth 100000 in
theorem ownBlock_slice (ao : Option Addr) (n cap : Nat) : (Value.slice ao n cap).ownBlock = blk ao := by cases ao <;> rfl

/-- What an append to the row at 'row', of n cells, leaves as it was; gg: the block in which the row lies behind it. -/
structure Kept (w w' : World) (row : Option Nat) (n gg : Nat) : Prop where
  grown : w.grownBy w' row
  pre : ∀ g j, row = some g → j < n → w'.cell? ⟨g, j, none⟩ = w.cell? ⟨g, j, none⟩
  at_ : row = some gg ∨ w.heap.size ≤ gg
  lt : gg < w'.heap.size

set_option maxRecDepth 100000 in
theorem ownsRow_at {w : World} {base : Nat} {e : TypeId} {ao : Option Addr} {n cap : Nat} {xs : List Value} (h : w.ownsRow base e 1 (.slice ao n cap) n xs) :
    (ao = none ∧ n = 0 ∧ cap = 0 ∧ xs = []) ∨ ∃ g, ao = some ⟨g, 0, none⟩ := by
  obtain ⟨hl, h⟩ := h
  rcases h with ⟨hv, rfl⟩ | ⟨g, c, cur, hv, _⟩
  · cases hv; exact .inl ⟨rfl, rfl, rfl, List.eq_nil_of_length_eq_zero (by simpa using hl)⟩
  · cases hv; exact .inr ⟨g, rfl⟩

set_option maxRecDepth 100000 in
theorem ownsRow_cell {w : World} {base : Nat} {e : TypeId} {g n cap : Nat} {xs : List Value} (h : w.ownsRow base e 1 (.slice (some ⟨g, 0, none⟩) n cap) n xs) (j : Nat) (u : Value) (hj : xs[j]? = some u) :
    w.cell? ⟨g, j, none⟩ = some u := by
  have := h.cells (g := g) rfl j u hj
  simpa [Addr.add_lit] using this

section
variable {P : Program} {ops : Array Oper} {o : Oper} {a : Act} {K : Act → World → Prop} {Q : Exit → Act → World → Prop}

set_option maxRecDepth 100000 in
theorem news_one {w : World} {ad : Addr} {u : Value} (hc : w.cell? ad = some u) : ∀ j v, [u][j]? = some v → w.cell? (ad.add j) = some v := by
  intro j v hj
  match j, hj with
  | 0, hj => simp at hj; subst hj; rw [show ad.add 0 = ad from by unfold Addr.add; split <;> simp_all]; exact hc

set_option maxRecDepth 100000 in
theorem kept_grows {w w' : World} {base : Nat} {e : TypeId} {ao : Option Addr} {n cap : Nat} {xs : List Value} {u v' : Value} (hown : w.ownsRow base e 1 (.slice ao n cap) n xs) (hbase : base ≤ w.heap.size)
    (ho : w'.ownsRow w.heap.size e 1 v' (n + 1) (xs ++ [u])) (hg : w.grownBy w' none) :
    ∃ gg cap', v' = .slice (some ⟨gg, 0, none⟩) (n + 1) cap' ∧ w'.ownsRow base e 1 v' (n + 1) (xs ++ [u]) ∧ Kept w w' (blk ao) n gg := by
  obtain ⟨hl, ho2⟩ := ho
  rcases ho2 with ⟨_, h⟩ | ⟨g, c', cur, rfl, q1, q2, q3, q4, q5, q6⟩
  · omega
  · refine ⟨g, c', rfl, ⟨hl, .inr ⟨g, c', cur, rfl, Nat.le_trans hbase q1, q2, q3, q4, q5, q6⟩⟩, ⟨hg.os, hg.tape, hg.output, hg.size, fun k hk _ => hg.block k hk (by simp)⟩, ?_, .inr q1, (Array.getElem?_eq_some_iff.1 q2).1⟩
    intro g' j hrow hj
    have hg' : g' < w.heap.size := (hown.lt g' (by rw [ownBlock_slice]; exact hrow)).2
    exact World.cell?_of_block (hg.block g' hg' (by simp))

set_option maxRecDepth 100000 in
theorem run_append_one (w : World) (t ty : TypeId)
    (base : Nat) (e : TypeId) (i : TypeInfo) (z : Value) (bytes : Nat) (h1 : P.underlying t = some (.slice e)) (h2 : P.info? e = some i) (h3 : i.zero = some z)
    (h4 : i.size = 1) (h5 : i.bytes = bytes) (h6 : z.cells.size = 1)
    (ao : Option Addr) (n cap : Nat) (xs : List Value) (hown : w.ownsRow base e 1 (.slice ao n cap) n xs)
    (ad : Addr) (c : Nat) (u : Value) (hc : w.cell? ad = some u) (hu : u.oneCell' = true)
    (b1 : n + 1 ≤ maxLen) (b2 : (n + 1) * bytes ≤ 140737488355328) (hbase : base ≤ w.heap.size) :
    ∃ gg cap' w', (Builtin.append_ #[t, t] ty #[.slice ao n cap, .slice (some ad) 1 c]).run P w = .ok (.slice (some ⟨gg, 0, none⟩) (n + 1) cap') w' ∧
      w'.ownsRow base e 1 (.slice (some ⟨gg, 0, none⟩) (n + 1) cap') (n + 1) (xs ++ [u]) ∧ Kept w w' (blk ao) n gg := by
  have hnews := news_one hc
  have h1c : ∀ v ∈ [u], v.oneCell' = true := by intro v hv; simp at hv; subst hv; exact hu
  rcases ownsRow_at hown with ⟨rfl, rfl, rfl, rfl⟩ | ⟨g, rfl⟩
  · obtain ⟨v', w', hrun, r1, r2, _⟩ := run_append_own (P := P) w w.heap.size t ty e i z 1 bytes h1 h2 h3 h4 h5 h6 (by decide) (.slice none 0 0) 0 [] (World.ownsRow_nil w _ e 1) ad 1 c [u] rfl hnews h1c b1 b2 (Nat.le_refl _)
    obtain ⟨gg, cap', rfl, q1, q2⟩ := kept_grows hown hbase r1 r2
    exact ⟨gg, cap', w', hrun, q1, q2⟩
  · by_cases hr : n + 1 ≤ cap
    · obtain ⟨w', hrun, r1, r2⟩ := run_append_fits (P := P) w base t ty e i 1 h1 h2 h4 g n cap xs hown ad 1 c [u] rfl hnews h1c hr
      refine ⟨g, cap, w', hrun, r1, r2, ?_, .inl rfl, ?_⟩
      · intro g' j hrow hj
        simp only [blk, Option.map_some, Option.some.injEq] at hrow
        subst hrow
        have hl : xs.length = n * 1 := hown.1
        have hx : xs[j]? = some (xs[j]'(by omega)) := List.getElem?_eq_getElem _
        rw [ownsRow_cell hown j _ hx, ownsRow_cell r1 j _ (by rw [List.getElem?_append_left (by omega)]; exact hx)]
      · exact (r1.lt g rfl).2
    · obtain ⟨v', w', hrun, r1, r2⟩ := run_append_arg_grows (P := P) w t ty e i z 1 bytes h1 h2 h3 h4 h5 h6 (by decide) ⟨g, 0, none⟩ n cap xs hown.1 (fun j u hj => by rw [Addr.add_lit, Nat.zero_add]; exact ownsRow_cell hown j u hj) ad 1 c [u] rfl hnews (by omega) b1 b2
      obtain ⟨gg, cap', rfl, q1, q2⟩ := kept_grows hown hbase r1 r2
      exact ⟨gg, cap', w', hrun, q1, q2⟩

set_option maxRecDepth 100000 in
theorem wp_append_one (w : World) (s x : Operand) (t : TypeId)
    (hop : o.op = .call { callee := .builtin .append, args := #[s, x], argTypes := #[t, t] })
    (base : Nat) (e : TypeId) (i : TypeInfo) (z : Value) (bytes : Nat) (h1 : P.underlying t = some (.slice e)) (h2 : P.info? e = some i) (h3 : i.zero = some z)
    (h4 : i.size = 1) (h5 : i.bytes = bytes) (h6 : z.cells.size = 1)
    (ao : Option Addr) (n cap : Nat) (xs : List Value) (hs : a.eval s = .slice ao n cap) (hown : w.ownsRow base e 1 (.slice ao n cap) n xs)
    (ad : Addr) (c : Nat) (u : Value) (hx : a.eval x = .slice (some ad) 1 c) (hc : w.cell? ad = some u) (hu : u.oneCell' = true)
    (b1 : n + 1 ≤ maxLen) (b2 : (n + 1) * bytes ≤ 140737488355328) (hbase : base ≤ w.heap.size)
    (hK : ∀ gg cap' w', w'.ownsRow base e 1 (.slice (some ⟨gg, 0, none⟩) (n + 1) cap') (n + 1) (xs ++ [u]) → Kept w w' (blk ao) n gg → K (a.put o.dst (.slice (some ⟨gg, 0, none⟩) (n + 1) cap')) w') :
    Oper.wp P o a w K Q := by
  obtain ⟨gg, cap', w', hrun, r1, r2⟩ := run_append_one (P := P) w t o.type base e i z bytes h1 h2 h3 h4 h5 h6 ao n cap xs hown ad c u hc hu b1 b2 hbase
  unfold Oper.wp
  simp [execOp, hop, resolve, invoke, builtin, hs, hx, hrun, Result.andThen]
  exact hK gg cap' w' r1 r2

set_option maxRecDepth 100000 in
theorem step_append_one {w : World} {E : Prop} (hgd : o.guard = none) (s x : Operand) (t : TypeId)
    (hop : o.op = .call { callee := .builtin .append, args := #[s, x], argTypes := #[t, t] })
    (base : Nat) (e : TypeId) (i : TypeInfo) (z : Value) (bytes : Nat) (h1 : P.underlying t = some (.slice e)) (h2 : P.info? e = some i) (h3 : i.zero = some z)
    (h4 : i.size = 1) (h5 : i.bytes = bytes) (h6 : z.cells.size = 1)
    (ao : Option Addr) (n cap : Nat) (xs : List Value) (hs : a.eval s = .slice ao n cap) (hown : w.ownsRow base e 1 (.slice ao n cap) n xs)
    (ad : Addr) (c : Nat) (u : Value) (hx : a.eval x = .slice (some ad) 1 c) (hc : w.cell? ad = some u) (hu : u.oneCell' = true)
    (b1 : n + 1 ≤ maxLen) (b2 : (n + 1) * bytes ≤ 140737488355328) (hbase : base ≤ w.heap.size)
    (hK : ∀ gg cap' w', w'.ownsRow base e 1 (.slice (some ⟨gg, 0, none⟩) (n + 1) cap') (n + 1) (xs ++ [u]) → Kept w w' (blk ao) n gg → K (a.put o.dst (.slice (some ⟨gg, 0, none⟩) (n + 1) cap')) w') :
    if Region.wanted o (yielded ops a.tmps) = true then Oper.wp P o a w K Q else E := by
  have hw : Region.wanted o (yielded ops a.tmps) = true := by simp [Region.wanted, hgd]
  rw [if_pos hw]
  exact wp_append_one w s x t hop base e i z bytes h1 h2 h3 h4 h5 h6 ao n cap xs hs hown ad c u hx hc hu b1 b2 hbase hK

set_option maxRecDepth 100000 in
theorem wpList_append_one {w : World} {rest : List Oper} (hgd : o.guard = none) (s x : Operand) (t : TypeId)
    (hop : o.op = .call { callee := .builtin .append, args := #[s, x], argTypes := #[t, t] })
    (base : Nat) (e : TypeId) (i : TypeInfo) (z : Value) (bytes : Nat) (h1 : P.underlying t = some (.slice e)) (h2 : P.info? e = some i) (h3 : i.zero = some z)
    (h4 : i.size = 1) (h5 : i.bytes = bytes) (h6 : z.cells.size = 1)
    (ao : Option Addr) (n cap : Nat) (xs : List Value) (hs : a.eval s = .slice ao n cap) (hown : w.ownsRow base e 1 (.slice ao n cap) n xs)
    (ad : Addr) (c : Nat) (u : Value) (hx : a.eval x = .slice (some ad) 1 c) (hc : w.cell? ad = some u) (hu : u.oneCell' = true)
    (b1 : n + 1 ≤ maxLen) (b2 : (n + 1) * bytes ≤ 140737488355328) (hbase : base ≤ w.heap.size)
    (hK : ∀ gg cap' w', w'.ownsRow base e 1 (.slice (some ⟨gg, 0, none⟩) (n + 1) cap') (n + 1) (xs ++ [u]) → Kept w w' (blk ao) n gg → wpList P ops Q rest (a.put o.dst (.slice (some ⟨gg, 0, none⟩) (n + 1) cap')) w') :
    wpList P ops Q (o :: rest) a w :=
  wpList_plain hgd fun _ hK' => wp_append_one w s x t hop base e i z bytes h1 h2 h3 h4 h5 h6 ao n cap xs hs hown ad c u hx hc hu b1 b2 hbase fun gg cap' w' r1 r2 => hK' _ _ (hK gg cap' w' r1 r2)
end

/-- What of w stands in w': all blocks of w but those of X. -/
structure Fr (X : Nat → Prop) (w w' : World) : Prop where
  os : w'.os = w.os
  tape : w'.tape = w.tape
  output : w'.output = w.output
  size : w.heap.size ≤ w'.heap.size
  block : ∀ k, k < w.heap.size → ¬ X k → w'.heap[k]? = w.heap[k]?

set_option maxRecDepth 100000 in
theorem Fr.refl (X : Nat → Prop) (w : World) : Fr X w w := ⟨rfl, rfl, rfl, Nat.le_refl _, fun _ _ _ => rfl⟩
set_option maxRecDepth 100000 in
theorem Fr.trans {X : Nat → Prop} {a b c : World} (h : Fr X a b) (k : Fr X b c) : Fr X a c :=
  ⟨k.os.trans h.os, k.tape.trans h.tape, k.output.trans h.output, Nat.le_trans h.size k.size, fun i hi hx => (k.block i (Nat.lt_of_lt_of_le hi h.size) hx).trans (h.block i hi hx)⟩
set_option maxRecDepth 100000 in
theorem Fr.drew {X : Nat → Prop} {a w : World} (h : Fr X a w) : Fr X a w.drew := ⟨h.os, h.tape, h.output, h.size, h.block⟩
set_option maxRecDepth 100000 in
theorem Fr.mono {X Y : Nat → Prop} {a b : World} (h : Fr X a b) (hxy : ∀ k, k < a.heap.size → X k → Y k) : Fr Y a b := ⟨h.os, h.tape, h.output, h.size, fun k hk hy => h.block k hk fun hx => hy (hxy k hk hx)⟩
set_option maxRecDepth 100000 in
theorem Fr.alloc {X : Nat → Prop} {a w : World} (h : Fr X a w) (o : Obj) : Fr X a (w.alloc o) :=
  h.trans ⟨rfl, rfl, rfl, by simp, fun k hk _ => RowKit.Below.heap_alloc _ _ _ hk⟩
set_option maxRecDepth 100000 in
theorem Fr.setCell {X : Nat → Prop} {a w : World} (h : Fr X a w) {p : Addr} (hp : X p.block) (u : Value) : Fr X a (w.setCell p u) :=
  h.trans ⟨rfl, rfl, rfl, by simp [World.setCell], fun k _ hx => RowKit.Below.heap_setCell _ _ _ _ (fun e => hx (e ▸ hp))⟩
set_option maxRecDepth 100000 in
theorem Fr.cell {X : Nat → Prop} {a w : World} (h : Fr X a w) {p : Addr} (hp : p.block < a.heap.size) (hx : ¬ X p.block) : w.cell? p = a.cell? p := World.cell?_of_block (h.block p.block hp hx)
set_option maxRecDepth 100000 in
theorem Fr.frozen {X : Nat → Prop} {a w : World} (h : Fr X a w) {p : Addr} (hp : p.block < a.heap.size) (hx : ¬ X p.block) : w.frozen? p = a.frozen? p := World.frozen?_of_block (h.block p.block hp hx)
set_option maxRecDepth 100000 in
theorem Fr.grown {X : Nat → Prop} {a w w' : World} {row : Option Nat} (h : Fr X a w) (hg : w.grownBy w' row) (hr : ∀ k, row = some k → k < a.heap.size → X k) : Fr X a w' :=
  ⟨hg.os.trans h.os, hg.tape.trans h.tape, hg.output.trans h.output, Nat.le_trans h.size hg.size,
    fun k hk hx => (hg.block k (Nat.lt_of_lt_of_le hk h.size) (fun e => hx (hr k e.symm hk))).trans (h.block k hk hx)⟩

set_option maxRecDepth 100000 in
theorem ownsRow_block {w w' : World} {base : Nat} {e : TypeId} {size : Nat} {ao : Option Addr} {n cap : Nat} {xs : List Value} (h : w.ownsRow base e size (.slice ao n cap) n xs)
    (hb : ∀ g, blk ao = some g → w'.heap[g]? = w.heap[g]?) : w'.ownsRow base e size (.slice ao n cap) n xs := by
  obtain ⟨hl, h⟩ := h
  rcases h with h | ⟨g, c, cur, hv, q1, q2, q3⟩
  · exact ⟨hl, .inl h⟩
  · refine ⟨hl, .inr ⟨g, c, cur, hv, q1, ?_, q3⟩⟩
    cases hv
    rw [hb g rfl]; exact q2

set_option maxRecDepth 100000 in
/-- append(dst, src...) where dst is the call's own and src whatever slice of one-cell elements. -/
theorem wpList_append_list {P : Program} {ops : Array Oper} {o : Oper} {a : Act} {Q : Exit → Act → World → Prop} (w : World) {rest : List Oper} (hgd : o.guard = none) (s x : Operand) (t : TypeId)
    (hop : o.op = .call { callee := .builtin .append, args := #[s, x], argTypes := #[t, t] })
    (base : Nat) (e : TypeId) (i : TypeInfo) (z : Value) (bytes : Nat) (h1 : P.underlying t = some (.slice e)) (h2 : P.info? e = some i) (h3 : i.zero = some z)
    (h4 : i.size = 1) (h5 : i.bytes = bytes) (h6 : z.cells.size = 1)
    (ao : Option Addr) (n cap : Nat) (xs : List Value) (hs : a.eval s = .slice ao n cap) (hown : w.ownsRow base e 1 (.slice ao n cap) n xs)
    (bo : Option Addr) (m c : Nat) (news : List Value) (hx : a.eval x = .slice bo m c) (hl : news.length = m) (hnone : bo = none → m = 0 ∧ c = 0) (hc : ∀ ad, bo = some ad → ∀ j u, news[j]? = some u → w.cell? (ad.add j) = some u) (hu : ∀ u ∈ news, u.oneCell' = true)
    (b1 : n + m ≤ maxLen) (b2 : (n + m) * bytes ≤ 140737488355328) (hbase : base ≤ w.heap.size)
    (hK : ∀ ao' cap' w', w'.ownsRow base e 1 (.slice ao' (n + m) cap') (n + m) (xs ++ news) → w.grownBy w' (blk ao) → (blk ao' = blk ao ∨ ∀ g, blk ao' = some g → w.heap.size ≤ g) → wpList P ops Q rest (a.put o.dst (.slice ao' (n + m) cap')) w') :
    wpList P ops Q (o :: rest) a w := by
  cases bo with
  | none =>
    obtain ⟨rfl, rfl⟩ := hnone rfl
    obtain rfl : news = [] := List.eq_nil_of_length_eq_zero hl
    refine wpList_append_own_none hgd s x t hop base e i 1 h1 h2 (.slice ao n cap) n xs hs hown hx ?_
    have := hK ao cap w (by simpa using hown) (World.grownBy.refl _ _) (.inl rfl)
    simpa using this
  | some ad =>
    by_cases hm : m = 0
    · subst hm
      obtain rfl : news = [] := List.eq_nil_of_length_eq_zero hl
      rcases ownsRow_at hown with ⟨rfl, rfl, rfl, rfl⟩ | ⟨g, rfl⟩
      · refine wpList_plain hgd fun K hK' => ?_
        obtain ⟨v', w', hrun, r1, r2, r3⟩ := run_append_own (P := P) w base t o.type e i z 1 bytes h1 h2 h3 h4 h5 h6 (by decide) (.slice none 0 0) 0 [] (World.ownsRow_nil w _ e 1) ad 0 c [] rfl (by simp) (by simp) b1 b2 hbase
        obtain rfl : v' = .slice none 0 0 := r3.2 ⟨rfl, rfl⟩
        unfold Oper.wp
        simp [execOp, hop, resolve, invoke, builtin, hs, hx, hrun, Result.andThen]
        exact hK' _ _ (hK none 0 w' r1 r2 (.inl rfl))
      · have hnc : n ≤ cap := by
          obtain ⟨_, ho⟩ := hown
          rcases ho with ⟨hv, _⟩ | ⟨_, _, _, hv, _, _, h, _⟩
          · cases hv
          · cases hv; exact h
        exact wpList_append_fits w hgd s x t hop base e i 1 h1 h2 h4 g n cap xs hs hown ad 0 c [] hx rfl (by simp) (by simp) (by omega) fun w' r1 r2 => hK _ _ _ r1 r2 (.inl rfl)
    · refine wpList_append_lies w hgd s x t hop base e i z 1 bytes h1 h2 h3 h4 h5 h6 (by decide) (.slice ao n cap) n xs hs hown ad m c news hx (by omega) (hc ad rfl) hu (by omega) b1 b2 hbase w.heap.size rfl fun g cap' w' r1 r2 r3 _ => ?_
      rw [ownBlock_slice] at r2 r3
      refine hK _ _ _ r1 r2 ?_
      rcases r3 with r3 | rfl
      · exact .inl (by rw [r3]; rfl)
      · exact .inr fun g' hg' => by simp [blk] at hg'; omega

end Go.Proofs.Ytgcnbeigchppfaa.Gen
