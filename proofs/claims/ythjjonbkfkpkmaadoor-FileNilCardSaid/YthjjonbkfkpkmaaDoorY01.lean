/- What every seat wants: rows of the call's own, appends to them as steps of a walk, what of a world stands. No program in it; no condition but those that each lemma names. -/
import Derived.WalkKit
import Derived.OwnWalk
import Derived.ArgAppend
import Derived.Deep.AppendLies
import Derived.Laws.AppendOwnNone
import Derived.Deep.OwnRows
import Derived.Test.YthjjonbkfkpkmaaDoorProg
import Derived.Laws.OwnMore
import Derived.Laws.BytesArg
import Derived.Lib.ConvBytes
import Derived.WalkSpells
namespace Go.Proofs.YthjjonbkfkpkmaaDoor.Gen

set_option maxRecDepth 100000 in
theorem hid {p : Prop} (h : p) : RowKit.Hid p := h
def blk (ao : Option Addr) : Option Nat := ao.map (·.block)
set_option maxRecDepth 100000 in
theorem ownBlock_slice (ao : Option Addr) (n cap : Nat) : (Value.slice ao n cap).ownBlock = blk ao := by cases ao <;> rfl

/-- What an append to the row at 'row', of n cells, leaves as it was; gg: the block in which the row lies behind it. -/
structure Kept (w w' : World) (row : Option Nat) (n gg : Nat) : Prop where
  grown : w.grownBy w' row
  pre : ∀ g j, row = some g → j < n → w'.cell? ⟨g, j, none⟩ = w.cell? ⟨g, j, none⟩
  at_ : row = some gg ∨ w.heap.size ≤ gg
  lt : gg < w'.heap.size

set_option maxRecDepth 100000 in
theorem ownsRow_at {w : World} {base : Nat} {e : TypeId} {ao : Option Addr} {n cap : Nat} {xs : List Value} (h : w.ownsRow base e 1 (.slice ao n cap) n xs) :
    (ao = none ∧ n = 0 ∧ cap = 0 ∧ xs = []) ∨ ∃ g, ao = some ⟨g, 0, none⟩ := by
  obtain ⟨hl, h⟩ := h
  rcases h with ⟨hv, rfl⟩ | ⟨g, c, cur, hv, _⟩
  · cases hv; exact .inl ⟨rfl, rfl, rfl, List.eq_nil_of_length_eq_zero (by simpa using hl)⟩
  · cases hv; exact .inr ⟨g, rfl⟩

set_option maxRecDepth 100000 in
theorem ownsRow_cell {w : World} {base : Nat} {e : TypeId} {g n cap : Nat} {xs : List Value} (h : w.ownsRow base e 1 (.slice (some ⟨g, 0, none⟩) n cap) n xs) (j : Nat) (u : Value) (hj : xs[j]? = some u) :
    w.cell? ⟨g, j, none⟩ = some u := by
  have := h.cells (g := g) rfl j u hj
  simpa [Addr.add_lit] using this

section
variable {P : Program} {ops : Array Oper} {o : Oper} {a : Act} {K : Act → World → Prop} {Q : Exit → Act → World → Prop}

set_option maxRecDepth 100000 in
theorem news_one {w : World} {ad : Addr} {u : Value} (hc : w.cell? ad = some u) : ∀ j v, [u][j]? = some v → w.cell? (ad.add j) = some v := by
  intro j v hj
  match j, hj with
  | 0, hj => simp at hj; subst hj; rw [show ad.add 0 = ad from by unfold Addr.add; split <;> simp_all]; exact hc

set_option maxRecDepth 100000 in
theorem kept_grows {w w' : World} {base : Nat} {e : TypeId} {ao : Option Addr} {n cap : Nat} {xs : List Value} {u v' : Value} (hown : w.ownsRow base e 1 (.slice ao n cap) n xs) (hbase : base ≤ w.heap.size)
    (ho : w'.ownsRow w.heap.size e 1 v' (n + 1) (xs ++ [u])) (hg : w.grownBy w' none) :
    ∃ gg cap', v' = .slice (some ⟨gg, 0, none⟩) (n + 1) cap' ∧ w'.ownsRow base e 1 v' (n + 1) (xs ++ [u]) ∧ Kept w w' (blk ao) n gg := by
  obtain ⟨hl, ho2⟩ := ho
  rcases ho2 with ⟨_, h⟩ | ⟨g, c', cur, rfl, q1, q2, q3, q4, q5, q6⟩
  · omega
  · refine ⟨g, c', rfl, ⟨hl, .inr ⟨g, c', cur, rfl, Nat.le_trans hbase q1, q2, q3, q4, q5, q6⟩⟩, ⟨hg.os, hg.tape, hg.output, hg.size, fun k hk _ => hg.block k hk (by simp)⟩, ?_, .inr q1, (Array.getElem?_eq_some_iff.1 q2).1⟩
    intro g' j hrow hj
    have hg' : g' < w.heap.size := (hown.lt g' (by rw [ownBlock_slice]; exact hrow)).2
    exact World.cell?_of_block (hg.block g' hg' (by simp))

set_option maxRecDepth 100000 in
theorem run_append_one (w : World) (t ty : TypeId)
    (base : Nat) (e : TypeId) (i : TypeInfo) (z : Value) (bytes : Nat) (h1 : P.underlying t = some (.slice e)) (h2 : P.info? e = some i) (h3 : i.zero = some z)
    (h4 : i.size = 1) (h5 : i.bytes = bytes) (h6 : z.cells.size = 1)
    (ao : Option Addr) (n cap : Nat) (xs : List Value) (hown : w.ownsRow base e 1 (.slice ao n cap) n xs)
    (ad : Addr) (c : Nat) (u : Value) (hc : w.cell? ad = some u) (hu : u.oneCell' = true)
    (b1 : n + 1 ≤ maxLen) (b2 : (n + 1) * bytes ≤ 140737488355328) (hbase : base ≤ w.heap.size) :
    ∃ gg cap' w', (Builtin.append_ #[t, t] ty #[.slice ao n cap, .slice (some ad) 1 c]).run P w = .ok (.slice (some ⟨gg, 0, none⟩) (n + 1) cap') w' ∧
      w'.ownsRow base e 1 (.slice (some ⟨gg, 0, none⟩) (n + 1) cap') (n + 1) (xs ++ [u]) ∧ Kept w w' (blk ao) n gg := by
  have hnews := news_one hc
  have h1c : ∀ v ∈ [u], v.oneCell' = true := by intro v hv; simp at hv; subst hv; exact hu
  rcases ownsRow_at hown with ⟨rfl, rfl, rfl, rfl⟩ | ⟨g, rfl⟩
  · obtain ⟨v', w', hrun, r1, r2, _⟩ := run_append_own (P := P) w w.heap.size t ty e i z 1 bytes h1 h2 h3 h4 h5 h6 (by decide) (.slice none 0 0) 0 [] (World.ownsRow_nil w _ e 1) ad 1 c [u] rfl hnews h1c b1 b2 (Nat.le_refl _)
    obtain ⟨gg, cap', rfl, q1, q2⟩ := kept_grows hown hbase r1 r2
    exact ⟨gg, cap', w', hrun, q1, q2⟩
  · by_cases hr : n + 1 ≤ cap
    · obtain ⟨w', hrun, r1, r2⟩ := run_append_fits (P := P) w base t ty e i 1 h1 h2 h4 g n cap xs hown ad 1 c [u] rfl hnews h1c hr
      refine ⟨g, cap, w', hrun, r1, r2, ?_, .inl rfl, ?_⟩
      · intro g' j hrow hj
        simp only [blk, Option.map_some, Option.some.injEq] at hrow
        subst hrow
        have hl : xs.length = n * 1 := hown.1
        have hx : xs[j]? = some (xs[j]'(by omega)) := List.getElem?_eq_getElem _
        rw [ownsRow_cell hown j _ hx, ownsRow_cell r1 j _ (by rw [List.getElem?_append_left (by omega)]; exact hx)]
      · exact (r1.lt g rfl).2
    · obtain ⟨v', w', hrun, r1, r2⟩ := run_append_arg_grows (P := P) w t ty e i z 1 bytes h1 h2 h3 h4 h5 h6 (by decide) ⟨g, 0, none⟩ n cap xs hown.1 (fun j u hj => by rw [Addr.add_lit, Nat.zero_add]; exact ownsRow_cell hown j u hj) ad 1 c [u] rfl hnews (by omega) b1 b2
      obtain ⟨gg, cap', rfl, q1, q2⟩ := kept_grows hown hbase r1 r2
      exact ⟨gg, cap', w', hrun, q1, q2⟩

set_option maxRecDepth 100000 in
theorem wp_append_one (w : World) (s x : Operand) (t : TypeId)
    (hop : o.op = .call { callee := .builtin .append, args := #[s, x], argTypes := #[t, t] })
    (base : Nat) (e : TypeId) (i : TypeInfo) (z : Value) (bytes : Nat) (h1 : P.underlying t = some (.slice e)) (h2 : P.info? e = some i) (h3 : i.zero = some z)
    (h4 : i.size = 1) (h5 : i.bytes = bytes) (h6 : z.cells.size = 1)
    (ao : Option Addr) (n cap : Nat) (xs : List Value) (hs : a.eval s = .slice ao n cap) (hown : w.ownsRow base e 1 (.slice ao n cap) n xs)
    (ad : Addr) (c : Nat) (u : Value) (hx : a.eval x = .slice (some ad) 1 c) (hc : w.cell? ad = some u) (hu : u.oneCell' = true)
    (b1 : n + 1 ≤ maxLen) (b2 : (n + 1) * bytes ≤ 140737488355328) (hbase : base ≤ w.heap.size)
    (hK : ∀ gg cap' w', w'.ownsRow base e 1 (.slice (some ⟨gg, 0, none⟩) (n + 1) cap') (n + 1) (xs ++ [u]) → Kept w w' (blk ao) n gg → K (a.put o.dst (.slice (some ⟨gg, 0, none⟩) (n + 1) cap')) w') :
    Oper.wp P o a w K Q := by
  obtain ⟨gg, cap', w', hrun, r1, r2⟩ := run_append_one (P := P) w t o.type base e i z bytes h1 h2 h3 h4 h5 h6 ao n cap xs hown ad c u hc hu b1 b2 hbase
  unfold Oper.wp
  simp [execOp, hop, resolve, invoke, builtin, hs, hx, hrun, Result.andThen]
  exact hK gg cap' w' r1 r2

set_option maxRecDepth 100000 in
theorem step_append_one {w : World} {E : Prop} (hgd : o.guard = none) (s x : Operand) (t : TypeId)
    (hop : o.op = .call { callee := .builtin .append, args := #[s, x], argTypes := #[t, t] })
    (base : Nat) (e : TypeId) (i : TypeInfo) (z : Value) (bytes : Nat) (h1 : P.underlying t = some (.slice e)) (h2 : P.info? e = some i) (h3 : i.zero = some z)
    (h4 : i.size = 1) (h5 : i.bytes = bytes) (h6 : z.cells.size = 1)
    (ao : Option Addr) (n cap : Nat) (xs : List Value) (hs : a.eval s = .slice ao n cap) (hown : w.ownsRow base e 1 (.slice ao n cap) n xs)
    (ad : Addr) (c : Nat) (u : Value) (hx : a.eval x = .slice (some ad) 1 c) (hc : w.cell? ad = some u) (hu : u.oneCell' = true)
    (b1 : n + 1 ≤ maxLen) (b2 : (n + 1) * bytes ≤ 140737488355328) (hbase : base ≤ w.heap.size)
    (hK : ∀ gg cap' w', w'.ownsRow base e 1 (.slice (some ⟨gg, 0, none⟩) (n + 1) cap') (n + 1) (xs ++ [u]) → Kept w w' (blk ao) n gg → K (a.put o.dst (.slice (some ⟨gg, 0, none⟩) (n + 1) cap')) w') :
    if Region.wanted o (yielded ops a.tmps) = true then Oper.wp P o a w K Q else E := by
  have hw : Region.wanted o (yielded ops a.tmps) = true := by simp [Region.wanted, hgd]
  rw [if_pos hw]
  exact wp_append_one w s x t hop base e i z bytes h1 h2 h3 h4 h5 h6 ao n cap xs hs hown ad c u hx hc hu b1 b2 hbase hK

set_option maxRecDepth 100000 in
theorem wpList_append_one {w : World} {rest : List Oper} (hgd : o.guard = none) (s x : Operand) (t : TypeId)
    (hop : o.op = .call { callee := .builtin .append, args := #[s, x], argTypes := #[t, t] })
    (base : Nat) (e : TypeId) (i : TypeInfo) (z : Value) (bytes : Nat) (h1 : P.underlying t = some (.slice e)) (h2 : P.info? e = some i) (h3 : i.zero = some z)
    (h4 : i.size = 1) (h5 : i.bytes = bytes) (h6 : z.cells.size = 1)
    (ao : Option Addr) (n cap : Nat) (xs : List Value) (hs : a.eval s = .slice ao n cap) (hown : w.ownsRow base e 1 (.slice ao n cap) n xs)
    (ad : Addr) (c : Nat) (u : Value) (hx : a.eval x = .slice (some ad) 1 c) (hc : w.cell? ad = some u) (hu : u.oneCell' = true)
    (b1 : n + 1 ≤ maxLen) (b2 : (n + 1) * bytes ≤ 140737488355328) (hbase : base ≤ w.heap.size)
    (hK : ∀ gg cap' w', w'.ownsRow base e 1 (.slice (some ⟨gg, 0, none⟩) (n + 1) cap') (n + 1) (xs ++ [u]) → Kept w w' (blk ao) n gg → wpList P ops Q rest (a.put o.dst (.slice (some ⟨gg, 0, none⟩) (n + 1) cap')) w') :
    wpList P ops Q (o :: rest) a w :=
  wpList_plain hgd fun _ hK' => wp_append_one w s x t hop base e i z bytes h1 h2 h3 h4 h5 h6 ao n cap xs hs hown ad c u hx hc hu b1 b2 hbase fun gg cap' w' r1 r2 => hK' _ _ (hK gg cap' w' r1 r2)
end

/-- What of w stands in w': all blocks of w but those of X. -/
structure Fr (X : Nat → Prop) (w w' : World) : Prop where
  os : w'.os = w.os
  tape : w'.tape = w.tape
  output : w'.output = w.output
  size : w.heap.size ≤ w'.heap.size
  block : ∀ k, k < w.heap.size → ¬ X k → w'.heap[k]? = w.heap[k]?

set_option maxRecDepth 100000 in
theorem Fr.refl (X : Nat → Prop) (w : World) : Fr X w w := ⟨rfl, rfl, rfl, Nat.le_refl _, fun _ _ _ => rfl⟩
set_option maxRecDepth 100000 in
theorem Fr.trans {X : Nat → Prop} {a b c : World} (h : Fr X a b) (k : Fr X b c) : Fr X a c :=
  ⟨k.os.trans h.os, k.tape.trans h.tape, k.output.trans h.output, Nat.le_trans h.size k.size, fun i hi hx => (k.block i (Nat.lt_of_lt_of_le hi h.size) hx).trans (h.block i hi hx)⟩
set_option maxRecDepth 100000 in
theorem Fr.drew {X : Nat → Prop} {a w : World} (h : Fr X a w) : Fr X a w.drew := ⟨h.os, h.tape, h.output, h.size, h.block⟩
set_option maxRecDepth 100000 in
theorem Fr.mono {X Y : Nat → Prop} {a b : World} (h : Fr X a b) (hxy : ∀ k, k < a.heap.size → X k → Y k) : Fr Y a b := ⟨h.os, h.tape, h.output, h.size, fun k hk hy => h.block k hk fun hx => hy (hxy k hk hx)⟩
set_option maxRecDepth 100000 in
theorem Fr.alloc {X : Nat → Prop} {a w : World} (h : Fr X a w) (o : Obj) : Fr X a (w.alloc o) :=
  h.trans ⟨rfl, rfl, rfl, by simp, fun k hk _ => RowKit.Below.heap_alloc _ _ _ hk⟩
set_option maxRecDepth 100000 in
theorem Fr.setCell {X : Nat → Prop} {a w : World} (h : Fr X a w) {p : Addr} (hp : X p.block) (u : Value) : Fr X a (w.setCell p u) :=
  h.trans ⟨rfl, rfl, rfl, by simp [World.setCell], fun k _ hx => RowKit.Below.heap_setCell _ _ _ _ (fun e => hx (e ▸ hp))⟩
set_option maxRecDepth 100000 in
theorem Fr.cell {X : Nat → Prop} {a w : World} (h : Fr X a w) {p : Addr} (hp : p.block < a.heap.size) (hx : ¬ X p.block) : w.cell? p = a.cell? p := World.cell?_of_block (h.block p.block hp hx)
set_option maxRecDepth 100000 in
theorem Fr.frozen {X : Nat → Prop} {a w : World} (h : Fr X a w) {p : Addr} (hp : p.block < a.heap.size) (hx : ¬ X p.block) : w.frozen? p = a.frozen? p := World.frozen?_of_block (h.block p.block hp hx)
set_option maxRecDepth 100000 in
theorem Fr.grown {X : Nat → Prop} {a w w' : World} {row : Option Nat} (h : Fr X a w) (hg : w.grownBy w' row) (hr : ∀ k, row = some k → k < a.heap.size → X k) : Fr X a w' :=
  ⟨hg.os.trans h.os, hg.tape.trans h.tape, hg.output.trans h.output, Nat.le_trans h.size hg.size,
    fun k hk hx => (hg.block k (Nat.lt_of_lt_of_le hk h.size) (fun e => hx (hr k e.symm hk))).trans (h.block k hk hx)⟩

set_option maxRecDepth 100000 in
theorem ownsRow_block {w w' : World} {base : Nat} {e : TypeId} {size : Nat} {ao : Option Addr} {n cap : Nat} {xs : List Value} (h : w.ownsRow base e size (.slice ao n cap) n xs)
    (hb : ∀ g, blk ao = some g → w'.heap[g]? = w.heap[g]?) : w'.ownsRow base e size (.slice ao n cap) n xs := by
  obtain ⟨hl, h⟩ := h
  rcases h with h | ⟨g, c, cur, hv, q1, q2, q3⟩
  · exact ⟨hl, .inl h⟩
  · refine ⟨hl, .inr ⟨g, c, cur, hv, q1, ?_, q3⟩⟩
    cases hv
    rw [hb g rfl]; exact q2

set_option maxRecDepth 100000 in
/-- append(dst, src...) where dst is the call's own and src whatever slice of one-cell elements. -/
theorem wpList_append_list {P : Program} {ops : Array Oper} {o : Oper} {a : Act} {Q : Exit → Act → World → Prop} (w : World) {rest : List Oper} (hgd : o.guard = none) (s x : Operand) (t : TypeId)
    (hop : o.op = .call { callee := .builtin .append, args := #[s, x], argTypes := #[t, t] })
    (base : Nat) (e : TypeId) (i : TypeInfo) (z : Value) (bytes : Nat) (h1 : P.underlying t = some (.slice e)) (h2 : P.info? e = some i) (h3 : i.zero = some z)
    (h4 : i.size = 1) (h5 : i.bytes = bytes) (h6 : z.cells.size = 1)
    (ao : Option Addr) (n cap : Nat) (xs : List Value) (hs : a.eval s = .slice ao n cap) (hown : w.ownsRow base e 1 (.slice ao n cap) n xs)
    (bo : Option Addr) (m c : Nat) (news : List Value) (hx : a.eval x = .slice bo m c) (hl : news.length = m) (hnone : bo = none → m = 0 ∧ c = 0) (hc : ∀ ad, bo = some ad → ∀ j u, news[j]? = some u → w.cell? (ad.add j) = some u) (hu : ∀ u ∈ news, u.oneCell' = true)
    (b1 : n + m ≤ maxLen) (b2 : (n + m) * bytes ≤ 140737488355328) (hbase : base ≤ w.heap.size)
    (hK : ∀ ao' cap' w', w'.ownsRow base e 1 (.slice ao' (n + m) cap') (n + m) (xs ++ news) → w.grownBy w' (blk ao) → (blk ao' = blk ao ∨ ∀ g, blk ao' = some g → w.heap.size ≤ g) → wpList P ops Q rest (a.put o.dst (.slice ao' (n + m) cap')) w') :
    wpList P ops Q (o :: rest) a w := by
  cases bo with
  | none =>
    obtain ⟨rfl, rfl⟩ := hnone rfl
    obtain rfl : news = [] := List.eq_nil_of_length_eq_zero hl
    refine wpList_append_own_none hgd s x t hop base e i 1 h1 h2 (.slice ao n cap) n xs hs hown hx ?_
    have := hK ao cap w (by simpa using hown) (World.grownBy.refl _ _) (.inl rfl)
    simpa using this
  | some ad =>
    by_cases hm : m = 0
    · subst hm
      obtain rfl : news = [] := List.eq_nil_of_length_eq_zero hl
      rcases ownsRow_at hown with ⟨rfl, rfl, rfl, rfl⟩ | ⟨g, rfl⟩
      · refine wpList_plain hgd fun K hK' => ?_
        obtain ⟨v', w', hrun, r1, r2, r3⟩ := run_append_own (P := P) w base t o.type e i z 1 bytes h1 h2 h3 h4 h5 h6 (by decide) (.slice none 0 0) 0 [] (World.ownsRow_nil w _ e 1) ad 0 c [] rfl (by simp) (by simp) b1 b2 hbase
        obtain rfl : v' = .slice none 0 0 := r3.2 ⟨rfl, rfl⟩
        unfold Oper.wp
        simp [execOp, hop, resolve, invoke, builtin, hs, hx, hrun, Result.andThen]
        exact hK' _ _ (hK none 0 w' r1 r2 (.inl rfl))
      · have hnc : n ≤ cap := by
          obtain ⟨_, ho⟩ := hown
          rcases ho with ⟨hv, _⟩ | ⟨_, _, _, hv, _, _, h, _⟩
          · cases hv
          · cases hv; exact h
        exact wpList_append_fits w hgd s x t hop base e i 1 h1 h2 h4 g n cap xs hs hown ad 0 c [] hx rfl (by simp) (by simp) (by omega) fun w' r1 r2 => hK _ _ _ r1 r2 (.inl rfl)
    · refine wpList_append_lies w hgd s x t hop base e i z 1 bytes h1 h2 h3 h4 h5 h6 (by decide) (.slice ao n cap) n xs hs hown ad m c news hx (by omega) (hc ad rfl) hu (by omega) b1 b2 hbase w.heap.size rfl fun g cap' w' r1 r2 r3 _ => ?_
      rw [ownBlock_slice] at r2 r3
      refine hK _ _ _ r1 r2 ?_
      rcases r3 with r3 | rfl
      · exact .inl (by rw [r3]; rfl)
      · exact .inr fun g' hg' => by simp [blk] at hg'; omega

end Go.Proofs.YthjjonbkfkpkmaaDoor.Gen
namespace Go.Proofs.YthjjonbkfkpkmaaDoor.Gen
open Go.RowKit

set_option maxRecDepth 100000 in
theorem Tryd.info5 : (Tryd.prog.info? 5).map (fun i => (i.zero, i.size, i.bytes)) = some (some (.int .u8 0), 1, 1) := by kernel_rfl

/-- Bytes as values. -/
def bl (l : List Nat) : List Value := l.map fun (b : Nat) => .int .u8 (b : Int)
set_option maxRecDepth 100000 in
theorem bl_len (l : List Nat) : (bl l).length = l.length := by simp [bl]
set_option maxRecDepth 100000 in
theorem bl_app (l m : List Nat) : bl (l ++ m) = bl l ++ bl m := by simp [bl]
set_option maxRecDepth 100000 in
theorem bl_at (l : List Nat) (j : Nat) : (bl l)[j]? = (l[j]?).map fun (b : Nat) => .int .u8 (b : Int) := by simp [bl]
set_option maxRecDepth 100000 in
theorem bl_one (l : List Nat) : ∀ u ∈ bl l, u.oneCell' = true := by
  intro u hu
  obtain ⟨i, _, rfl⟩ := List.mem_map.1 hu
  rfl

/-- The bytes l lie behind the slice at a. -/
structure Byts (w : World) (a : Option Addr) (l : List Nat) : Prop where
  lt : ∀ b ∈ l, b < 256
  at_ : ∀ (j x : Nat), l[j]? = some x → ∃ b off, a = some ⟨b, off, none⟩ ∧ w.cell? ⟨b, off + j, none⟩ = some (.int .u8 (x : Int))
set_option maxRecDepth 100000 in
theorem Byts.keep {w w' : World} {a : Option Addr} {l : List Nat} (h : Byts w a l) (e : Below w.heap.size w w') : Byts w' a l :=
  ⟨h.lt, fun j x hj => by
    obtain ⟨b, off, ha, hc⟩ := h.at_ j x hj
    exact ⟨b, off, ha, (e.cell (p := ⟨b, off + j, none⟩) (World.block_lt_of_cell? w _ hc)).trans hc⟩⟩
set_option maxRecDepth 100000 in
theorem Byts.stay {w w' : World} {a : Option Addr} {l : List Nat} (h : Byts w a l) {X : Nat → Prop} (e : Fr X w w') (hx : ∀ b off, a = some ⟨b, off, none⟩ → ¬ X b) : Byts w' a l :=
  ⟨h.lt, fun j x hj => by
    obtain ⟨b, off, ha, hc⟩ := h.at_ j x hj
    exact ⟨b, off, ha, (e.cell (p := ⟨b, off + j, none⟩) (World.block_lt_of_cell? w _ hc) (hx b off ha)).trans hc⟩⟩
set_option maxRecDepth 100000 in
theorem Byts.nil (w : World) (a : Option Addr) : Byts w a [] := ⟨(fun _ h => by cases h), (fun _ _ h => by simp at h)⟩
set_option maxRecDepth 100000 in
theorem Byts.none_len {w : World} {a : Option Addr} {l : List Nat} (h : Byts w a l) (e : a = none) : l = [] := by
  cases l with
  | nil => rfl
  | cons x l =>
    obtain ⟨b, off, e', _⟩ := h.at_ 0 x rfl
    rw [e] at e'; cases e'
set_option maxRecDepth 100000 in
theorem Byts.take {w : World} {a : Option Addr} {l : List Nat} (h : Byts w a l) (n : Nat) : Byts w a (l.take n) :=
  ⟨fun b hb => h.lt b (List.mem_of_mem_take hb), fun j x hj => h.at_ j x (by
    rw [List.getElem?_take] at hj
    split at hj
    · exact hj
    · cases hj)⟩
set_option maxRecDepth 100000 in
theorem Byts.drop {w : World} {b off : Nat} {l : List Nat} (h : Byts w (some ⟨b, off, none⟩) l) (n : Nat) : Byts w (some ⟨b, off + n, none⟩) (l.drop n) :=
  ⟨fun b hb => h.lt b (List.mem_of_mem_drop hb), fun j x hj => by
    rw [List.getElem?_drop] at hj
    obtain ⟨b', off', e, hc⟩ := h.at_ _ x hj
    cases e
    exact ⟨b, off + n, rfl, by rw [Nat.add_assoc]; exact hc⟩⟩
set_option maxRecDepth 100000 in
theorem Byts.cells {w : World} {a : Option Addr} {l : List Nat} (h : Byts w a l) : ∀ ad, a = some ad → ∀ j u, (bl l)[j]? = some u → w.cell? (ad.add j) = some u := by
  rintro ad rfl j u hj
  rw [bl_at] at hj
  cases hx : l[j]? with
  | none => rw [hx] at hj; cases hj
  | some x =>
    rw [hx] at hj; cases hj
    obtain ⟨b, off, e, hc⟩ := h.at_ j x hx
    cases e
    rw [Addr.add_lit]; exact hc
set_option maxRecDepth 100000 in
theorem Byts.of_row {w : World} {base : Nat} {ao : Option Addr} {n cap : Nat} {l : List Nat} (hf : ∀ b ∈ l, b < 256) (h : w.ownsRow base 5 1 (.slice ao n cap) n (bl l)) : Byts w ao l := by
  refine ⟨hf, fun j x hj => ?_⟩
  rcases ownsRow_at h with ⟨_, _, _, h1⟩ | ⟨g, rfl⟩
  · have : l = [] := by simpa [bl] using h1
    subst this; simp at hj
  · exact ⟨g, 0, rfl, by rw [Nat.zero_add]; exact ownsRow_cell h j _ (by rw [bl_at, hj]; rfl)⟩

/-- A list of bytes as a text. -/
def tos (l : List Nat) : ByteArray := ⟨(l.map UInt8.ofNat).toArray⟩
/-- A text's bytes. -/
def sb (s : ByteArray) : List Nat := s.data.toList.map UInt8.toNat
set_option maxRecDepth 100000 in
theorem sb_lt (s : ByteArray) : ∀ b ∈ sb s, b < 256 := by
  intro b hb
  obtain ⟨x, _, rfl⟩ := List.mem_map.1 hb
  exact x.toNat_lt
set_option maxRecDepth 100000 in
theorem sb_len (s : ByteArray) : (sb s).length = s.size := by
  unfold sb
  rw [List.length_map, Array.length_toList]; rfl
set_option maxRecDepth 100000 in
theorem sb_tos (l : List Nat) (h : ∀ b ∈ l, b < 256) : sb (tos l) = l := by
  simp only [sb, tos, List.map_map]
  conv => rhs; rw [← List.map_id l]
  refine List.map_congr_left fun b hb => ?_
  have := h b hb
  show (UInt8.ofNat b).toNat = b
  simp; omega
set_option maxRecDepth 100000 in
theorem tos_sb (s : ByteArray) : tos (sb s) = s := by
  cases s with
  | mk d =>
    simp only [sb, tos, List.map_map]
    congr 1
    have : List.map (UInt8.ofNat ∘ UInt8.toNat) d.toList = d.toList := by
      conv => rhs; rw [← List.map_id d.toList]
      refine List.map_congr_left fun x _ => ?_
      simp
    rw [this]
set_option maxRecDepth 100000 in
theorem tos_eq {l m : List Nat} (hl : ∀ b ∈ l, b < 256) (hm : ∀ b ∈ m, b < 256) : (tos l = tos m) ↔ l = m :=
  ⟨fun h => by rw [← sb_tos l hl, ← sb_tos m hm, h], fun h => by rw [h]⟩
set_option maxRecDepth 100000 in
theorem tos_size (l : List Nat) : (tos l).size = l.length := by simp [tos, ByteArray.size]
set_option maxRecDepth 100000 in
theorem Byts.conv {w : World} {a : Option Addr} {l : List Nat} (h : Byts w a l) (cap : Nat) : (convert 28 9 (.slice a l.length cap)).run Tryd.prog w = .ok (.string (tos l)) w := by
  cases a with
  | none =>
    rw [h.none_len rfl, run_convert_bytes_nil (P := Tryd.prog) w 28 5 Tryd.underlying28 Tryd.underlying5 _ _ 9 Tryd.underlying9]
    rfl
  | some ad =>
    cases hl : l with
    | nil =>
      rw [run_convert_bytes_string w 28 9 5 _ _ cap Tryd.underlying28 Tryd.underlying5 Tryd.underlying9]
      have := run_bytesToString (P := Tryd.prog) w ad 0 cap [] (by simp [loadCells, loadCellsFrom])
      rw [show ([] : List Nat).length = 0 from rfl, this]
      rfl
    | cons x m =>
      obtain ⟨b, off, e, _⟩ := h.at_ 0 x (by rw [hl]; rfl)
      cases e
      rw [← hl]
      have := run_convert_bytes_arg (P := Tryd.prog) w 28 5 Tryd.underlying28 Tryd.underlying5 b off l.length cap (l.map fun (b : Nat) => (b : Int)) (by simp) (fun i hi => by
        obtain ⟨b', off', e', hc⟩ := h.at_ i l[i] (List.getElem?_eq_getElem hi)
        cases e'
        rw [hc]; simp [List.getD, List.getElem?_eq_getElem hi]) 9 Tryd.underlying9
      rw [this]
      simp only [strOfNums, tos, List.map_map]
      congr 3
set_option maxRecDepth 100000 in
theorem byts_of_string (w : World) (s : ByteArray) : Byts (Lib.bytesWorld w 5 s) (some ⟨w.heap.size, 0, none⟩) (sb s) :=
  ⟨sb_lt s, fun j x hj => ⟨w.heap.size, 0, rfl, by
    have hjl : j < s.size := by rw [← sb_len]; exact (List.getElem?_eq_some_iff.1 hj).1
    rw [Nat.zero_add, Lib.bytesWorld_cell w 5 s j hjl]
    simp only [sb, List.getElem?_map] at hj
    cases hx : s.data.toList[j]? with
    | none => rw [hx] at hj; cases hj
    | some y =>
      rw [hx] at hj; cases hj
      simp [List.getD, hx]⟩⟩
set_option maxRecDepth 100000 in
theorem below_string (w : World) (s : ByteArray) : Below w.heap.size w (Lib.bytesWorld w 5 s) :=
  ⟨rfl, rfl, rfl, by rw [Lib.bytesWorld_size]; omega, fun k hk => Lib.bytesWorld_at_old w 5 s k hk⟩
set_option maxRecDepth 100000 in
theorem conv_string (w : World) (s : ByteArray) : (convert 9 28 (.string s)).run Tryd.prog w = .ok (.slice (some ⟨w.heap.size, 0, none⟩) s.size (grownCap w s.size 0 5)) (Lib.bytesWorld w 5 s) :=
  Lib.run_convert_string_bytes w 9 28 5 s Tryd.underlying9 Tryd.underlying28 Tryd.underlying5

set_option maxRecDepth 100000 in
theorem eql_nil (w : World) (a : Option Addr) (n c : Nat) : (binOp .eql 28 (.slice a n c) (.slice none 0 0)).run Tryd.prog w = .ok (.bool a.isNone) w :=
  Lib.run_eql_slice_nil w 28 5 a n c 0 0 Tryd.underlying28

set_option maxRecDepth 100000 in
theorem toList_tos (l : List Nat) : (tos l).toList = l.map UInt8.ofNat := ByteArray.toList_eq _
set_option maxRecDepth 100000 in
theorem tos_beq {l m : List Nat} (hl : ∀ b ∈ l, b < 256) (hm : ∀ b ∈ m, b < 256) : ((tos l).toList == (tos m).toList) = decide (l = m) := by
  by_cases h : l = m
  · subst h; simp
  · rw [decide_eq_false h, beq_eq_false_iff_ne, toList_tos, toList_tos]
    intro e
    exact h ((tos_eq hl hm).1 (by unfold tos; rw [e]))
set_option maxRecDepth 100000 in
theorem tos_bne {l m : List Nat} (hl : ∀ b ∈ l, b < 256) (hm : ∀ b ∈ m, b < 256) : ((tos l).toList != (tos m).toList) = !decide (l = m) := by
  rw [bne, tos_beq hl hm]

/-! ### Numbers as bytes, the lowest one first -/
def le (v : Nat) : Nat → List Nat
  | 0 => []
  | n + 1 => le v n ++ [v / 2 ^ (8 * n) % 256]
set_option maxRecDepth 100000 in
theorem le_len (v n : Nat) : (le v n).length = n := by
  induction n with
  | zero => rfl
  | succ n ih => simp [le, ih]
set_option maxRecDepth 100000 in
theorem le_lt (v n : Nat) : ∀ b ∈ le v n, b < 256 := by
  induction n with
  | zero => intro b h; cases h
  | succ n ih =>
    intro b h
    rcases List.mem_append.1 h with h | h
    · exact ih b h
    · rw [List.mem_singleton.1 h]; exact Nat.mod_lt _ (by decide)
/-- The number that bytes are. -/
def lev : List Nat → Nat
  | [] => 0
  | b :: l => b + 256 * lev l
set_option maxRecDepth 100000 in
theorem lev_app (l m : List Nat) : lev (l ++ m) = lev l + 2 ^ (8 * l.length) * lev m := by
  induction l with
  | nil => simp [lev]
  | cons b l ih =>
    simp only [List.cons_append, lev, ih, List.length_cons]
    rw [show 8 * (l.length + 1) = 8 + 8 * l.length from by omega, Nat.pow_add, show (2 : Nat) ^ 8 = 256 from rfl, Nat.mul_add, Nat.mul_assoc]
    omega
set_option maxRecDepth 100000 in
theorem lev_le (v n : Nat) : lev (le v n) = v % 2 ^ (8 * n) := by
  induction n with
  | zero => simp [le, lev, Nat.mod_one]
  | succ n ih =>
    rw [le, lev_app, ih, le_len]
    simp only [lev, Nat.mul_zero, Nat.add_zero]
    rw [show 8 * (n + 1) = 8 * n + 8 from by omega, Nat.pow_add, Nat.mod_mul]
set_option maxRecDepth 100000 in
theorem lev_lt (l : List Nat) (h : ∀ b ∈ l, b < 256) : lev l < 2 ^ (8 * l.length) := by
  induction l with
  | nil => simp [lev]
  | cons b l ih =>
    have h1 := ih fun x hx => h x (List.mem_cons_of_mem _ hx)
    have h2 := h b (List.mem_cons_self ..)
    simp only [lev, List.length_cons]
    rw [show 8 * (l.length + 1) = 8 + 8 * l.length from by omega, Nat.pow_add, show (2 : Nat) ^ 8 = 256 from rfl]
    omega
end Go.Proofs.YthjjonbkfkpkmaaDoor.Gen
namespace Go.Proofs.YthjjonbkfkpkmaaDoor.Fld
open Go.RowKit Gen

/-- A maker at block p: its first error F, its bytes l in a row of the call's own. -/
structure MkA (w : World) (B p : Nat) (ao : Option Addr) (cap F : Nat) (l : List Nat) : Prop where
  c0 : w.cell? ⟨p, 0, none⟩ = some (.int .i64 (F : Int))
  c1 : w.cell? ⟨p, 1, none⟩ = some (.slice ao l.length cap)
  f0 : w.frozen? ⟨p, 0, none⟩ = false
  f1 : w.frozen? ⟨p, 1, none⟩ = false
  own : w.ownsRow B 5 1 (.slice ao l.length cap) l.length (bl l)
  far : blk ao ≠ some p
  base : B ≤ p
  lt : ∀ b ∈ l, b < 256
  err : F ≠ 0 → l = []

/-- What a maker's calls leave as it was: all but its own block and its row's. -/
structure Psh (w w' : World) (p : Nat) (ao ao' : Option Addr) : Prop where
  fr : Fr (fun b => b = p ∨ blk ao = some b) w w'
  at_ : blk ao' = blk ao ∨ ∀ g, blk ao' = some g → w.heap.size ≤ g

set_option maxRecDepth 100000 in
theorem MkA.plt {w : World} {B p cap F : Nat} {ao : Option Addr} {l : List Nat} (h : MkA w B p ao cap F l) : p < w.heap.size := World.block_lt_of_cell? w _ h.c0
set_option maxRecDepth 100000 in
theorem MkA.rlt {w : World} {B p cap F : Nat} {ao : Option Addr} {l : List Nat} (h : MkA w B p ao cap F l) : ∀ g, blk ao = some g → B ≤ g ∧ g < w.heap.size := fun g hg => h.own.lt g (by rw [ownBlock_slice]; exact hg)
set_option maxRecDepth 100000 in
theorem MkA.keep {w w' : World} {B p cap F : Nat} {ao : Option Addr} {l : List Nat} (h : MkA w B p ao cap F l) {X : Nat → Prop} (hf : Fr X w w') (hp : ¬ X p) (hr : ∀ g, blk ao = some g → ¬ X g) : MkA w' B p ao cap F l :=
  ⟨(hf.cell (p := ⟨p, 0, none⟩) h.plt hp).trans h.c0, (hf.cell (p := ⟨p, 1, none⟩) h.plt hp).trans h.c1, (hf.frozen (p := ⟨p, 0, none⟩) h.plt hp).trans h.f0, (hf.frozen (p := ⟨p, 1, none⟩) h.plt hp).trans h.f1,
    ownsRow_block h.own fun g hg => hf.block g (h.rlt g hg).2 (hr g hg), h.far, h.base, h.lt, h.err⟩
set_option maxRecDepth 100000 in
theorem MkA.below {w w' : World} {B p cap F : Nat} {ao : Option Addr} {l : List Nat} (h : MkA w B p ao cap F l) (hb : Below w.heap.size w w') : MkA w' B p ao cap F l :=
  h.keep (X := fun k => w.heap.size ≤ k) ⟨hb.os, hb.tape, hb.output, hb.size, fun k hk _ => hb.block k hk⟩ (by have := h.plt; omega) (fun g hg => by have := (h.rlt g hg).2; omega)
set_option maxRecDepth 100000 in
theorem MkA.bytes {w : World} {B p cap F : Nat} {ao : Option Addr} {l : List Nat} (h : MkA w B p ao cap F l) : Byts w ao l := Byts.of_row h.lt h.own

set_option maxRecDepth 100000 in
theorem Psh.refl (w : World) (p : Nat) (ao : Option Addr) : Psh w w p ao ao := ⟨Fr.refl _ _, .inl rfl⟩
set_option maxRecDepth 100000 in
theorem Psh.trans {a b c : World} {p : Nat} {ao ao1 ao2 : Option Addr} (h : Psh a b p ao ao1) (h1 : Psh b c p ao1 ao2) : Psh a c p ao ao2 := by
  refine ⟨⟨h1.fr.os.trans h.fr.os, h1.fr.tape.trans h.fr.tape, h1.fr.output.trans h.fr.output, Nat.le_trans h.fr.size h1.fr.size, ?_⟩, ?_⟩
  · intro i hi hx
    refine (h1.fr.block i (Nat.lt_of_lt_of_le hi h.fr.size) ?_).trans (h.fr.block i hi hx)
    rintro (e | e)
    · exact hx (.inl e)
    · rcases h.at_ with e1 | e1
      · exact hx (.inr (e1 ▸ e))
      · have := e1 i e; omega
  · rcases h1.at_ with e1 | e1
    · rw [e1]; exact h.at_
    · exact .inr fun g hg => Nat.le_trans h.fr.size (e1 g hg)
set_option maxRecDepth 100000 in
theorem Psh.below {w w' : World} {p B : Nat} {ao ao' : Option Addr} (h : Psh w w' p ao ao') (hp : B ≤ p) (hr : ∀ g, blk ao = some g → B ≤ g) (hB : B ≤ w.heap.size) : Below B w w' :=
  ⟨h.fr.os, h.fr.tape, h.fr.output, h.fr.size, fun k hk => h.fr.block k (by omega) (by
    rintro (e | e)
    · omega
    · have := hr k e; omega)⟩
set_option maxRecDepth 100000 in
/-- New blocks alone. -/
theorem Psh.new {w w' : World} (h : Below w.heap.size w w') (p : Nat) (ao : Option Addr) : Psh w w' p ao ao := ⟨⟨h.os, h.tape, h.output, h.size, fun k hk _ => h.block k hk⟩, .inl rfl⟩

set_option maxRecDepth 100000 in
theorem setC0 {w : World} {B p cap F : Nat} {ao : Option Addr} {l : List Nat} (h : MkA w B p ao cap F l) (F' : Nat) : (w.setCell ⟨p, 0, none⟩ (.int .i64 (F' : Int))).cell? ⟨p, 0, none⟩ = some (.int .i64 (F' : Int)) := World.cell?_setCell_same _ _ _ (by rw [h.c0])

set_option maxRecDepth 100000 in
/-- Behind an error. -/
theorem MkA.fail {w : World} {B p cap F : Nat} {ao : Option Addr} {l : List Nat} (h : MkA w B p ao cap F l) (E : Nat) : MkA ((w.setCell ⟨p, 0, none⟩ (.int .i64 (E : Int))).setCell ⟨p, 1, none⟩ (.slice none 0 0)) B p none 0 E [] := by
  refine ⟨?_, ?_, ?_, ?_, World.ownsRow_nil _ _ _ _, by simp [blk], h.base, (fun _ hb => by cases hb), (fun _ => rfl)⟩
  · rw [World.cell?_setCell_other _ _ _ _ (by intro e; simp at e)]
    exact World.cell?_setCell_same _ _ _ (by rw [h.c0])
  · exact World.cell?_setCell_same _ _ _ (by rw [World.cell?_setCell_other _ _ _ _ (by intro e; simp at e), h.c1])
  · simp [h.f0]
  · simp [h.f1]
set_option maxRecDepth 100000 in
theorem MkA.failed {w : World} {B p cap F : Nat} {ao : Option Addr} {l : List Nat} (h : MkA w B p ao cap F l) : MkA (w.setCell ⟨p, 1, none⟩ (.slice none 0 0)) B p none 0 F [] := by
  refine ⟨?_, ?_, ?_, ?_, World.ownsRow_nil _ _ _ _, by simp [blk], h.base, (fun _ hb => by cases hb), (fun _ => rfl)⟩
  · rw [World.cell?_setCell_other _ _ _ _ (by intro e; simp at e)]
    exact h.c0
  · exact World.cell?_setCell_same _ _ _ (by rw [h.c1])
  · simp [h.f0]
  · simp [h.f1]

set_option maxRecDepth 100000 in
theorem width_yes (n : Int) (h1 : 1 ≤ n) (h8 : n ≤ 8) (w : World) : Calls Tryd.prog 57 #[.int .i64 n] w fun e w' => e = .returned (.bool true) ∧ w = w' := by
  go_enter Tryd.func57, Tryd.ntmps57
  go_wp2
  go_ret
  exact ⟨rfl, rfl⟩
set_option maxRecDepth 100000 in
theorem width_no (n : Int) (h : n < 1 ∨ 8 < n) (w : World) : Calls Tryd.prog 57 #[.int .i64 n] w fun e w' => e = .returned (.bool false) ∧ w = w' := by
  rcases h with h | h
  · have h1 : ¬ 1 ≤ n := by omega
    go_enter Tryd.func57, Tryd.ntmps57
    go_wp2
    go_ret
    exact ⟨rfl, rfl⟩
  · have h1 : 1 ≤ n := by omega
    have h2 : ¬ n ≤ 8 := by omega
    go_enter Tryd.func57, Tryd.ntmps57
    go_wp2
    go_ret
    exact ⟨rfl, rfl⟩

set_option maxRecDepth 100000 in
theorem note_first {w : World} {p : Nat} (hc : w.cell? ⟨p, 0, none⟩ = some (.int .i64 0)) (hf : w.frozen? ⟨p, 0, none⟩ = false) (E : Int) :
    Calls Tryd.prog 82 #[.pointer (some ⟨p, 0, none⟩), .int .i64 E] w fun e w' => e = .returned (.tuple #[]) ∧ w' = w.setCell ⟨p, 0, none⟩ (.int .i64 E) := by
  go_enter Tryd.func82, Tryd.ntmps82
  go_wp2
  go_end0
  exact ⟨rfl, rfl⟩
set_option maxRecDepth 100000 in
theorem note_later {w : World} {p : Nat} {F : Int} (hc : w.cell? ⟨p, 0, none⟩ = some (.int .i64 F)) (hF : F ≠ 0) (E : Int) :
    Calls Tryd.prog 82 #[.pointer (some ⟨p, 0, none⟩), .int .i64 E] w fun e w' => e = .returned (.tuple #[]) ∧ w = w' := by
  have h0 : (F == 0) = false := by rw [beq_eq_false_iff_ne]; exact hF
  go_enter Tryd.func82, Tryd.ntmps82
  go_wp2
  go_end0
  exact ⟨rfl, rfl⟩

/-- What stays of errors: the first one. -/
def fst (F E : Nat) : Nat := if F = 0 then E else F

set_option maxRecDepth 100000 in
theorem mfail_any {w : World} {B p cap F : Nat} {ao : Option Addr} {l : List Nat} (h : MkA w B p ao cap F l) (E : Nat) :
    Calls Tryd.prog 58 #[.pointer (some ⟨p, 0, none⟩), .int .i64 (E : Int)] w fun e w' => e = .returned (.tuple #[]) ∧ MkA w' B p none 0 (fst F E) [] ∧ Psh w w' p ao none := by
  have hfr : ∀ u v, Psh w ((w.setCell ⟨p, 0, none⟩ u).setCell ⟨p, 1, none⟩ v) p ao none := fun u v => ⟨((Fr.refl _ _).setCell (p := ⟨p, 0, none⟩) (.inl rfl) u).setCell (p := ⟨p, 1, none⟩) (.inl rfl) v, .inr fun g hg => by simp [blk] at hg⟩
  have hfr1 : ∀ v, Psh w (w.setCell ⟨p, 1, none⟩ v) p ao none := fun v => ⟨(Fr.refl _ _).setCell (p := ⟨p, 1, none⟩) (.inl rfl) v, .inr fun g hg => by simp [blk] at hg⟩
  have HFR := hid hfr
  have HFR1 := hid hfr1
  have H := hid h
  clear hfr hfr1
  have c0 := h.c0; have c1 := h.c1; have f0 := h.f0; have f1 := h.f1
  clear h
  by_cases hF : F = 0
  · subst hF
    have d1 : (w.setCell ⟨p, 0, none⟩ (.int .i64 (E : Int))).cell? ⟨p, 1, none⟩ = some (.slice ao l.length cap) := by
      rw [World.cell?_setCell_other _ _ _ _ (by intro e; simp at e)]; exact c1
    have d2 : (w.setCell ⟨p, 0, none⟩ (.int .i64 (E : Int))).frozen? ⟨p, 1, none⟩ = false := by simp [f1]
    go_enter Tryd.func58, Tryd.ntmps58
    go_wp2_with fail
    refine (note_first c0 f0 _).mono ?_
    rintro e w1 ⟨rfl, rfl⟩
    clear c0 c1 f0 f1
    go_wp2_with fail
    go_end0
    exact ⟨rfl, H.out.fail E, HFR.out _ _⟩
  · have hF' : (F : Int) ≠ 0 := by omega
    go_enter Tryd.func58, Tryd.ntmps58
    go_wp2_with fail
    refine (note_later c0 hF' _).mono ?_
    rintro e w1 ⟨rfl, rfl⟩
    clear hF'
    go_wp2_with fail
    go_end0
    exact ⟨rfl, by unfold fst; rw [if_neg hF]; exact H.out.failed, HFR1.out _⟩

set_option maxRecDepth 100000 in
theorem lay_err {w : World} {B p cap F : Nat} {ao : Option Addr} {l : List Nat} (h : MkA w B p ao cap F l) (hF : F ≠ 0) (x : Value) :
    Calls Tryd.prog 56 #[.pointer (some ⟨p, 0, none⟩), x] w fun e w' => e = .returned (.tuple #[]) ∧ w = w' := by
  have c0 := h.c0
  have h0 : ((F : Int) == 0) = false := by rw [beq_eq_false_iff_ne]; omega
  go_enter Tryd.func56, Tryd.ntmps56
  go_wp2
  go_end0
  exact ⟨rfl, rfl⟩

set_option maxRecDepth 100000 in
set_option maxHeartbeats 800000 in
theorem lay_ok {w : World} {B p cap : Nat} {ao : Option Addr} {l : List Nat} (h : MkA w B p ao cap 0 l) {a : Option Addr} {m : List Nat} {c : Nat} (hb : Byts w a m) (hn : a = none → m.length = 0 ∧ c = 0) (hB : B ≤ w.heap.size) (hlen : l.length + m.length ≤ 1099511627776) :
    Calls Tryd.prog 56 #[.pointer (some ⟨p, 0, none⟩), .slice a m.length c] w fun e w' => e = .returned (.tuple #[]) ∧ ∃ ao' cap', MkA w' B p ao' cap' 0 (l ++ m) ∧ Psh w w' p ao ao' := by
  obtain ⟨i0, hi, hz0, hz1, hz2⟩ := info_parts Tryd.info5
  have c0 := h.c0; have c1 := h.c1; have f1 := h.f1
  have H := hid h
  have HN := hid hn
  have HB := hid hb
  clear h hn hb
  go_enter Tryd.func56, Tryd.ntmps56
  go_wp2_with (at_builtin; (refine (wpList_append_list w (by rfl) _ _ _ (by rfl) B 5 i0 _ 1 Tryd.underlying28 hi hz0 hz1 hz2 rfl ao l.length cap (bl l) (by rfl) H.out.own a m.length c (bl m) (by rfl) (bl_len _) HN.out HB.out.cells (bl_one _) (by unfold maxLen; omega) (by omega) hB ?_)))
  intro ao' cap' w1 hown hg hat
  have hne : ∀ g, blk ao = some g → g ≠ p := fun g hg e => H.out.far (e ▸ hg)
  have hpr : some p ≠ blk ao := fun e => H.out.far e.symm
  have d0 := (hg.cell_far ⟨p, 0, none⟩ H.out.plt hpr).trans c0
  have d1 := (hg.cell_far ⟨p, 1, none⟩ H.out.plt hpr).trans c1
  have e0 := (hg.frozen_far ⟨p, 0, none⟩ H.out.plt hpr).trans H.out.f0
  have e1 := (hg.frozen_far ⟨p, 1, none⟩ H.out.plt hpr).trans f1
  have hfar : blk ao' ≠ some p := by
    intro e
    rcases hat with e1 | e1
    · exact H.out.far (e1 ▸ e)
    · have := e1 p e; have := H.out.plt; omega
  have hP : Psh w w1 p ao ao' := ⟨(Fr.refl _ _).grown hg (fun b e _ => .inr e), hat⟩
  have HP := hid hP
  have HF := hid hfar
  have HO := hid hown
  have E0 := hid e0
  clear hg hat hne hpr hfar hP hown c0 c1 f1 e0
  go_wp2_with fail
  go_end0
  refine ⟨rfl, ao', cap', ⟨?_, ?_, ?_, ?_, ?_, HF.out, H.out.base, ?_, fun e => absurd rfl e⟩, ?_⟩
  · rw [World.cell?_setCell_other _ _ _ _ (by intro e; simp at e)]; exact d0
  · rw [World.cell?_setCell_same _ _ _ (by rw [d1]), List.length_append]
  · simp [E0.out]
  · simp [e1]
  · rw [List.length_append, bl_app]
    exact ownsRow_block HO.out fun g hg => RowKit.Below.heap_setCell _ _ _ _ (fun e => HF.out (by rw [hg, e]))
  · intro b hb
    rcases List.mem_append.1 hb with hb | hb
    · exact H.out.lt b hb
    · exact HB.out.lt b hb
  · exact HP.out.trans ⟨(Fr.refl _ _).setCell (p := ⟨p, 1, none⟩) (.inl rfl) _, .inl rfl⟩
end Go.Proofs.YthjjonbkfkpkmaaDoor.Fld
