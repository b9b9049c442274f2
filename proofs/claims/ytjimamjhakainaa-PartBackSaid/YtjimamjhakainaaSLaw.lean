/- A writer of bits in memory (a slice of whole bytes that the call owns, the bits that are left, how many they are), and one append of one byte to such a slice, as a step of a region: what was there stays, whether it grows or not. Conditions: the row has at most 2^40 bytes. -/
import Derived.Test.YtjimamjhakainaaSMath
import Derived.OwnWalk
import Derived.ArgAppend
import Derived.Deep.AppendLies
namespace Go.Proofs.Ytjimamjhakainaa.Bit

def blk (ao : Option Addr) : Option Nat := ao.map (·.block)
theorem ownBlock_slice (ao : Option Addr) (n cap : Nat) : (Value.slice ao n cap).ownBlock = blk ao := by cases ao <;> rfl

/-- What an append to the row at 'row', of n cells, leaves as it was; gg: the block in which the row lies behind it. -/
structure Kept (w w' : World) (row : Option Nat) (n gg : Nat) : Prop where
  grown : w.grownBy w' row
  pre : ∀ g j, row = some g → j < n → w'.cell? ⟨g, j, none⟩ = w.cell? ⟨g, j, none⟩
  at_ : row = some gg ∨ w.heap.size ≤ gg
  lt : gg < w'.heap.size

theorem ownsRow_at {w : World} {base : Nat} {e : TypeId} {ao : Option Addr} {n cap : Nat} {xs : List Value} (h : w.ownsRow base e 1 (.slice ao n cap) n xs) :
    (ao = none ∧ n = 0 ∧ cap = 0 ∧ xs = []) ∨ ∃ g, ao = some ⟨g, 0, none⟩ := by
  obtain ⟨hl, h⟩ := h
  rcases h with ⟨hv, rfl⟩ | ⟨g, c, cur, hv, _⟩
  · cases hv; exact .inl ⟨rfl, rfl, rfl, List.eq_nil_of_length_eq_zero (by simpa using hl)⟩
  · cases hv; exact .inr ⟨g, rfl⟩

theorem ownsRow_cell {w : World} {base : Nat} {e : TypeId} {g n cap : Nat} {xs : List Value} (h : w.ownsRow base e 1 (.slice (some ⟨g, 0, none⟩) n cap) n xs) (j : Nat) (u : Value) (hj : xs[j]? = some u) :
    w.cell? ⟨g, j, none⟩ = some u := by
  have := h.cells (g := g) rfl j u hj
  simpa [Addr.add_lit] using this

section
variable {P : Program} {ops : Array Oper} {o : Oper} {a : Act} {K : Act → World → Prop} {Q : Exit → Act → World → Prop}

theorem news_one {w : World} {ad : Addr} {u : Value} (hc : w.cell? ad = some u) : ∀ j v, [u][j]? = some v → w.cell? (ad.add j) = some v := by
  intro j v hj
  match j, hj with
  | 0, hj => simp at hj; subst hj; rw [show ad.add 0 = ad from by unfold Addr.add; split <;> simp_all]; exact hc

theorem kept_grows {w w' : World} {base : Nat} {e : TypeId} {ao : Option Addr} {n cap : Nat} {xs : List Value} {u v' : Value} (hown : w.ownsRow base e 1 (.slice ao n cap) n xs) (hbase : base ≤ w.heap.size)
    (ho : w'.ownsRow w.heap.size e 1 v' (n + 1) (xs ++ [u])) (hg : w.grownBy w' none) :
    ∃ gg cap', v' = .slice (some ⟨gg, 0, none⟩) (n + 1) cap' ∧ w'.ownsRow base e 1 v' (n + 1) (xs ++ [u]) ∧ Kept w w' (blk ao) n gg := by
  obtain ⟨hl, ho2⟩ := ho
  rcases ho2 with ⟨_, h⟩ | ⟨g, c', cur, rfl, q1, q2, q3, q4, q5, q6⟩
  · omega
  · refine ⟨g, c', rfl, ⟨hl, .inr ⟨g, c', cur, rfl, Nat.le_trans hbase q1, q2, q3, q4, q5, q6⟩⟩, ⟨hg.os, hg.tape, hg.output, hg.size, fun k hk _ => hg.block k hk (by simp)⟩, ?_, .inr q1, (Array.getElem?_eq_some_iff.1 q2).1⟩
    intro g' j hrow hj
    have hg' : g' < w.heap.size := (hown.lt g' (by rw [ownBlock_slice]; exact hrow)).2
    exact World.cell?_of_block (hg.block g' hg' (by simp))

theorem run_append_one (w : World) (t ty : TypeId)
    (base : Nat) (e : TypeId) (i : TypeInfo) (z : Value) (bytes : Nat) (h1 : P.underlying t = some (.slice e)) (h2 : P.info? e = some i) (h3 : i.zero = some z)
    (h4 : i.size = 1) (h5 : i.bytes = bytes) (h6 : z.cells.size = 1)
    (ao : Option Addr) (n cap : Nat) (xs : List Value) (hown : w.ownsRow base e 1 (.slice ao n cap) n xs)
    (ad : Addr) (c : Nat) (u : Value) (hc : w.cell? ad = some u) (hu : u.oneCell' = true)
    (b1 : n + 1 ≤ maxLen) (b2 : (n + 1) * bytes ≤ 140737488355328) (hbase : base ≤ w.heap.size) :
    ∃ gg cap' w', (Builtin.append_ #[t, t] ty #[.slice ao n cap, .slice (some ad) 1 c]).run P w = .ok (.slice (some ⟨gg, 0, none⟩) (n + 1) cap') w' ∧
      w'.ownsRow base e 1 (.slice (some ⟨gg, 0, none⟩) (n + 1) cap') (n + 1) (xs ++ [u]) ∧ Kept w w' (blk ao) n gg := by
  have hnews := news_one hc
  have h1c : ∀ v ∈ [u], v.oneCell' = true := by intro v hv; simp at hv; subst hv; exact hu
  rcases ownsRow_at hown with ⟨rfl, rfl, rfl, rfl⟩ | ⟨g, rfl⟩
  · obtain ⟨v', w', hrun, r1, r2, _⟩ := run_append_own (P := P) w w.heap.size t ty e i z 1 bytes h1 h2 h3 h4 h5 h6 (by decide) (.slice none 0 0) 0 [] (World.ownsRow_nil w _ e 1) ad 1 c [u] rfl hnews h1c b1 b2 (Nat.le_refl _)
    obtain ⟨gg, cap', rfl, q1, q2⟩ := kept_grows hown hbase r1 r2
    exact ⟨gg, cap', w', hrun, q1, q2⟩
  · by_cases hr : n + 1 ≤ cap
    · obtain ⟨w', hrun, r1, r2⟩ := run_append_fits (P := P) w base t ty e i 1 h1 h2 h4 g n cap xs hown ad 1 c [u] rfl hnews h1c hr
      refine ⟨g, cap, w', hrun, r1, r2, ?_, .inl rfl, ?_⟩
      · intro g' j hrow hj
        simp only [blk, Option.map_some, Option.some.injEq] at hrow
        subst hrow
        have hl : xs.length = n * 1 := hown.1
        have hx : xs[j]? = some (xs[j]'(by omega)) := List.getElem?_eq_getElem _
        rw [ownsRow_cell hown j _ hx, ownsRow_cell r1 j _ (by rw [List.getElem?_append_left (by omega)]; exact hx)]
      · exact (r1.lt g rfl).2
    · obtain ⟨v', w', hrun, r1, r2⟩ := run_append_arg_grows (P := P) w t ty e i z 1 bytes h1 h2 h3 h4 h5 h6 (by decide) ⟨g, 0, none⟩ n cap xs hown.1 (fun j u hj => by rw [Addr.add_lit, Nat.zero_add]; exact ownsRow_cell hown j u hj) ad 1 c [u] rfl hnews (by omega) b1 b2
      obtain ⟨gg, cap', rfl, q1, q2⟩ := kept_grows hown hbase r1 r2
      exact ⟨gg, cap', w', hrun, q1, q2⟩

theorem wp_append_one (w : World) (s x : Operand) (t : TypeId)
    (hop : o.op = .call { callee := .builtin .append, args := #[s, x], argTypes := #[t, t] })
    (base : Nat) (e : TypeId) (i : TypeInfo) (z : Value) (bytes : Nat) (h1 : P.underlying t = some (.slice e)) (h2 : P.info? e = some i) (h3 : i.zero = some z)
    (h4 : i.size = 1) (h5 : i.bytes = bytes) (h6 : z.cells.size = 1)
    (ao : Option Addr) (n cap : Nat) (xs : List Value) (hs : a.eval s = .slice ao n cap) (hown : w.ownsRow base e 1 (.slice ao n cap) n xs)
    (ad : Addr) (c : Nat) (u : Value) (hx : a.eval x = .slice (some ad) 1 c) (hc : w.cell? ad = some u) (hu : u.oneCell' = true)
    (b1 : n + 1 ≤ maxLen) (b2 : (n + 1) * bytes ≤ 140737488355328) (hbase : base ≤ w.heap.size)
    (hK : ∀ gg cap' w', w'.ownsRow base e 1 (.slice (some ⟨gg, 0, none⟩) (n + 1) cap') (n + 1) (xs ++ [u]) → Kept w w' (blk ao) n gg → K (a.put o.dst (.slice (some ⟨gg, 0, none⟩) (n + 1) cap')) w') :
    Oper.wp P o a w K Q := by
  obtain ⟨gg, cap', w', hrun, r1, r2⟩ := run_append_one (P := P) w t o.type base e i z bytes h1 h2 h3 h4 h5 h6 ao n cap xs hown ad c u hc hu b1 b2 hbase
  unfold Oper.wp
  simp [execOp, hop, resolve, invoke, builtin, hs, hx, hrun, Result.andThen]
  exact hK gg cap' w' r1 r2

theorem step_append_one {w : World} {E : Prop} (hgd : o.guard = none) (s x : Operand) (t : TypeId)
    (hop : o.op = .call { callee := .builtin .append, args := #[s, x], argTypes := #[t, t] })
    (base : Nat) (e : TypeId) (i : TypeInfo) (z : Value) (bytes : Nat) (h1 : P.underlying t = some (.slice e)) (h2 : P.info? e = some i) (h3 : i.zero = some z)
    (h4 : i.size = 1) (h5 : i.bytes = bytes) (h6 : z.cells.size = 1)
    (ao : Option Addr) (n cap : Nat) (xs : List Value) (hs : a.eval s = .slice ao n cap) (hown : w.ownsRow base e 1 (.slice ao n cap) n xs)
    (ad : Addr) (c : Nat) (u : Value) (hx : a.eval x = .slice (some ad) 1 c) (hc : w.cell? ad = some u) (hu : u.oneCell' = true)
    (b1 : n + 1 ≤ maxLen) (b2 : (n + 1) * bytes ≤ 140737488355328) (hbase : base ≤ w.heap.size)
    (hK : ∀ gg cap' w', w'.ownsRow base e 1 (.slice (some ⟨gg, 0, none⟩) (n + 1) cap') (n + 1) (xs ++ [u]) → Kept w w' (blk ao) n gg → K (a.put o.dst (.slice (some ⟨gg, 0, none⟩) (n + 1) cap')) w') :
    if Region.wanted o (yielded ops a.tmps) = true then Oper.wp P o a w K Q else E := by
  have hw : Region.wanted o (yielded ops a.tmps) = true := by simp [Region.wanted, hgd]
  rw [if_pos hw]
  exact wp_append_one w s x t hop base e i z bytes h1 h2 h3 h4 h5 h6 ao n cap xs hs hown ad c u hx hc hu b1 b2 hbase hK

theorem wpList_append_one {w : World} {rest : List Oper} (hgd : o.guard = none) (s x : Operand) (t : TypeId)
    (hop : o.op = .call { callee := .builtin .append, args := #[s, x], argTypes := #[t, t] })
    (base : Nat) (e : TypeId) (i : TypeInfo) (z : Value) (bytes : Nat) (h1 : P.underlying t = some (.slice e)) (h2 : P.info? e = some i) (h3 : i.zero = some z)
    (h4 : i.size = 1) (h5 : i.bytes = bytes) (h6 : z.cells.size = 1)
    (ao : Option Addr) (n cap : Nat) (xs : List Value) (hs : a.eval s = .slice ao n cap) (hown : w.ownsRow base e 1 (.slice ao n cap) n xs)
    (ad : Addr) (c : Nat) (u : Value) (hx : a.eval x = .slice (some ad) 1 c) (hc : w.cell? ad = some u) (hu : u.oneCell' = true)
    (b1 : n + 1 ≤ maxLen) (b2 : (n + 1) * bytes ≤ 140737488355328) (hbase : base ≤ w.heap.size)
    (hK : ∀ gg cap' w', w'.ownsRow base e 1 (.slice (some ⟨gg, 0, none⟩) (n + 1) cap') (n + 1) (xs ++ [u]) → Kept w w' (blk ao) n gg → wpList P ops Q rest (a.put o.dst (.slice (some ⟨gg, 0, none⟩) (n + 1) cap')) w') :
    wpList P ops Q (o :: rest) a w :=
  wpList_plain hgd fun _ hK' => wp_append_one w s x t hop base e i z bytes h1 h2 h3 h4 h5 h6 ao n cap xs hs hown ad c u hx hc hu b1 b2 hbase fun gg cap' w' r1 r2 => hK' _ _ (hK gg cap' w' r1 r2)
end

/-! ### A writer -/
/-- k whole bytes f, in a row of the call's own; R is left, of E bits. -/
structure Wr (w : World) (B p o : Nat) (ao : Option Addr) (cap k R E : Nat) (f : Nat → Nat) : Prop where
  c0 : w.cell? ⟨p, o, none⟩ = some (.slice ao k cap)
  c1 : w.cell? ⟨p, o + 1, none⟩ = some (.int .u64 (R : Int))
  c2 : w.cell? ⟨p, o + 2, none⟩ = some (.int .i64 (E : Int))
  f0 : w.frozen? ⟨p, o, none⟩ = false
  f1 : w.frozen? ⟨p, o + 1, none⟩ = false
  f2 : w.frozen? ⟨p, o + 2, none⟩ = false
  own : w.ownsRow B 5 1 (.slice ao k cap) k ((List.range k).map fun i => .int .u8 (f i : Int))
  far : blk ao ≠ some p
  base : B ≤ p

/-- What of w stands in w': all blocks of w but those of X. -/
structure Fr (X : Nat → Prop) (w w' : World) : Prop where
  os : w'.os = w.os
  tape : w'.tape = w.tape
  output : w'.output = w.output
  size : w.heap.size ≤ w'.heap.size
  block : ∀ k, k < w.heap.size → ¬ X k → w'.heap[k]? = w.heap[k]?

theorem Fr.refl (X : Nat → Prop) (w : World) : Fr X w w := ⟨rfl, rfl, rfl, Nat.le_refl _, fun _ _ _ => rfl⟩
theorem Fr.trans {X : Nat → Prop} {a b c : World} (h : Fr X a b) (k : Fr X b c) : Fr X a c :=
  ⟨k.os.trans h.os, k.tape.trans h.tape, k.output.trans h.output, Nat.le_trans h.size k.size, fun i hi hx => (k.block i (Nat.lt_of_lt_of_le hi h.size) hx).trans (h.block i hi hx)⟩
theorem Fr.drew {X : Nat → Prop} {a w : World} (h : Fr X a w) : Fr X a w.drew := ⟨h.os, h.tape, h.output, h.size, h.block⟩
theorem Fr.mono {X Y : Nat → Prop} {a b : World} (h : Fr X a b) (hxy : ∀ k, k < a.heap.size → X k → Y k) : Fr Y a b := ⟨h.os, h.tape, h.output, h.size, fun k hk hy => h.block k hk fun hx => hy (hxy k hk hx)⟩
theorem Fr.alloc {X : Nat → Prop} {a w : World} (h : Fr X a w) (o : Obj) : Fr X a (w.alloc o) :=
  h.trans ⟨rfl, rfl, rfl, by simp, fun k hk _ => RowKit.Below.heap_alloc _ _ _ hk⟩
theorem Fr.setCell {X : Nat → Prop} {a w : World} (h : Fr X a w) {p : Addr} (hp : X p.block) (u : Value) : Fr X a (w.setCell p u) :=
  h.trans ⟨rfl, rfl, rfl, by simp [World.setCell], fun k _ hx => RowKit.Below.heap_setCell _ _ _ _ (fun e => hx (e ▸ hp))⟩
theorem Fr.cell {X : Nat → Prop} {a w : World} (h : Fr X a w) {p : Addr} (hp : p.block < a.heap.size) (hx : ¬ X p.block) : w.cell? p = a.cell? p := World.cell?_of_block (h.block p.block hp hx)
theorem Fr.frozen {X : Nat → Prop} {a w : World} (h : Fr X a w) {p : Addr} (hp : p.block < a.heap.size) (hx : ¬ X p.block) : w.frozen? p = a.frozen? p := World.frozen?_of_block (h.block p.block hp hx)
theorem Fr.grown {X : Nat → Prop} {a w w' : World} {row : Option Nat} (h : Fr X a w) (hg : w.grownBy w' row) (hr : ∀ k, row = some k → k < a.heap.size → X k) : Fr X a w' :=
  ⟨hg.os.trans h.os, hg.tape.trans h.tape, hg.output.trans h.output, Nat.le_trans h.size hg.size,
    fun k hk hx => (hg.block k (Nat.lt_of_lt_of_le hk h.size) (fun e => hx (hr k e.symm hk))).trans (h.block k hk hx)⟩

theorem ownsRow_block {w w' : World} {base : Nat} {e : TypeId} {size : Nat} {ao : Option Addr} {n cap : Nat} {xs : List Value} (h : w.ownsRow base e size (.slice ao n cap) n xs)
    (hb : ∀ g, blk ao = some g → w'.heap[g]? = w.heap[g]?) : w'.ownsRow base e size (.slice ao n cap) n xs := by
  obtain ⟨hl, h⟩ := h
  rcases h with h | ⟨g, c, cur, hv, q1, q2, q3⟩
  · exact ⟨hl, .inl h⟩
  · refine ⟨hl, .inr ⟨g, c, cur, hv, q1, ?_, q3⟩⟩
    cases hv
    rw [hb g rfl]; exact q2

/-- A writer stands where its own block and its row stand. -/
theorem Wr.keep {w w' : World} {B p o : Nat} {ao : Option Addr} {cap k R E : Nat} {f : Nat → Nat} (h : Wr w B p o ao cap k R E f) {X : Nat → Prop} (hf : Fr X w w') (hp : ¬ X p) (hr : ∀ g, blk ao = some g → ¬ X g) :
    Wr w' B p o ao cap k R E f := by
  have lp := World.block_lt_of_cell? w _ h.c0
  have lr : ∀ g, blk ao = some g → g < w.heap.size := fun g hg => (h.own.lt g (by rw [ownBlock_slice]; exact hg)).2
  exact ⟨(hf.cell (p := ⟨p, o, none⟩) lp hp).trans h.c0, (hf.cell (p := ⟨p, o + 1, none⟩) lp hp).trans h.c1, (hf.cell (p := ⟨p, o + 2, none⟩) lp hp).trans h.c2,
    (hf.frozen (p := ⟨p, o, none⟩) lp hp).trans h.f0, (hf.frozen (p := ⟨p, o + 1, none⟩) lp hp).trans h.f1, (hf.frozen (p := ⟨p, o + 2, none⟩) lp hp).trans h.f2,
    ownsRow_block h.own fun g hg => hf.block g (lr g hg) (hr g hg), h.far, h.base⟩

theorem Wr.plt {w : World} {B p o : Nat} {ao : Option Addr} {cap k R E : Nat} {f : Nat → Nat} (h : Wr w B p o ao cap k R E f) : p < w.heap.size := World.block_lt_of_cell? w _ h.c0
theorem Wr.rlt {w : World} {B p o : Nat} {ao : Option Addr} {cap k R E : Nat} {f : Nat → Nat} (h : Wr w B p o ao cap k R E f) : ∀ g, blk ao = some g → B ≤ g ∧ g < w.heap.size := fun g hg => h.own.lt g (by rw [ownBlock_slice]; exact hg)

theorem frozen_setCell (w : World) (a b : Addr) (u : Value) : (w.setCell a u).frozen? b = w.frozen? b := by simp

theorem Wr.setE {w : World} {B p o : Nat} {ao : Option Addr} {cap k R E : Nat} {f : Nat → Nat} (h : Wr w B p o ao cap k R E f) (E' : Nat) :
    Wr (w.setCell ⟨p, o + 2, none⟩ (.int .i64 (E' : Int))) B p o ao cap k R E' f := by
  obtain ⟨c0, c1, c2, f0, f1, f2, own, far, base⟩ := h
  refine ⟨?_, ?_, ?_, ?_, ?_, ?_, ?_, far, base⟩
  · rw [World.cell?_setCell_other _ _ _ _ (by intro e; simp at e)]; exact c0
  · rw [World.cell?_setCell_other _ _ _ _ (by intro e; simp at e)]; exact c1
  · exact World.cell?_setCell_same _ _ _ (by rw [c2])
  · rw [frozen_setCell]; exact f0
  · rw [frozen_setCell]; exact f1
  · rw [frozen_setCell]; exact f2
  · exact ownsRow_block own fun g hg => RowKit.Below.heap_setCell _ _ _ _ (fun e => far (by rw [hg, e]))
theorem Wr.setR {w : World} {B p o : Nat} {ao : Option Addr} {cap k R E : Nat} {f : Nat → Nat} (h : Wr w B p o ao cap k R E f) (R' : Nat) :
    Wr (w.setCell ⟨p, o + 1, none⟩ (.int .u64 (R' : Int))) B p o ao cap k R' E f := by
  obtain ⟨c0, c1, c2, f0, f1, f2, own, far, base⟩ := h
  refine ⟨?_, ?_, ?_, ?_, ?_, ?_, ?_, far, base⟩
  · rw [World.cell?_setCell_other _ _ _ _ (by intro e; simp at e)]; exact c0
  · exact World.cell?_setCell_same _ _ _ (by rw [c1])
  · rw [World.cell?_setCell_other _ _ _ _ (by intro e; simp at e)]; exact c2
  · rw [frozen_setCell]; exact f0
  · rw [frozen_setCell]; exact f1
  · rw [frozen_setCell]; exact f2
  · exact ownsRow_block own fun g hg => RowKit.Below.heap_setCell _ _ _ _ (fun e => far (by rw [hg, e]))
theorem Wr.drew {w : World} {B p o : Nat} {ao : Option Addr} {cap k R E : Nat} {f : Nat → Nat} (h : Wr w B p o ao cap k R E f) : Wr w.drew B p o ao cap k R E f := h.keep (X := fun _ => False) ((Fr.refl _ _).drew) (fun x => x) (fun _ _ x => x)
theorem Wr.alloc {w : World} {B p o : Nat} {ao : Option Addr} {cap k R E : Nat} {f : Nat → Nat} (h : Wr w B p o ao cap k R E f) (ob : Obj) : Wr (w.alloc ob) B p o ao cap k R E f := h.keep (X := fun _ => False) ((Fr.refl _ _).alloc _) (fun x => x) (fun _ _ x => x)
/-- One byte more, and the slice stored. -/
theorem Wr.app {w w1 : World} {B p o : Nat} {ao : Option Addr} {cap k R E : Nat} {f : Nat → Nat} (h : Wr w B p o ao cap k R E f) {gg cap' : Nat} {u : Nat}
    (ho : w1.ownsRow B 5 1 (.slice (some ⟨gg, 0, none⟩) (k + 1) cap') (k + 1) (((List.range k).map fun i => .int .u8 (f i : Int)) ++ [.int .u8 (u : Int)])) (hk : Kept w w1 (blk ao) k gg) (hu : u = f k) :
    Wr (w1.setCell ⟨p, o, none⟩ (.slice (some ⟨gg, 0, none⟩) (k + 1) cap')) B p o (some ⟨gg, 0, none⟩) cap' (k + 1) R E f := by
  have lp := h.plt
  have hne : some p ≠ blk ao := fun e => h.far e.symm
  have k0 := (hk.grown.cell_far ⟨p, o, none⟩ lp hne).trans h.c0
  have k1 := (hk.grown.cell_far ⟨p, o + 1, none⟩ lp hne).trans h.c1
  have k2 := (hk.grown.cell_far ⟨p, o + 2, none⟩ lp hne).trans h.c2
  have e0 := (hk.grown.frozen_far ⟨p, o, none⟩ lp hne).trans h.f0
  have e1 := (hk.grown.frozen_far ⟨p, o + 1, none⟩ lp hne).trans h.f1
  have e2 := (hk.grown.frozen_far ⟨p, o + 2, none⟩ lp hne).trans h.f2
  have hgp : gg ≠ p := by
    rcases hk.at_ with e | e
    · intro e'; exact h.far (by rw [e, e'])
    · omega
  have hl : ((List.range (k + 1)).map fun i => (Value.int .u8 (f i : Int))) = ((List.range k).map fun i => .int .u8 (f i : Int)) ++ [.int .u8 (u : Int)] := by
    rw [List.range_succ, List.map_append, hu]; rfl
  refine ⟨?_, ?_, ?_, ?_, ?_, ?_, ?_, ?_, h.base⟩
  · exact World.cell?_setCell_same _ _ _ (by rw [k0])
  · rw [World.cell?_setCell_other _ _ _ _ (by intro e; simp at e)]; exact k1
  · rw [World.cell?_setCell_other _ _ _ _ (by intro e; simp at e)]; exact k2
  · rw [frozen_setCell]; exact e0
  · rw [frozen_setCell]; exact e1
  · rw [frozen_setCell]; exact e2
  · rw [hl]
    exact ownsRow_block ho fun g hg => RowKit.Below.heap_setCell _ _ _ _ (fun e => hgp ((show gg = g by simpa [blk] using hg).trans e))
  · simpa [blk] using hgp

/-- What pushing bits leaves as it was: all but the writer's own block and its row's new end. -/
structure Pushed (w w' : World) (p : Nat) (ao ao' : Option Addr) (k : Nat) : Prop where
  fr : Fr (fun b => b = p ∨ blk ao = some b) w w'
  pre : ∀ g j, blk ao = some g → j < k → w'.cell? ⟨g, j, none⟩ = w.cell? ⟨g, j, none⟩
  at_ : blk ao' = blk ao ∨ ∀ g, blk ao' = some g → w.heap.size ≤ g

theorem Pushed.refl (w : World) (p : Nat) (ao : Option Addr) (k : Nat) : Pushed w w p ao ao k := ⟨Fr.refl _ _, fun _ _ _ _ => rfl, .inl rfl⟩
theorem Pushed.trans {a b c : World} {p : Nat} {ao ao1 ao2 : Option Addr} {k k1 : Nat} (h : Pushed a b p ao ao1 k) (h1 : Pushed b c p ao1 ao2 k1) (hk : k ≤ k1) (hlt : ∀ g, blk ao = some g → g < a.heap.size ∧ g ≠ p) : Pushed a c p ao ao2 k := by
  refine ⟨⟨h1.fr.os.trans h.fr.os, h1.fr.tape.trans h.fr.tape, h1.fr.output.trans h.fr.output, Nat.le_trans h.fr.size h1.fr.size, ?_⟩, ?_, ?_⟩
  · intro i hi hx
    refine (h1.fr.block i (Nat.lt_of_lt_of_le hi h.fr.size) ?_).trans (h.fr.block i hi hx)
    rintro (e | e)
    · exact hx (.inl e)
    · rcases h.at_ with e1 | e1
      · exact hx (.inr (e1 ▸ e))
      · have := e1 i e; omega
  · intro g j hg hj
    refine Eq.trans ?_ (h.pre g j hg hj)
    rcases h.at_ with e1 | e1
    · exact h1.pre g j (e1.trans hg) (by omega)
    · refine World.cell?_of_block (h1.fr.block g (Nat.lt_of_lt_of_le (hlt g hg).1 h.fr.size) ?_)
      rintro (e | e)
      · exact (hlt g hg).2 e
      · have := e1 g e; have := (hlt g hg).1; omega
  · rcases h1.at_ with e1 | e1
    · rw [e1]; exact h.at_
    · exact .inr fun g hg => Nat.le_trans h.fr.size (e1 g hg)
theorem Pushed.setCell {w : World} {p : Nat} {ao : Option Addr} (hp : blk ao ≠ some p) (off : Nat) (u : Value) (k : Nat) : Pushed w (w.setCell ⟨p, off, none⟩ u) p ao ao k :=
  ⟨(Fr.refl _ _).setCell (p := ⟨p, off, none⟩) (.inl rfl) u, fun g j hg _ => World.cell?_setCell_other _ _ _ _ (by intro e; cases e; exact hp hg), .inl rfl⟩
theorem Pushed.drew (w : World) (p : Nat) (ao : Option Addr) (k : Nat) : Pushed w w.drew p ao ao k := ⟨(Fr.refl _ _).drew, fun _ _ _ _ => rfl, .inl rfl⟩
theorem Pushed.alloc {w : World} (p : Nat) {ao : Option Addr} (hr : ∀ g, blk ao = some g → g < w.heap.size) (k : Nat) (ob : Obj) : Pushed w (w.alloc ob) p ao ao k :=
  ⟨(Fr.refl _ _).alloc _, fun g _ hg _ => World.cell?_of_block (RowKit.Below.heap_alloc _ _ _ (hr g hg)), .inl rfl⟩
theorem Pushed.app {w w1 : World} {p : Nat} {ao : Option Addr} {k gg : Nat} (hk : Kept w w1 (blk ao) k gg) : Pushed w w1 p ao (some ⟨gg, 0, none⟩) k :=
  ⟨(Fr.refl _ _).grown hk.grown (fun b e _ => .inr e), hk.pre, by
    rcases hk.at_ with e | e
    · exact .inl (by rw [e]; rfl)
    · exact .inr fun g hg => by simp [blk] at hg; omega⟩
end Go.Proofs.Ytjimamjhakainaa.Bit
