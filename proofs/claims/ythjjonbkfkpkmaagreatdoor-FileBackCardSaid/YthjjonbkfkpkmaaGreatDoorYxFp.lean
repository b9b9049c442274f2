/- Blocks read one behind the other, of lists; blocks in memory. No condition but those that each lemma names. -/
import Derived.Test.YthjjonbkfkpkmaaGreatDoorY25
import Derived.Test.YthjjonbkfkpkmaaGreatDoorY23
import Derived.Test.YthjjonbkfkpkmaaGreatDoorY13
import Derived.Test.YthjjonbkfkpkmaaGreatDoorY26
import Derived.Test.YthjjonbkfkpkmaaGreatDoorY14
namespace Go.Proofs.YthjjonbkfkpkmaaGreatDoor.Fil
open Go.RowKit Gen
open Tl (il il_app rise TRt)

section
variable {P : Program} {ops : Array Oper} {Q : Exit → Act → World → Prop} {md : Region.Mode}
set_option maxRecDepth 100000 in
/-- Two operations may come up. -/
theorem anyT_two {T : Array Bool → World → Prop} {i j : Nat} {o p : Oper} {n : Nat} {l : Array Bool} {a : Act} {w : World} (hr : Region.ready md ops l = [i, j]) (ho : ops[i]? = some o) (hp : ops[j]? = some p)
    (h : ∀ K : Act → World → Prop, Hid (∀ a' w', T (l.setIfInBounds i true) w' → Pcm.anyT P md ops Q T n (l.setIfInBounds i true) a' w' → K a' w') → if Region.wanted o (yielded ops a.tmps) = true then Oper.wp P o a w K Q else K (a.put o.dst undef) w)
    (h' : ∀ K : Act → World → Prop, Hid (∀ a' w', T (l.setIfInBounds j true) w' → Pcm.anyT P md ops Q T n (l.setIfInBounds j true) a' w' → K a' w') → if Region.wanted p (yielded ops a.tmps) = true then Oper.wp P p a w K Q else K (a.put p.dst undef) w) :
    Pcm.anyT P md ops Q T (n + 1) l a w := by
  refine ⟨fun h0 => (by rw [hr] at h0; cases h0), fun k hk => ?_⟩
  rw [hr] at hk
  rcases (show k = i ∨ k = j by simpa using hk) with rfl | rfl
  · exact wpOp_step ho fun K hK => h K (hid fun a' w' h1 h2 => hK a' w' ⟨h1, h2⟩)
  · exact wpOp_step hp fun K hK => h' K (hid fun a' w' h1 h2 => hK a' w' ⟨h1, h2⟩)
end

section
variable {P : Program} {ops : Array Oper} {o : Oper} {a : Act} {K : Act → World → Prop} {Q : Exit → Act → World → Prop}
set_option maxRecDepth 100000 in
/-- One element of several cells is appended, in a region that draws its order. -/
theorem step_append_k {w : World} {E : Prop} (hgd : o.guard = none) (s x : Operand) (t : TypeId)
    (hop : o.op = .call { callee := .builtin .append, args := #[s, x], argTypes := #[t, t] })
    (base : Nat) (e : TypeId) (i : TypeInfo) (z : Value) (size bytes : Nat) (h1 : P.underlying t = some (.slice e)) (h2 : P.info? e = some i) (h3 : i.zero = some z)
    (h4 : i.size = size) (h5 : i.bytes = bytes) (h6 : z.cells.size = size) (h0 : 0 < size)
    (ao : Option Addr) (n cap : Nat) (xs : List Value) (hs : a.eval s = .slice ao n cap) (hown : w.ownsRow base e size (.slice ao n cap) n xs)
    (ad : Addr) (c : Nat) (news : List Value) (hx : a.eval x = .slice (some ad) 1 c) (hl : news.length = size) (hc : ∀ j u, news[j]? = some u → w.cell? (ad.add j) = some u) (hu : ∀ u ∈ news, u.oneCell' = true)
    (b1 : n + 1 ≤ maxLen) (b2 : (n + 1) * bytes ≤ 140737488355328) (hbase : base ≤ w.heap.size)
    (hK : ∀ gg cap' w', w'.ownsRow base e size (.slice (some ⟨gg, 0, none⟩) (n + 1) cap') (n + 1) (xs ++ news) → w.grownBy w' (blk ao) → (blk ao = some gg ∨ w.heap.size ≤ gg) → gg < w'.heap.size → K (a.put o.dst (.slice (some ⟨gg, 0, none⟩) (n + 1) cap')) w') :
    if Region.wanted o (yielded ops a.tmps) = true then Oper.wp P o a w K Q else E := by
  refine step_append_lies w hgd s x t hop base e i z size bytes h1 h2 h3 h4 h5 h6 h0 (.slice ao n cap) n xs hs hown ad 1 c news hx (by rw [hl, Nat.one_mul]) hc hu (by decide) b1 b2 hbase w.heap.size rfl fun g cap' w' r1 r2 r3 r4 => ?_
  rw [ownBlock_slice] at r2 r3
  exact hK g cap' w' r1 r2 (r3.imp id fun h => by omega) r4
end
set_option maxRecDepth 100000 in
theorem cells_new (w : World) (l : List Value) (t : TypeId) : ∀ j u, l[j]? = some u → ((w.alloc (.cells l.toArray t)).drew).cell? ((⟨w.heap.size, 0, none⟩ : Addr).add j) = some u := by
  intro j u hj
  have h := heap_alloc_new w (.cells l.toArray t)
  rw [Addr.add_lit, Nat.zero_add]
  show World.cell? (w.alloc (.cells l.toArray t)) ⟨w.heap.size, j, none⟩ = some u
  unfold World.cell?
  rw [h]
  simpa using hj

/-- Blocks one behind the other from where the state is: the state at which they end, and 0 if a tail begins there, else why not. -/
def prun (i : Inf.If) (b : List Nat) : Nat → Ns → Ns × Int
  | 0, s => (s, 10)
  | f + 1, s => if b.length ≤ s.at_ then (s, 10) else if b.getD s.at_ 0 = 69 then (s, 0) else
      if Head.opE (b.drop s.at_) ≠ 0 then (s, Head.opE (b.drop s.at_)) else if nxt i (Head.opH (b.drop s.at_)) s.n s.sh ≠ 0 then (s, nxt i (Head.opH (b.drop s.at_)) s.n s.sh) else prun i b f (s.next i (b.drop s.at_))
set_option maxRecDepth 100000 in
theorem prun_fuel (i : Inf.If) (b : List Nat) : ∀ (f f' : Nat) (s : Ns), b.length - s.at_ < f → b.length - s.at_ < f' → prun i b f s = prun i b f' s
  | 0, _, _, h, _ => absurd h (Nat.not_lt_zero _)
  | _ + 1, 0, _, _, h => absurd h (Nat.not_lt_zero _)
  | f + 1, f' + 1, s, h, h' => by
    unfold prun
    by_cases h0 : b.length ≤ s.at_
    · rw [if_pos h0, if_pos h0]
    · rw [if_neg h0, if_neg h0]
      have ha : (s.next i (b.drop s.at_)).at_ = s.at_ + (36 + Head.szn (b.drop s.at_)) := rfl
      rw [prun_fuel i b f f' (s.next i (b.drop s.at_)) (by rw [ha]; omega) (by rw [ha]; omega)]
/-- A block as it lies in a list of blocks. -/
structure Bv where
  h : Head.Hh
  a : Option Addr
  n : Nat
  cap : Nat
  s : Nat
  at_ : Nat
def bvl (x : Bv) : List Value := [.int .i64 x.h.k, .int .i64 x.h.ix, .int .i64 x.h.ln, .int .i64 x.h.st, .int .i64 x.h.bd, .bool x.h.la, .int .u32 (x.h.lk : Int), .int .i64 x.h.sz, .slice x.a x.n x.cap, .int .u32 (x.s : Int), .int .i64 (x.at_ : Int)]
def bls : List Bv → List Value
  | [] => []
  | x :: t => bvl x ++ bls t
set_option maxRecDepth 100000 in
theorem bls_len : ∀ l : List Bv, (bls l).length = l.length * 11
  | [] => rfl
  | x :: t => by
    show (bvl x ++ bls t).length = (t.length + 1) * 11
    rw [List.length_append, bls_len t]
    show 11 + t.length * 11 = _
    omega
set_option maxRecDepth 100000 in
theorem bls_app : ∀ l m : List Bv, bls (l ++ m) = bls l ++ bls m
  | [], _ => rfl
  | x :: t, m => by show bvl x ++ bls (t ++ m) = (bvl x ++ bls t) ++ bls m; rw [bls_app t m, List.append_assoc]
set_option maxRecDepth 100000 in
theorem bvl_one (x : Bv) : ∀ u ∈ bvl x, u.oneCell' = true := by
  intro u hu
  simp only [bvl, List.mem_cons, List.not_mem_nil, or_false] at hu
  rcases hu with rfl | rfl | rfl | rfl | rfl | rfl | rfl | rfl | rfl | rfl | rfl <;> rfl
set_option maxRecDepth 100000 in
theorem bls_at : ∀ (l : List Bv) (j : Nat) (x : Bv) (i : Nat) (u : Value), l[j]? = some x → (bvl x)[i]? = some u → (bls l)[j * 11 + i]? = some u
  | [], j, x, i, u, h, _ => by simp at h
  | y :: t, 0, x, i, u, h, hi => by
    simp at h
    subst h
    show (bvl y ++ bls t)[0 * 11 + i]? = some u
    rw [Nat.zero_mul, Nat.zero_add, List.getElem?_append_left (List.getElem?_eq_some_iff.1 hi).1]
    exact hi
  | y :: t, j + 1, x, i, u, h, hi => by
    have ih := bls_at t j x i u (by simpa using h) hi
    show (bvl y ++ bls t)[(j + 1) * 11 + i]? = some u
    have hl : (bvl y).length = 11 := rfl
    rw [List.getElem?_append_right (by rw [hl]; omega), hl, show (j + 1) * 11 + i - 11 = j * 11 + i by omega]
    exact ih
/-- It is the block that begins at at_ in b. -/
structure BvOk (w : World) (b : List Nat) (x : Bv) (at_ : Nat) : Prop where
  h : x.h = Head.opH (b.drop at_)
  n : x.n = (Head.opP (b.drop at_)).length
  p : Byts w x.a (Head.opP (b.drop at_))
  s : x.s = Head.opS (b.drop at_)
  e : x.at_ = at_
/-- Blocks read so far: the lists. -/
structure Xs (w : World) (b : List Nat) (P : List Int) (X : List Bv) : Prop where
  len : X.length = P.length
  ok : ∀ (j : Nat) (x : Bv), X[j]? = some x → ∃ at_ : Nat, P[j]? = some (at_ : Int) ∧ BvOk w b x at_
set_option maxRecDepth 100000 in
theorem Xs.nil (w : World) (b : List Nat) : Xs w b [] [] := ⟨rfl, fun j x h => by simp at h⟩
set_option maxRecDepth 100000 in
theorem Xs.snoc {w : World} {b : List Nat} {P : List Int} {X : List Bv} {x : Bv} {at_ : Nat} (h : Xs w b P X) (hx : BvOk w b x at_) : Xs w b (P ++ [(at_ : Int)]) (X ++ [x]) := by
  refine ⟨by simp [h.len], fun j y hj => ?_⟩
  by_cases e : j < X.length
  · rw [List.getElem?_append_left e] at hj
    obtain ⟨a, ha, hb⟩ := h.ok j y hj
    exact ⟨a, by rw [List.getElem?_append_left (by rw [← h.len]; exact e)]; exact ha, hb⟩
  · have hjl : j = X.length := by
      have := (List.getElem?_eq_some_iff.1 hj).1
      rw [List.length_append] at this
      simp at this
      omega
    subst hjl
    simp at hj
    subst hj
    exact ⟨at_, by rw [h.len]; simp, hx⟩
/-- What the reader's state says of numbers. -/
structure NsOk (b : List Nat) (s : Ns) : Prop where
  n : s.P.length = s.n
  at_ : s.at_ ≤ b.length
  le : s.n ≤ s.at_
  c : 0 ≤ s.c ∧ s.c ≤ 65536 * (s.n : Int)
set_option maxRecDepth 100000 in
theorem NsOk.next {i : Inf.If} {b : List Nat} {s : Ns} (h : NsOk b s) (e : Head.opE (b.drop s.at_) = 0) : NsOk b (s.next i (b.drop s.at_)) := by
  obtain ⟨hr, hs, hl, hz⟩ := op_ok e
  have h1 := hr.1.2.2.1
  have h2 := hr.1.2.2.2.1
  rw [List.length_drop] at hl
  have hc := h.c
  have hn := h.n
  have hle := h.le
  refine ⟨by show (s.P ++ [_]).length = s.n + 1; rw [List.length_append, hn]; rfl, ?_, ?_, ?_⟩
  · show s.at_ + (36 + Head.szn (b.drop s.at_)) ≤ b.length; omega
  · show s.n + 1 ≤ s.at_ + (36 + _); omega
  · show 0 ≤ s.c + (Head.opH (b.drop s.at_)).ln ∧ s.c + (Head.opH (b.drop s.at_)).ln ≤ 65536 * ((s.n + 1 : Nat) : Int)
    constructor <;> omega
/-- The reader at work; w0: the world in which it was made. -/
structure RdI (w0 : World) (g t : Nat) (i : Inf.If) (b : List Nat) (ba : Option Addr) (bn bc : Nat) (s : Ns) (ap : Option Addr) (cp : Nat) (ab : Option Addr) (cb : Nat) (X : List Bv) (w : World) : Prop where
  nx : Nx w g i (s.at_ : Int) ap s.n cp s.c s.sh
  po : w.ownsRow (g + 1) 3 1 (.slice ap s.n cp) s.n (il s.P)
  c10 : w.cell? ⟨g, 10, none⟩ = some (.pointer (some ⟨t, 0, none⟩))
  c11 : w.cell? ⟨g, 11, none⟩ = some (.slice ba bn bc)
  c12 : w.cell? ⟨g, 12, none⟩ = some (.slice ab s.n cb)
  bo : w.ownsRow (g + 1) 63 11 (.slice ab s.n cb) s.n (bls X)
  xs : Xs w b s.P X
  far : ∀ (j : Nat) (x : Bv), X[j]? = some x → ∀ q, blk x.a = some q → g < q ∧ blk ap ≠ some q ∧ blk ab ≠ some q ∧ q < w.heap.size
  d : ∀ q, blk ap = some q → blk ab ≠ some q
  bel : Below g w0 w
  ok : NsOk b s
section
variable {w0 w w' : World} {g t : Nat} {i : Inf.If} {b : List Nat} {ba : Option Addr} {bn bc : Nat} {s : Ns} {ap : Option Addr} {cp : Nat} {ab : Option Addr} {cb : Nat} {X : List Bv}
set_option maxRecDepth 100000 in
theorem Xs.keep {P : List Int} (h : Xs w b P X) (hb : Below w.heap.size w w') : Xs w' b P X :=
  ⟨h.len, fun j x hj => by
    obtain ⟨a, ha, k⟩ := h.ok j x hj
    exact ⟨a, ha, k.h, k.n, k.p.keep hb, k.s, k.e⟩⟩
set_option maxRecDepth 100000 in
theorem RdI.more (h : RdI w0 g t i b ba bn bc s ap cp ab cb X w) (hb : Below w.heap.size w w') : RdI w0 g t i b ba bn bc s ap cp ab cb X w' :=
  ⟨h.nx.below hb h.nx.lt, ownsRow_block h.po fun q hq => hb.block q (own_in h.po q hq).2, (hb.cell (p := ⟨g, 10, none⟩) h.nx.lt).trans h.c10, (hb.cell (p := ⟨g, 11, none⟩) h.nx.lt).trans h.c11, (hb.cell (p := ⟨g, 12, none⟩) h.nx.lt).trans h.c12,
    ownsRow_block h.bo fun q hq => hb.block q (h.bo.lt q (by rw [ownBlock_slice]; exact hq)).2, h.xs.keep hb, fun j x hj q hq => ⟨(h.far j x hj q hq).1, (h.far j x hj q hq).2.1, (h.far j x hj q hq).2.2.1, Nat.lt_of_lt_of_le (h.far j x hj q hq).2.2.2 hb.size⟩, h.d, h.bel.trans (hb.mono (Nat.le_of_lt h.nx.lt)), h.ok⟩
end
set_option maxRecDepth 100000 in
theorem Nx.far {w : World} {g : Nat} {i : Inf.If} {at_ : Int} {a : Option Addr} {n cap : Nat} {c : Int} {sh : Bool} (h : Nx w g i at_ a n cap c sh) {j : Nat} (hj : 10 ≤ j) (u : Value) : Nx (w.setCell ⟨g, j, none⟩ u) g i at_ a n cap c sh := by
  refine ⟨?_, ?_, ?_, ?_, ?_, ?_, ?_, ?_, ?_, ?_, fun j => by rw [World.frozen?_setCell]; exact h.fz j⟩
  · rw [World.cell?_setCell_other _ _ _ _ (by intro e; injection e with e1 e2; omega)]; exact h.c0
  · rw [World.cell?_setCell_other _ _ _ _ (by intro e; injection e with e1 e2; omega)]; exact h.c1
  · rw [World.cell?_setCell_other _ _ _ _ (by intro e; injection e with e1 e2; omega)]; exact h.c2
  · rw [World.cell?_setCell_other _ _ _ _ (by intro e; injection e with e1 e2; omega)]; exact h.c3
  · rw [World.cell?_setCell_other _ _ _ _ (by intro e; injection e with e1 e2; omega)]; exact h.c4
  · rw [World.cell?_setCell_other _ _ _ _ (by intro e; injection e with e1 e2; omega)]; exact h.c5
  · rw [World.cell?_setCell_other _ _ _ _ (by intro e; injection e with e1 e2; omega)]; exact h.c6
  · rw [World.cell?_setCell_other _ _ _ _ (by intro e; injection e with e1 e2; omega)]; exact h.c7
  · rw [World.cell?_setCell_other _ _ _ _ (by intro e; injection e with e1 e2; omega)]; exact h.c8
  · rw [World.cell?_setCell_other _ _ _ _ (by intro e; injection e with e1 e2; omega)]; exact h.c9
set_option maxRecDepth 100000 in
theorem info63 : (Tryz.prog.info? 63).map (fun i => (i.zero, i.size, i.bytes)) = some (some (.agg #[.int .i64 0, .int .i64 0, .int .i64 0, .int .i64 0, .int .i64 0, .bool false, .int .u32 0, .int .i64 0, .slice none 0 0, .int .u32 0, .int .i64 0]), 11, 96) := by kernel_rfl
set_option maxRecDepth 100000 in
theorem size63 : (Tryz.prog.info? 63).map (·.size) = some 11 := by kernel_rfl
end Go.Proofs.YthjjonbkfkpkmaaGreatDoor.Fil
