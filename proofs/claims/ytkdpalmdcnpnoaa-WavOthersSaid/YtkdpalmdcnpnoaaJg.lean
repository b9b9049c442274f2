/- An append of a list that may be nil, as a step of a region that draws its order; what is read of two sounds ahead of an append. Conditions: those that each lemma names. -/
import Derived.Test.YtkdpalmdcnpnoaaJf
namespace Go.Proofs.Ytkdpalmdcnpnoaa.Pcm
open Go.RowKit Gen

set_option maxRecDepth 20000 in
theorem run_append_src {P : Program} (w : World) (t ty : TypeId)
    (base : Nat) (e : TypeId) (i : TypeInfo) (z : Value) (bytes : Nat) (h1 : P.underlying t = some (.slice e)) (h2 : P.info? e = some i) (h3 : i.zero = some z)
    (h4 : i.size = 1) (h5 : i.bytes = bytes) (h6 : z.cells.size = 1)
    (ao : Option Addr) (n cap : Nat) (xs : List Value) (hown : w.ownsRow base e 1 (.slice ao n cap) n xs)
    (bo : Option Addr) (m c : Nat) (news : List Value) (hl : news.length = m) (hnone : bo = none → m = 0) (hc : ∀ ad, bo = some ad → ∀ j u, news[j]? = some u → w.cell? (ad.add j) = some u) (hu : ∀ u ∈ news, u.oneCell' = true)
    (b1 : n + m ≤ maxLen) (b2 : (n + m) * bytes ≤ 140737488355328) (hbase : base ≤ w.heap.size) :
    ∃ ao' cap' w', (Builtin.append_ #[t, t] ty #[.slice ao n cap, .slice bo m c]).run P w = .ok (.slice ao' (n + m) cap') w' ∧
      w'.ownsRow base e 1 (.slice ao' (n + m) cap') (n + m) (xs ++ news) ∧ w.grownBy w' (blk ao) := by
  cases bo with
  | none =>
    obtain rfl := hnone rfl
    obtain rfl : news = [] := List.eq_nil_of_length_eq_zero hl
    exact ⟨ao, cap, w, run_append_owned_none (P := P) w base t ty e i 1 h1 h2 (.slice ao n cap) n xs hown, by simpa using hown, World.grownBy.refl _ _⟩
  | some ad =>
    obtain ⟨v', w', hrun, r1, r2, _⟩ := run_append_own (P := P) w base t ty e i z 1 bytes h1 h2 h3 h4 h5 h6 (by decide) (.slice ao n cap) n xs hown ad m c news (by omega) (hc ad rfl) hu b1 b2 hbase
    rw [ownBlock_slice] at r2
    obtain ⟨ao', cap', rfl⟩ : ∃ ao' cap', v' = .slice ao' (n + m) cap' := by
      rcases r1.2 with ⟨hv, h0⟩ | ⟨g, c', cur, hv, _⟩
      · exact ⟨none, 0, by rw [hv, h0]⟩
      · exact ⟨_, _, hv⟩
    exact ⟨ao', cap', w', hrun, r1, r2⟩

set_option maxRecDepth 20000 in
theorem step_append_src {P : Program} {ops : Array Oper} {o : Oper} {a : Act} {K : Act → World → Prop} {Q : Exit → Act → World → Prop} {w : World} {E : Prop} (hgd : o.guard = none) (s x : Operand) (t : TypeId)
    (hop : o.op = .call { callee := .builtin .append, args := #[s, x], argTypes := #[t, t] })
    (base : Nat) (e : TypeId) (i : TypeInfo) (z : Value) (bytes : Nat) (h1 : P.underlying t = some (.slice e)) (h2 : P.info? e = some i) (h3 : i.zero = some z)
    (h4 : i.size = 1) (h5 : i.bytes = bytes) (h6 : z.cells.size = 1)
    (ao : Option Addr) (n cap : Nat) (xs : List Value) (hs : a.eval s = .slice ao n cap) (hown : w.ownsRow base e 1 (.slice ao n cap) n xs)
    (bo : Option Addr) (m c : Nat) (news : List Value) (hx : a.eval x = .slice bo m c) (hl : news.length = m) (hnone : bo = none → m = 0) (hc : ∀ ad, bo = some ad → ∀ j u, news[j]? = some u → w.cell? (ad.add j) = some u) (hu : ∀ u ∈ news, u.oneCell' = true)
    (b1 : n + m ≤ maxLen) (b2 : (n + m) * bytes ≤ 140737488355328) (hbase : base ≤ w.heap.size)
    (hK : ∀ ao' cap' w', w'.ownsRow base e 1 (.slice ao' (n + m) cap') (n + m) (xs ++ news) → w.grownBy w' (blk ao) → K (a.put o.dst (.slice ao' (n + m) cap')) w') :
    if Region.wanted o (yielded ops a.tmps) = true then Oper.wp P o a w K Q else E := by
  have hw : Region.wanted o (yielded ops a.tmps) = true := by simp [Region.wanted, hgd]
  rw [if_pos hw]
  obtain ⟨ao', cap', w', hrun, r1, r2⟩ := run_append_src (P := P) w t o.type base e i z bytes h1 h2 h3 h4 h5 h6 ao n cap xs hown bo m c news hl hnone hc hu b1 b2 hbase
  unfold Oper.wp
  simp [execOp, hop, resolve, invoke, builtin, hs, hx, hrun, Result.andThen]
  exact hK ao' cap' w' r1 r2

set_option maxRecDepth 20000 in
theorem cat_two (X Y : Nat → Int) (n m j : Nat) (h : j < n + m) : (vl X n ++ vl Y m)[j]? = some (.int .i64 (cat X Y n j)) := by
  unfold cat
  by_cases hj : j < n
  · rw [if_pos hj, List.getElem?_append_left (by rw [vl_len]; exact hj), vl_get _ hj]
  · rw [if_neg hj, List.getElem?_append_right (by rw [vl_len]; omega), vl_len, vl_get _ (by omega)]

/-- What is read of two sounds and of the box p ahead of an append. -/
structure Rd2 (wr : World) (x p : Nat) (a b : Dat) (k : Nat) (lo : Option Addr) (lcap : Nat) : Prop where
  a3 : wr.cell? ⟨x, 3, none⟩ = some (.slice a.a a.n a.cap)
  b3 : wr.cell? ⟨x + 1, 3, none⟩ = some (.slice b.a b.n b.cap)
  ac : wr.cell? ⟨a.b, a.off + k, none⟩ = some (.slice (a.la k) (a.ln k) (a.lc k))
  bc : wr.cell? ⟨b.b, b.off + k, none⟩ = some (.slice (b.la k) (b.ln k) (b.lc k))
  p3 : wr.cell? ⟨p, 3, none⟩ = some (.slice lo k lcap)
set_option maxRecDepth 20000 in
theorem Rd2.below {wr w2 : World} {x p : Nat} {a b : Dat} {k : Nat} {lo : Option Addr} {lcap : Nat} (h : Rd2 wr x p a b k lo lcap) (hb : Below wr.heap.size wr w2) : Rd2 w2 x p a b k lo lcap :=
  ⟨(hb.cell (p := ⟨x, 3, none⟩) (World.block_lt_of_cell? _ _ h.a3)).trans h.a3, (hb.cell (p := ⟨x + 1, 3, none⟩) (World.block_lt_of_cell? _ _ h.b3)).trans h.b3, (hb.cell (p := ⟨a.b, _, none⟩) (World.block_lt_of_cell? _ _ h.ac)).trans h.ac, (hb.cell (p := ⟨b.b, _, none⟩) (World.block_lt_of_cell? _ _ h.bc)).trans h.bc, (hb.cell (p := ⟨p, 3, none⟩) (World.block_lt_of_cell? _ _ h.p3)).trans h.p3⟩

end Go.Proofs.Ytkdpalmdcnpnoaa.Pcm
