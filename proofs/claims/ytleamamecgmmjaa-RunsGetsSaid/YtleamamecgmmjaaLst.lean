/- The document's own lists of bits: Below, Put, Many, Align over them: what they answer, over the number that the bits are, and that nothing that was there has turned. Conditions: fewer than 2^40 bits; Many at most 2^20. -/
import Derived.Test.YtleamamecgmmjaaRef
import Derived.Test.YtleamamecgmmjaaRd2
import Derived.Laws.AppendOwnNone
namespace Go.Proofs.Ytleamamecgmmjaa.Bit
open Go.RowKit

/-- The L bits of N as ints. -/
def bitl (N L : Nat) : List Value := (List.range L).map fun i => .int .i64 (bitOf N L i : Int)
theorem bitl_len (N L : Nat) : (bitl N L).length = L := by simp [bitl]
theorem bitl_at (N L i : Nat) (h : i < L) : (bitl N L)[i]? = some (.int .i64 (bitOf N L i : Int)) := by simp [bitl, h]
theorem bitl_app (N L v n : Nat) (hv : v < 2 ^ n) : bitl (N * 2 ^ n + v) (L + n) = bitl N L ++ bitl v n := by
  apply List.ext_getElem?
  intro j
  by_cases h1 : j < L
  · rw [List.getElem?_append_left (by rw [bitl_len]; exact h1), bitl_at _ _ _ (by omega), bitl_at _ _ _ h1]
    unfold bitOf
    rw [show L + n - 1 - j = n + (L - 1 - j) from by omega, Nat.pow_add, ← Nat.div_div_eq_div_mul, Nat.mul_comm, Nat.mul_add_div (Nat.two_pow_pos n), Nat.div_eq_of_lt hv, Nat.add_zero]
  · rw [List.getElem?_append_right (by rw [bitl_len]; omega), bitl_len]
    by_cases h2 : j < L + n
    · rw [bitl_at _ _ _ h2, bitl_at _ _ _ (by omega)]
      unfold bitOf
      have e1 : n - 1 - (j - L) = L + n - 1 - j := by omega
      have e2 : 2 ^ n = 2 ^ (L + n - 1 - j) * (2 * 2 ^ (j - L)) := by
        rw [← Nat.pow_succ', ← Nat.pow_add]; congr 1; omega
      rw [e1, e2, ← Nat.mul_assoc N, Nat.mul_right_comm, Nat.mul_comm (N * _), Nat.mul_add_div (Nat.two_pow_pos _)]
      rw [show N * (2 * 2 ^ (j - L)) = 2 * (N * 2 ^ (j - L)) from by rw [Nat.mul_left_comm], Nat.mul_add_mod]
    · rw [List.getElem?_eq_none (by rw [bitl_len]; omega), List.getElem?_eq_none (by rw [bitl_len]; omega)]

/-- append(dst, src...) where dst is the call's own and src whatever slice of one-cell elements. -/
theorem wpList_append_list {P : Program} {ops : Array Oper} {o : Oper} {a : Act} {Q : Exit → Act → World → Prop} (w : World) {rest : List Oper} (hgd : o.guard = none) (s x : Operand) (t : TypeId)
    (hop : o.op = .call { callee := .builtin .append, args := #[s, x], argTypes := #[t, t] })
    (base : Nat) (e : TypeId) (i : TypeInfo) (z : Value) (bytes : Nat) (h1 : P.underlying t = some (.slice e)) (h2 : P.info? e = some i) (h3 : i.zero = some z)
    (h4 : i.size = 1) (h5 : i.bytes = bytes) (h6 : z.cells.size = 1)
    (ao : Option Addr) (n cap : Nat) (xs : List Value) (hs : a.eval s = .slice ao n cap) (hown : w.ownsRow base e 1 (.slice ao n cap) n xs)
    (bo : Option Addr) (m c : Nat) (news : List Value) (hx : a.eval x = .slice bo m c) (hl : news.length = m) (hnone : bo = none → m = 0 ∧ c = 0) (hc : ∀ ad, bo = some ad → ∀ j u, news[j]? = some u → w.cell? (ad.add j) = some u) (hu : ∀ u ∈ news, u.oneCell' = true)
    (b1 : n + m ≤ maxLen) (b2 : (n + m) * bytes ≤ 140737488355328) (hbase : base ≤ w.heap.size)
    (hK : ∀ ao' cap' w', w'.ownsRow base e 1 (.slice ao' (n + m) cap') (n + m) (xs ++ news) → w.grownBy w' (blk ao) → (blk ao' = blk ao ∨ ∀ g, blk ao' = some g → w.heap.size ≤ g) → wpList P ops Q rest (a.put o.dst (.slice ao' (n + m) cap')) w') :
    wpList P ops Q (o :: rest) a w := by
  cases bo with
  | none =>
    obtain ⟨rfl, rfl⟩ := hnone rfl
    obtain rfl : news = [] := List.eq_nil_of_length_eq_zero hl
    refine wpList_append_own_none hgd s x t hop base e i 1 h1 h2 (.slice ao n cap) n xs hs hown hx ?_
    have := hK ao cap w (by simpa using hown) (World.grownBy.refl _ _) (.inl rfl)
    simpa using this
  | some ad =>
    by_cases hm : m = 0
    · subst hm
      obtain rfl : news = [] := List.eq_nil_of_length_eq_zero hl
      rcases ownsRow_at hown with ⟨rfl, rfl, rfl, rfl⟩ | ⟨g, rfl⟩
      · refine wpList_plain hgd fun K hK' => ?_
        obtain ⟨v', w', hrun, r1, r2, r3⟩ := run_append_own (P := P) w base t o.type e i z 1 bytes h1 h2 h3 h4 h5 h6 (by decide) (.slice none 0 0) 0 [] (World.ownsRow_nil w _ e 1) ad 0 c [] rfl (by simp) (by simp) b1 b2 hbase
        obtain rfl : v' = .slice none 0 0 := r3.2 ⟨rfl, rfl⟩
        unfold Oper.wp
        simp [execOp, hop, resolve, invoke, builtin, hs, hx, hrun, Result.andThen]
        exact hK' _ _ (hK none 0 w' r1 r2 (.inl rfl))
      · have hnc : n ≤ cap := by
          obtain ⟨_, ho⟩ := hown
          rcases ho with ⟨hv, _⟩ | ⟨_, _, _, hv, _, _, h, _⟩
          · cases hv
          · cases hv; exact h
        exact wpList_append_fits w hgd s x t hop base e i 1 h1 h2 h4 g n cap xs hs hown ad 0 c [] hx rfl (by simp) (by simp) (by omega) fun w' r1 r2 => hK _ _ _ r1 r2 (.inl rfl)
    · refine wpList_append_lies w hgd s x t hop base e i z 1 bytes h1 h2 h3 h4 h5 h6 (by decide) (.slice ao n cap) n xs hs hown ad m c news hx (by omega) (hc ad rfl) hu (by omega) b1 b2 hbase w.heap.size rfl fun g cap' w' r1 r2 r3 _ => ?_
      rw [ownBlock_slice] at r2 r3
      refine hK _ _ _ r1 r2 ?_
      rcases r3 with r3 | rfl
      · exact .inl (by rw [r3]; rfl)
      · exact .inr fun g' hg' => by simp [blk] at hg'; omega

/-- A list of bits of the call's own, in memory. -/
def Lst (w : World) (B : Nat) (lo : Option Addr) (lcap N L : Nat) : Prop := w.ownsRow B 3 1 (.slice lo L lcap) L (bitl N L)
theorem Lst.none' {w : World} {B : Nat} {lo : Option Addr} {lcap N L : Nat} (h : Lst w B lo lcap N L) : lo = none → L = 0 ∧ lcap = 0 := by
  intro e
  rcases ownsRow_at h with ⟨_, h1, h2, _⟩ | ⟨g, h1⟩
  · exact ⟨h1, h2⟩
  · rw [e] at h1; cases h1
theorem Lst.cells {w : World} {B : Nat} {lo : Option Addr} {lcap N L : Nat} (h : Lst w B lo lcap N L) : ∀ ad, lo = some ad → ∀ j u, (bitl N L)[j]? = some u → w.cell? (ad.add j) = some u := by
  intro ad e j u hj
  rcases ownsRow_at h with ⟨h1, _⟩ | ⟨g, h1⟩
  · rw [e] at h1; cases h1
  · rw [e] at h1; cases h1
    rw [Addr.add_lit, Nat.zero_add]
    subst e
    exact ownsRow_cell h j u hj
theorem Lst.lt {w : World} {B : Nat} {lo : Option Addr} {lcap N L : Nat} (h : Lst w B lo lcap N L) : ∀ g, blk lo = some g → B ≤ g ∧ g < w.heap.size := fun g hg => World.ownsRow.lt h g (by rw [ownBlock_slice]; exact hg)
theorem Lst.upto {w w' : World} {B : Nat} {lo : Option Addr} {lcap N L : Nat} (h : Lst w B lo lcap N L) (hb : Below w.heap.size w w') : Lst w' B lo lcap N L := ownsRow_block h fun g hg => hb.block g (h.lt g hg).2
theorem bitl_one (N L : Nat) : ∀ u ∈ bitl N L, u.oneCell' = true := by
  intro u hu
  obtain ⟨i, _, rfl⟩ := List.mem_map.1 hu
  rfl

end Go.Proofs.Ytleamamecgmmjaa.Bit
