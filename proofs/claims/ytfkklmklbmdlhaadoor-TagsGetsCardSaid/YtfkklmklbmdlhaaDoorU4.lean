/- Rows of tags of a call's own: append, Clone; Set and Find: both sides. Conditions: at most 2^39 tags, texts of at most 2^40 bytes; for the program's the two tables of unicode/utf8. -/
import Derived.Test.YtfkklmklbmdlhaaDoorU2
import Derived.Lib.SliceRun
namespace Go.Proofs.YtfkklmklbmdlhaaDoor.Tg
open Go.RowKit Gen

/-- The cells of tags. -/
def flat : List Tag → List Value
  | [] => []
  | t :: l => .string t.k :: .string t.v :: flat l
theorem flat_len : ∀ l : List Tag, (flat l).length = l.length * 2
  | [] => rfl
  | t :: l => by show (flat l).length + 1 + 1 = (l.length + 1) * 2; rw [flat_len l]; omega
theorem flat_app : ∀ l m : List Tag, flat (l ++ m) = flat l ++ flat m
  | [], _ => rfl
  | t :: l, m => by show _ :: _ :: flat (l ++ m) = _; rw [flat_app l m]; rfl
theorem flat_k : ∀ (l : List Tag) (i : Nat) (t : Tag), l[i]? = some t → (flat l)[i * 2]? = some (.string t.k) ∧ (flat l)[i * 2 + 1]? = some (.string t.v)
  | [], i, t, h => by simp at h
  | u :: l, 0, t, h => by simp at h; subst h; exact ⟨rfl, rfl⟩
  | u :: l, i + 1, t, h => by
    have ih := flat_k l i t (by simpa using h)
    rw [show (i + 1) * 2 = i * 2 + 1 + 1 from by omega]
    exact ⟨ih.1, ih.2⟩
theorem flat_one : ∀ (l : List Tag), ∀ u ∈ flat l, u.oneCell' = true
  | [], u, h => by cases h
  | t :: l, u, h => by
    simp only [flat, List.mem_cons] at h
    rcases h with rfl | rfl | h
    · rfl
    · rfl
    · exact flat_one l u h
/-- A list as a function. -/
def gt (l : List Tag) (i : Nat) : Tag := l.getD i ⟨ByteArray.empty, ByteArray.empty⟩
theorem gt_at {l : List Tag} {i : Nat} (hi : i < l.length) : l[i]? = some (gt l i) := by unfold gt; simp [List.getD, hi]
/-- The first tags as a list. -/
def lst (T : Nat → Tag) (n : Nat) : List Tag := (List.range n).map T
theorem lst_len (T : Nat → Tag) (n : Nat) : (lst T n).length = n := by unfold lst; simp
theorem lst_at (T : Nat → Tag) (n i : Nat) (hi : i < n) : (lst T n)[i]? = some (T i) := by unfold lst; rw [List.getElem?_map, List.getElem?_range hi]; rfl
theorem gt_lst (T : Nat → Tag) (n i : Nat) (hi : i < n) : gt (lst T n) i = T i := by
  have h1 := gt_at (l := lst T n) (i := i) (by rw [lst_len]; exact hi)
  rw [lst_at T n i hi] at h1
  exact (Option.some.inj h1).symm
theorem lst_gt (l : List Tag) : lst (gt l) l.length = l := by
  apply List.ext_getElem?
  intro i
  by_cases hi : i < l.length
  · rw [lst_at _ _ _ hi, gt_at hi]
  · rw [List.getElem?_eq_none (by rw [lst_len]; omega), List.getElem?_eq_none (by omega)]

/-- A row of tags of a call's own. -/
def Ow (w : World) (B : Nat) (ao : Option Addr) (cap : Nat) (l : List Tag) : Prop := w.ownsRow B 30 2 (.slice ao l.length cap) l.length (flat l)
theorem own_at {w : World} {base : Nat} {e size : Nat} {ao : Option Addr} {n cap : Nat} {xs : List Value} (h : w.ownsRow base e size (.slice ao n cap) n xs) :
    (ao = none ∧ n = 0 ∧ cap = 0) ∨ ∃ g, ao = some ⟨g, 0, none⟩ ∧ base ≤ g ∧ g < w.heap.size ∧ n ≤ cap := by
  rcases h.2 with ⟨hv, h0⟩ | ⟨g, c, cur, hv, q1, q2, q3, _⟩
  · cases hv; exact .inl ⟨rfl, rfl, rfl⟩
  · cases hv
    refine .inr ⟨g, rfl, q1, ?_, q3⟩
    rcases Nat.lt_or_ge g w.heap.size with hlt | hge
    · exact hlt
    · rw [Array.getElem?_eq_none hge] at q2; cases q2
theorem Ow.cap {w : World} {B : Nat} {ao : Option Addr} {cap : Nat} {l : List Tag} (h : Ow w B ao cap l) : l.length ≤ cap := by
  rcases own_at h with ⟨_, h1, h2⟩ | ⟨_, _, _, _, h⟩
  · omega
  · exact h
theorem Ow.tb {w : World} {B : Nat} {ao : Option Addr} {cap : Nat} {l : List Tag} (h : Ow w B ao cap l) : ∃ b, Tb w ao l.length b 0 (gt l) ∧ (0 < l.length → B ≤ b) ∧ (ao = none ∨ ao = some ⟨b, 0, none⟩) := by
  rcases own_at h with ⟨rfl, h1, h2⟩ | ⟨g, rfl, hB, hlt, _⟩
  · exact ⟨0, ⟨by omega, by omega, by omega, by omega⟩, by omega, .inl rfl⟩
  · refine ⟨g, ⟨fun _ => rfl, fun i hi => ?_, fun i hi => ?_, fun _ => hlt⟩, fun _ => hB, .inr rfl⟩
    · have := h.cellAt (i * 2) (by omega)
      rw [(flat_k l i _ (gt_at hi)).1] at this
      rw [Nat.zero_add]; exact this
    · have := h.cellAt (i * 2 + 1) (by omega)
      rw [(flat_k l i _ (gt_at hi)).2] at this
      rw [Nat.zero_add]; exact this
theorem own_block {w w' : World} {base e size : Nat} {ao : Option Addr} {n cap : Nat} {xs : List Value} (h : w.ownsRow base e size (.slice ao n cap) n xs)
    (hb : ∀ g, blk ao = some g → w'.heap[g]? = w.heap[g]?) : w'.ownsRow base e size (.slice ao n cap) n xs := by
  obtain ⟨hl, h⟩ := h
  rcases h with h | ⟨g, c, cur, hv, q1, q2, q3⟩
  · exact ⟨hl, .inl h⟩
  · refine ⟨hl, .inr ⟨g, c, cur, hv, q1, ?_, q3⟩⟩
    cases hv
    rw [hb g rfl]; exact q2
theorem Ow.keep {w w' : World} {B : Nat} {ao : Option Addr} {cap : Nat} {l : List Tag} (h : Ow w B ao cap l) (hb : Below w.heap.size w w') : Ow w' B ao cap l :=
  own_block h (fun g hg => hb.block g (by
    rcases own_at h with ⟨rfl, _, _⟩ | ⟨g', rfl, _, hlt, _⟩
    · simp [blk] at hg
    · simp [blk] at hg; omega))

/-- append(dst, src...) where dst is the call's own, of elements of whatever size. -/
theorem wpList_append_rows {P : Program} {ops : Array Oper} {o : Oper} {a : Act} {Q : Exit → Act → World → Prop} (w : World) {rest : List Oper} (hgd : o.guard = none) (s x : Operand) (t : TypeId)
    (hop : o.op = .call { callee := .builtin .append, args := #[s, x], argTypes := #[t, t] })
    (base : Nat) (e : TypeId) (i : TypeInfo) (z : Value) (size bytes : Nat) (h1 : P.underlying t = some (.slice e)) (h2 : P.info? e = some i) (h3 : i.zero = some z)
    (h4 : i.size = size) (h5 : i.bytes = bytes) (h6 : z.cells.size = size) (h0 : 0 < size)
    (ao : Option Addr) (n cap : Nat) (xs : List Value) (hs : a.eval s = .slice ao n cap) (hown : w.ownsRow base e size (.slice ao n cap) n xs)
    (bo : Option Addr) (m c : Nat) (news : List Value) (hx : a.eval x = .slice bo m c) (hl : news.length = m * size) (hnone : bo = none → m = 0 ∧ c = 0) (hc : ∀ ad, bo = some ad → ∀ j u, news[j]? = some u → w.cell? (ad.add j) = some u) (hu : ∀ u ∈ news, u.oneCell' = true)
    (b1 : n + m ≤ maxLen) (b2 : (n + m) * bytes ≤ 140737488355328) (hbase : base ≤ w.heap.size)
    (hK : ∀ ao' cap' w', w'.ownsRow base e size (.slice ao' (n + m) cap') (n + m) (xs ++ news) → w.grownBy w' (blk ao) → (blk ao' = blk ao ∨ ∀ g, blk ao' = some g → w.heap.size ≤ g) → wpList P ops Q rest (a.put o.dst (.slice ao' (n + m) cap')) w') :
    wpList P ops Q (o :: rest) a w := by
  have hnil : ∀ {y : List Value}, y.length = 0 * size → y = [] := fun {y} h => List.eq_nil_of_length_eq_zero (by rw [h]; exact Nat.zero_mul _)
  cases bo with
  | none =>
    obtain ⟨rfl, rfl⟩ := hnone rfl
    obtain rfl : news = [] := hnil hl
    refine wpList_append_own_none hgd s x t hop base e i size h1 h2 (.slice ao n cap) n xs hs hown hx ?_
    have := hK ao cap w (by simpa using hown) (World.grownBy.refl _ _) (.inl rfl)
    simpa using this
  | some ad =>
    by_cases hm : m = 0
    · subst hm
      obtain rfl : news = [] := hnil hl
      rcases own_at hown with ⟨rfl, rfl, rfl⟩ | ⟨g, rfl, _, _, hnc⟩
      · obtain rfl : xs = [] := hnil hown.1
        refine wpList_plain hgd fun K hK' => ?_
        obtain ⟨v', w', hrun, r1, r2, r3⟩ := run_append_own (P := P) w base t o.type e i z size bytes h1 h2 h3 h4 h5 h6 h0 (.slice none 0 0) 0 [] (World.ownsRow_nil w _ e size) ad 0 c [] (by simp) (by simp) (by simp) b1 b2 hbase
        obtain rfl : v' = .slice none 0 0 := r3.2 ⟨rfl, rfl⟩
        unfold Oper.wp
        simp [execOp, hop, resolve, invoke, builtin, hs, hx, hrun, Result.andThen]
        exact hK' _ _ (hK none 0 w' r1 r2 (.inl rfl))
      · exact wpList_append_fits w hgd s x t hop base e i size h1 h2 h4 g n cap xs hs hown ad 0 c [] hx (by simp) (by simp) (by simp) (by omega) fun w' r1 r2 => hK _ _ _ r1 r2 (.inl rfl)
    · refine wpList_append_lies w hgd s x t hop base e i z size bytes h1 h2 h3 h4 h5 h6 h0 (.slice ao n cap) n xs hs hown ad m c news hx hl (hc ad rfl) hu (by omega) b1 b2 hbase w.heap.size rfl fun g cap' w' r1 r2 r3 _ => ?_
      rw [ownBlock_slice] at r2 r3
      refine hK _ _ _ r1 r2 ?_
      rcases r3 with r3 | rfl
      · exact .inl (by rw [r3]; rfl)
      · exact .inr fun g' hg' => by simp [blk] at hg'; omega
end Go.Proofs.YtfkklmklbmdlhaaDoor.Tg
