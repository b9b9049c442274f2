/- Rows of tags of a call's own: append, Clone; Set and Find: both sides. Conditions: at most 2^39 tags, texts of at most 2^40 bytes; for the program's the two tables of unicode/utf8. -/
import Derived.Test.YthjjonbkfkpkmaaGreatDoorY22
import Derived.Lib.SliceRun
import Derived.Test.YthjjonbkfkpkmaaGreatDoorY04
import Derived.Test.YthjjonbkfkpkmaaGreatDoorY03
import Derived.Lib.SlBytesConst
namespace Go.Proofs.YthjjonbkfkpkmaaGreatDoor.Tg
open Go.RowKit Gen

/-- The cells of tags. -/
def flat : List Tag → List Value
  | [] => []
  | t :: l => .string t.k :: .string t.v :: flat l
set_option maxRecDepth 100000 in
theorem flat_len : ∀ l : List Tag, (flat l).length = l.length * 2
  | [] => rfl
  | t :: l => by show (flat l).length + 1 + 1 = (l.length + 1) * 2; rw [flat_len l]; omega
set_option maxRecDepth 100000 in
theorem flat_app : ∀ l m : List Tag, flat (l ++ m) = flat l ++ flat m
  | [], _ => rfl
  | t :: l, m => by show _ :: _ :: flat (l ++ m) = _; rw [flat_app l m]; rfl
set_option maxRecDepth 100000 in
theorem flat_k : ∀ (l : List Tag) (i : Nat) (t : Tag), l[i]? = some t → (flat l)[i * 2]? = some (.string t.k) ∧ (flat l)[i * 2 + 1]? = some (.string t.v)
  | [], i, t, h => by simp at h
  | u :: l, 0, t, h => by simp at h; subst h; exact ⟨rfl, rfl⟩
  | u :: l, i + 1, t, h => by
    have ih := flat_k l i t (by simpa using h)
    rw [show (i + 1) * 2 = i * 2 + 1 + 1 from by omega]
    exact ⟨ih.1, ih.2⟩
set_option maxRecDepth 100000 in
theorem flat_one : ∀ (l : List Tag), ∀ u ∈ flat l, u.oneCell' = true
  | [], u, h => by cases h
  | t :: l, u, h => by
    simp only [flat, List.mem_cons] at h
    rcases h with rfl | rfl | h
    · rfl
    · rfl
    · exact flat_one l u h
/-- A list as a function. -/
def gt (l : List Tag) (i : Nat) : Tag := l.getD i ⟨ByteArray.empty, ByteArray.empty⟩
set_option maxRecDepth 100000 in
theorem gt_at {l : List Tag} {i : Nat} (hi : i < l.length) : l[i]? = some (gt l i) := by unfold gt; simp [List.getD, hi]
/-- The first tags as a list. -/
def lst (T : Nat → Tag) (n : Nat) : List Tag := (List.range n).map T
set_option maxRecDepth 100000 in
theorem lst_len (T : Nat → Tag) (n : Nat) : (lst T n).length = n := by unfold lst; simp
set_option maxRecDepth 100000 in
theorem lst_at (T : Nat → Tag) (n i : Nat) (hi : i < n) : (lst T n)[i]? = some (T i) := by unfold lst; rw [List.getElem?_map, List.getElem?_range hi]; rfl
set_option maxRecDepth 100000 in
theorem gt_lst (T : Nat → Tag) (n i : Nat) (hi : i < n) : gt (lst T n) i = T i := by
  have h1 := gt_at (l := lst T n) (i := i) (by rw [lst_len]; exact hi)
  rw [lst_at T n i hi] at h1
  exact (Option.some.inj h1).symm
set_option maxRecDepth 100000 in
theorem lst_gt (l : List Tag) : lst (gt l) l.length = l := by
  apply List.ext_getElem?
  intro i
  by_cases hi : i < l.length
  · rw [lst_at _ _ _ hi, gt_at hi]
  · rw [List.getElem?_eq_none (by rw [lst_len]; omega), List.getElem?_eq_none (by omega)]

/-- A row of tags of a call's own. -/
def Ow (w : World) (B : Nat) (ao : Option Addr) (cap : Nat) (l : List Tag) : Prop := w.ownsRow B 65 2 (.slice ao l.length cap) l.length (flat l)
set_option maxRecDepth 100000 in
theorem own_at {w : World} {base : Nat} {e size : Nat} {ao : Option Addr} {n cap : Nat} {xs : List Value} (h : w.ownsRow base e size (.slice ao n cap) n xs) :
    (ao = none ∧ n = 0 ∧ cap = 0) ∨ ∃ g, ao = some ⟨g, 0, none⟩ ∧ base ≤ g ∧ g < w.heap.size ∧ n ≤ cap := by
  rcases h.2 with ⟨hv, h0⟩ | ⟨g, c, cur, hv, q1, q2, q3, _⟩
  · cases hv; exact .inl ⟨rfl, rfl, rfl⟩
  · cases hv
    refine .inr ⟨g, rfl, q1, ?_, q3⟩
    rcases Nat.lt_or_ge g w.heap.size with hlt | hge
    · exact hlt
    · rw [Array.getElem?_eq_none hge] at q2; cases q2
set_option maxRecDepth 100000 in
theorem Ow.cap {w : World} {B : Nat} {ao : Option Addr} {cap : Nat} {l : List Tag} (h : Ow w B ao cap l) : l.length ≤ cap := by
  rcases own_at h with ⟨_, h1, h2⟩ | ⟨_, _, _, _, h⟩
  · omega
  · exact h
set_option maxRecDepth 100000 in
theorem Ow.tb {w : World} {B : Nat} {ao : Option Addr} {cap : Nat} {l : List Tag} (h : Ow w B ao cap l) : ∃ b, Tb w ao l.length b 0 (gt l) ∧ (0 < l.length → B ≤ b) ∧ (ao = none ∨ ao = some ⟨b, 0, none⟩) := by
  rcases own_at h with ⟨rfl, h1, h2⟩ | ⟨g, rfl, hB, hlt, _⟩
  · exact ⟨0, ⟨by omega, by omega, by omega, by omega⟩, by omega, .inl rfl⟩
  · refine ⟨g, ⟨fun _ => rfl, fun i hi => ?_, fun i hi => ?_, fun _ => hlt⟩, fun _ => hB, .inr rfl⟩
    · have := h.cellAt (i * 2) (by omega)
      rw [(flat_k l i _ (gt_at hi)).1] at this
      rw [Nat.zero_add]; exact this
    · have := h.cellAt (i * 2 + 1) (by omega)
      rw [(flat_k l i _ (gt_at hi)).2] at this
      rw [Nat.zero_add]; exact this
set_option maxRecDepth 100000 in
theorem own_block {w w' : World} {base e size : Nat} {ao : Option Addr} {n cap : Nat} {xs : List Value} (h : w.ownsRow base e size (.slice ao n cap) n xs)
    (hb : ∀ g, blk ao = some g → w'.heap[g]? = w.heap[g]?) : w'.ownsRow base e size (.slice ao n cap) n xs := by
  obtain ⟨hl, h⟩ := h
  rcases h with h | ⟨g, c, cur, hv, q1, q2, q3⟩
  · exact ⟨hl, .inl h⟩
  · refine ⟨hl, .inr ⟨g, c, cur, hv, q1, ?_, q3⟩⟩
    cases hv
    rw [hb g rfl]; exact q2
set_option maxRecDepth 100000 in
theorem Ow.keep {w w' : World} {B : Nat} {ao : Option Addr} {cap : Nat} {l : List Tag} (h : Ow w B ao cap l) (hb : Below w.heap.size w w') : Ow w' B ao cap l :=
  own_block h (fun g hg => hb.block g (by
    rcases own_at h with ⟨rfl, _, _⟩ | ⟨g', rfl, _, hlt, _⟩
    · simp [blk] at hg
    · simp [blk] at hg; omega))

set_option maxRecDepth 100000 in
/-- append(dst, src...) where dst is the call's own, of elements of whatever size. -/
theorem wpList_append_rows {P : Program} {ops : Array Oper} {o : Oper} {a : Act} {Q : Exit → Act → World → Prop} (w : World) {rest : List Oper} (hgd : o.guard = none) (s x : Operand) (t : TypeId)
    (hop : o.op = .call { callee := .builtin .append, args := #[s, x], argTypes := #[t, t] })
    (base : Nat) (e : TypeId) (i : TypeInfo) (z : Value) (size bytes : Nat) (h1 : P.underlying t = some (.slice e)) (h2 : P.info? e = some i) (h3 : i.zero = some z)
    (h4 : i.size = size) (h5 : i.bytes = bytes) (h6 : z.cells.size = size) (h0 : 0 < size)
    (ao : Option Addr) (n cap : Nat) (xs : List Value) (hs : a.eval s = .slice ao n cap) (hown : w.ownsRow base e size (.slice ao n cap) n xs)
    (bo : Option Addr) (m c : Nat) (news : List Value) (hx : a.eval x = .slice bo m c) (hl : news.length = m * size) (hnone : bo = none → m = 0 ∧ c = 0) (hc : ∀ ad, bo = some ad → ∀ j u, news[j]? = some u → w.cell? (ad.add j) = some u) (hu : ∀ u ∈ news, u.oneCell' = true)
    (b1 : n + m ≤ maxLen) (b2 : (n + m) * bytes ≤ 140737488355328) (hbase : base ≤ w.heap.size)
    (hK : ∀ ao' cap' w', w'.ownsRow base e size (.slice ao' (n + m) cap') (n + m) (xs ++ news) → w.grownBy w' (blk ao) → (blk ao' = blk ao ∨ ∀ g, blk ao' = some g → w.heap.size ≤ g) → wpList P ops Q rest (a.put o.dst (.slice ao' (n + m) cap')) w') :
    wpList P ops Q (o :: rest) a w := by
  have hnil : ∀ {y : List Value}, y.length = 0 * size → y = [] := fun {y} h => List.eq_nil_of_length_eq_zero (by rw [h]; exact Nat.zero_mul _)
  cases bo with
  | none =>
    obtain ⟨rfl, rfl⟩ := hnone rfl
    obtain rfl : news = [] := hnil hl
    refine wpList_append_own_none hgd s x t hop base e i size h1 h2 (.slice ao n cap) n xs hs hown hx ?_
    have := hK ao cap w (by simpa using hown) (World.grownBy.refl _ _) (.inl rfl)
    simpa using this
  | some ad =>
    by_cases hm : m = 0
    · subst hm
      obtain rfl : news = [] := hnil hl
      rcases own_at hown with ⟨rfl, rfl, rfl⟩ | ⟨g, rfl, _, _, hnc⟩
      · obtain rfl : xs = [] := hnil hown.1
        refine wpList_plain hgd fun K hK' => ?_
        obtain ⟨v', w', hrun, r1, r2, r3⟩ := run_append_own (P := P) w base t o.type e i z size bytes h1 h2 h3 h4 h5 h6 h0 (.slice none 0 0) 0 [] (World.ownsRow_nil w _ e size) ad 0 c [] (by simp) (by simp) (by simp) b1 b2 hbase
        obtain rfl : v' = .slice none 0 0 := r3.2 ⟨rfl, rfl⟩
        unfold Oper.wp
        simp [execOp, hop, resolve, invoke, builtin, hs, hx, hrun, Result.andThen]
        exact hK' _ _ (hK none 0 w' r1 r2 (.inl rfl))
      · exact wpList_append_fits w hgd s x t hop base e i size h1 h2 h4 g n cap xs hs hown ad 0 c [] hx (by simp) (by simp) (by simp) (by omega) fun w' r1 r2 => hK _ _ _ r1 r2 (.inl rfl)
    · refine wpList_append_lies w hgd s x t hop base e i z size bytes h1 h2 h3 h4 h5 h6 h0 (.slice ao n cap) n xs hs hown ad m c news hx hl (hc ad rfl) hu (by omega) b1 b2 hbase w.heap.size rfl fun g cap' w' r1 r2 r3 _ => ?_
      rw [ownBlock_slice] at r2 r3
      refine hK _ _ _ r1 r2 ?_
      rcases r3 with r3 | rfl
      · exact .inl (by rw [r3]; rfl)
      · exact .inr fun g' hg' => by simp [blk] at hg'; omega
end Go.Proofs.YthjjonbkfkpkmaaGreatDoor.Tg
namespace Go.Proofs.YthjjonbkfkpkmaaGreatDoor.Tg
open Go.RowKit Gen

set_option maxRecDepth 100000 in
theorem Tryz.info30 : (Tryz.prog.info? 65).map (fun i => (i.zero, i.size, i.bytes)) = some (some (.agg #[.string ⟨#[]⟩, .string ⟨#[]⟩]), 2, 32) := by kernel_rfl
set_option maxRecDepth 100000 in
theorem flat_get : ∀ (l : List Tag) (j : Nat) (u : Value), (flat l)[j]? = some u → ∃ i t, l[i]? = some t ∧ ((j = i * 2 ∧ u = .string t.k) ∨ (j = i * 2 + 1 ∧ u = .string t.v))
  | [], j, u, h => by simp [flat] at h
  | t :: l, 0, u, h => ⟨0, t, rfl, .inl ⟨rfl, by simpa [flat] using h.symm⟩⟩
  | t :: l, 1, u, h => ⟨0, t, rfl, .inr ⟨rfl, by simpa [flat] using h.symm⟩⟩
  | t :: l, j + 2, u, h => by
    obtain ⟨i, x, h1, h2⟩ := flat_get l j u (by simpa [flat] using h)
    refine ⟨i + 1, x, h1, ?_⟩
    rcases h2 with ⟨e, hu⟩ | ⟨e, hu⟩
    · exact .inl ⟨by omega, hu⟩
    · exact .inr ⟨by omega, hu⟩
set_option maxRecDepth 100000 in
theorem Tb.cells {w : World} {a : Option Addr} {len b off : Nat} {T : Nat → Tag} (h : Tb w a len b off T) : ∀ ad, a = some ad → ∀ j u, (flat (lst T len))[j]? = some u → w.cell? (ad.add j) = some u := by
  intro ad ha j u hj
  obtain ⟨i, t, h1, h2⟩ := flat_get _ _ _ hj
  have hi : i < len := by
    have := (List.getElem?_eq_some_iff.1 h1).1
    rwa [lst_len] at this
  rw [lst_at T len i hi] at h1
  cases h1
  have hab := h.addr (by omega)
  rw [ha] at hab
  cases hab
  rcases h2 with ⟨rfl, rfl⟩ | ⟨rfl, rfl⟩
  · rw [Addr.add_lit]; exact h.k i hi
  · rw [Addr.add_lit, ← Nat.add_assoc]; exact h.v i hi
set_option maxRecDepth 100000 in
theorem flat_set : ∀ (l : List Tag) (i : Nat) (t : Tag), flat (l.set i t) = ((flat l).set (i * 2) (.string t.k)).set (i * 2 + 1) (.string t.v)
  | [], i, t => rfl
  | u :: l, 0, t => rfl
  | u :: l, i + 1, t => by
    rw [show (i + 1) * 2 = i * 2 + 1 + 1 from by omega]
    show .string u.k :: .string u.v :: flat (l.set i t) = _
    rw [flat_set l i t]
    rfl
set_option maxRecDepth 100000 in
theorem fx_congr {p q : Nat → Bool} {n : Nat} (h : ∀ i, i < n → p i = q i) : fx p n = fx q n := by
  rcases fx_cases p n with ⟨h1, h2⟩ | ⟨k, h1, h2, h3, h4⟩
  · rw [h1, fx_none (fun i hi => by rw [← h i hi]; exact h2 i hi)]
  · rw [h1, fx_some (p := q) (k := k) (by rw [← h k h2]; exact h3) (fun i hi => by rw [← h i (by omega)]; exact h4 i hi) h2]
set_option maxRecDepth 100000 in
theorem lk_lst (T : Nat → Tag) (kf : ByteArray) (n : Nat) : fx (lk (gt (lst T n)) kf) n = fx (lk T kf) n := fx_congr fun i hi => by unfold lk; rw [gt_lst T n i hi]
set_option maxRecDepth 100000 in
theorem bel_new (w : World) (o : Obj) : Below w.heap.size w (w.alloc o) := (Below.refl _ _).alloc (Nat.le_refl _) _

/-- Tags with one that is so. -/
def stt (T : Nat → Tag) (len : Nat) (t : Tag) : List Tag := if fx (lk T (fold t.k)) len < 0 then lst T len ++ [t] else (lst T len).set (fx (lk T (fold t.k)) len).toNat t
/-- They, if they are right. -/
def okT (M : List Tag) : List Tag := if (chk (gt M) M.length).2 = 0 then M else []
/-- What a call of Set leaves. -/
def SetP (w : World) (M : List Tag) (e : Ending) (w' : World) : Prop := ∃ ao cap, e = .returned (.tuple #[.slice ao (okT M).length cap, .int .i64 (chk (gt M) M.length).2]) ∧ Ow w' w.heap.size ao cap (okT M) ∧ Below w.heap.size w w'
set_option maxRecDepth 100000 in
theorem Sz.app {T : Nat → Tag} {len : Nat} (h : Sz T len) {t : Tag} (hk : t.k.size ≤ 1099511627776) (hv : t.v.size ≤ 1099511627776) (hl : len ≤ 1073741824) : Sz (gt (lst T len ++ [t])) (lst T len ++ [t]).length := by
  have hg : ∀ i, i < len + 1 → gt (lst T len ++ [t]) i = if i < len then T i else t := by
    intro i hi
    unfold gt
    by_cases e : i < len
    · rw [if_pos e]; simp [List.getD, List.getElem?_append_left (show i < (lst T len).length by rw [lst_len]; exact e), lst_at T len i e]
    · obtain rfl : i = len := by omega
      rw [if_neg e]; simp [List.getD, lst_len]
  have hl2 : (lst T len ++ [t]).length = len + 1 := by rw [List.length_append, lst_len]; rfl
  rw [hl2]
  refine ⟨by omega, fun i hi => ?_, fun i hi => ?_⟩
  · rw [hg i hi]; split
    · exact h.k i (by assumption)
    · exact hk
  · rw [hg i hi]; split
    · exact h.v i (by assumption)
    · exact hv
set_option maxRecDepth 100000 in
theorem Sz.put {T : Nat → Tag} {len : Nat} (h : Sz T len) {t : Tag} (hk : t.k.size ≤ 1099511627776) (hv : t.v.size ≤ 1099511627776) (j : Nat) : Sz (gt ((lst T len).set j t)) ((lst T len).set j t).length := by
  have hl2 : ((lst T len).set j t).length = len := by rw [List.length_set, lst_len]
  have hg : ∀ i, i < len → gt ((lst T len).set j t) i = if j = i then t else T i := by
    intro i hi
    unfold gt
    by_cases e : j = i
    · subst e; rw [if_pos rfl]; simp [List.getD, lst_len, hi]
    · rw [if_neg e]; simp [List.getD, List.getElem?_set_ne e, lst_at T len i hi]
  rw [hl2]
  refine ⟨h.n, fun i hi => ?_, fun i hi => ?_⟩
  · rw [hg i hi]; split
    · exact hk
    · exact h.k i hi
  · rw [hg i hi]; split
    · exact hv
    · exact h.v i hi
set_option maxRecDepth 100000 in
theorem setp_ok {w w' : World} {M : List Tag} {ao : Option Addr} {cap : Nat} (hc : (chk (gt M) M.length).2 = 0) (ho : Ow w' w.heap.size ao cap M) (hb : Below w.heap.size w w') : SetP w M (.returned (.tuple #[.slice ao M.length cap, .int .i64 0])) w' := by
  have e : okT M = M := by unfold okT; rw [if_pos hc]
  refine ⟨ao, cap, ?_, by rw [e]; exact ho, hb⟩
  rw [e, hc]
set_option maxRecDepth 100000 in
theorem setp_no {w w' : World} {M : List Tag} {c : Int} (hc : c = (chk (gt M) M.length).2) (h0 : ¬ c = 0) (hb : Below w.heap.size w w') : SetP w M (.returned (.tuple #[.slice none 0 0, .int .i64 c])) w' := by
  subst hc
  have e : okT M = [] := by unfold okT; rw [if_neg h0]
  refine ⟨none, 0, ?_, by rw [e]; exact World.ownsRow_nil _ _ _ _, hb⟩
  rw [e]; rfl
end Go.Proofs.YthjjonbkfkpkmaaGreatDoor.Tg
namespace Go.Proofs.YthjjonbkfkpkmaaGreatDoor.Tg
open Go.RowKit Gen Fld
open Crc hiding hid

/-- The sum of bytes. -/
def cs (l : List Nat) : Nat := sm (fun i => l.getD i 0) l.length 0
set_option maxRecDepth 100000 in
theorem getD_lt {l : List Nat} (h : ∀ b ∈ l, b < 256) (i : Nat) : l.getD i 0 < 256 := by
  by_cases hi : i < l.length
  · rw [List.getD_eq_getElem?_getD, List.getElem?_eq_getElem hi]; exact h _ (List.getElem_mem hi)
  · rw [List.getD_eq_getElem?_getD, List.getElem?_eq_none (by omega)]; decide
set_option maxRecDepth 100000 in
theorem cs_lt {l : List Nat} (h : ∀ b ∈ l, b < 256) : cs l < 4294967296 := sm_lt (getD_lt h) _ _ (by decide)
set_option maxRecDepth 100000 in
theorem byts_f {w : World} {a : Option Addr} {l : List Nat} (h : Byts w a l) : Bytf w a l.length (fun i => l.getD i 0) :=
  ⟨getD_lt h.lt, fun j hj => by
    obtain ⟨b, off, e, hc⟩ := h.at_ j (l[j]) (List.getElem?_eq_getElem hj)
    refine ⟨b, off, e, ?_⟩
    rw [hc, List.getD_eq_getElem?_getD, List.getElem?_eq_getElem hj]; rfl⟩
set_option maxRecDepth 100000 in
theorem tsum_any {w : World} {g : Nat} (h : Tab w g) {a : Option Addr} {l : List Nat} {cap : Nat} (hb : Byts w a l) (hl : l.length ≤ 1099511627776) :
    Calls Tryz.prog 51 #[.pointer (some ⟨g, 0, none⟩), .slice a l.length cap] w fun e w' => e = .returned (.int .u32 (cs l : Int)) ∧ w = w' := sum_any h (byts_f hb) hl
set_option maxRecDepth 100000 in
theorem rcsum_any {w : World} {a : Option Addr} {l : List Nat} {cap : Nat} (hb : Byts w a l) (hl : l.length ≤ 1099511627776) :
    Calls Tryz.prog 45 #[.slice a l.length cap] w fun e w' => e = .returned (.int .u32 (cs l : Int)) ∧ w = w' := rsum_any (byts_f hb) hl
set_option maxRecDepth 100000 in
theorem uerr_four (v : Nat) (h : v < 4294967296) : uErr v 4 = 0 := by
  unfold uErr
  rw [if_neg (by omega), if_neg]
  have : (2 : Nat) ^ (8 * (4 : Int).toNat) = 4294967296 := by decide
  omega
set_option maxRecDepth 100000 in
theorem uerr_one (v : Nat) (h : v < 256) : uErr v 1 = 0 := by
  unfold uErr
  rw [if_neg (by omega), if_neg]
  have : (2 : Nat) ^ (8 * (1 : Int).toNat) = 256 := by decide
  omega
set_option maxRecDepth 100000 in
theorem uerr_two (v : Nat) (h : v < 65536) : uErr v 2 = 0 := by
  unfold uErr
  rw [if_neg (by omega), if_neg]
  have : (2 : Nat) ^ (8 * (2 : Int).toNat) = 65536 := by decide
  omega

/-- A tag's bytes. -/
def tby (t : Tag) : List Nat := le t.k.size 1 ++ sb t.k ++ (le t.v.size 2 ++ sb t.v)
/-- Those of all tags. -/
def tbs : List Tag → List Nat
  | [] => []
  | t :: l => tby t ++ tbs l
set_option maxRecDepth 100000 in
theorem tbs_app : ∀ l m : List Tag, tbs (l ++ m) = tbs l ++ tbs m
  | [], _ => rfl
  | t :: l, m => by show tby t ++ tbs (l ++ m) = _; rw [tbs_app l m, ← List.append_assoc]; rfl
/-- What the sum is of. -/
def bod (l : List Tag) : List Nat := [84, 71] ++ le l.length 1 ++ tbs l
/-- The bytes of tags. -/
def pby (l : List Tag) : List Nat := bod l ++ le (cs (bod l)) 4
set_option maxRecDepth 100000 in
theorem tby_lt (t : Tag) : ∀ b ∈ tby t, b < 256 := by
  intro b hb
  unfold tby at hb
  simp only [List.mem_append] at hb
  rcases hb with (hb | hb) | (hb | hb)
  · exact le_lt _ _ b hb
  · exact sb_lt _ b hb
  · exact le_lt _ _ b hb
  · exact sb_lt _ b hb
set_option maxRecDepth 100000 in
theorem tbs_lt : ∀ (l : List Tag), ∀ b ∈ tbs l, b < 256
  | [], b, hb => by cases hb
  | t :: l, b, hb => by
    rcases List.mem_append.1 hb with hb | hb
    · exact tby_lt t b hb
    · exact tbs_lt l b hb
set_option maxRecDepth 100000 in
theorem bod_lt (l : List Tag) : ∀ b ∈ bod l, b < 256 := by
  intro b hb
  unfold bod at hb
  simp only [List.mem_append] at hb
  rcases hb with (hb | hb) | hb
  · simp at hb; omega
  · exact le_lt _ _ b hb
  · exact tbs_lt l b hb
set_option maxRecDepth 100000 in
theorem pby_lt (l : List Tag) : ∀ b ∈ pby l, b < 256 := by
  intro b hb
  rcases List.mem_append.1 hb with hb | hb
  · exact bod_lt l b hb
  · exact le_lt _ _ b hb
/-- A tag's texts are short enough for its fields. -/
def Ft (t : Tag) : Prop := t.k.size < 256 ∧ t.v.size < 65536
set_option maxRecDepth 100000 in
theorem tby_len (t : Tag) : (tby t).length = t.k.size + t.v.size + 3 := by
  unfold tby
  simp only [List.length_append, le_len, sb_len]
  omega
set_option maxRecDepth 100000 in
theorem tbs_len : ∀ (l : List Tag), (∀ t ∈ l, Ft t) → (tbs l).length ≤ l.length * 65794
  | [], _ => Nat.zero_le _
  | t :: l, h => by
    have h1 := tbs_len l (fun x hx => h x (by simp [hx]))
    have h2 := h t (by simp)
    unfold Ft at h2
    show (tby t ++ tbs l).length ≤ (l.length + 1) * 65794
    rw [List.length_append, tby_len]
    omega
end Go.Proofs.YthjjonbkfkpkmaaGreatDoor.Tg
namespace Go.Proofs.YthjjonbkfkpkmaaGreatDoor.Tg
open Go.RowKit Gen Fld
open Crc hiding hid

/-- Bytes in new memory. -/
structure NL (w : World) (ao : Option Addr) (cap : Nat) (l : List Nat) (w' : World) : Prop where
  own : w'.ownsRow w.heap.size 5 1 (.slice ao l.length cap) l.length (bl l)
  bel : Below w.heap.size w w'
  lt : ∀ b ∈ l, b < 256
set_option maxRecDepth 100000 in
theorem NL.byts {w w' : World} {ao : Option Addr} {cap : Nat} {l : List Nat} (h : NL w ao cap l w') : Byts w' ao l := Byts.of_row h.lt h.own
set_option maxRecDepth 100000 in
theorem NL.cap {w w' : World} {ao : Option Addr} {cap : Nat} {l : List Nat} (h : NL w ao cap l w') : l.length ≤ cap := by
  rcases own_at h.own with ⟨_, h1, h2⟩ | ⟨_, _, _, _, h⟩
  · omega
  · exact h
set_option maxRecDepth 100000 in
theorem NL.nil {w w' : World} {ao : Option Addr} {cap : Nat} {l : List Nat} (h : NL w ao cap l w') : ao = none → l.length = 0 ∧ cap = 0 := fun e => by
  rcases own_at h.own with ⟨_, h1, h2⟩ | ⟨g, h1, _⟩
  · exact ⟨h1, h2⟩
  · rw [e] at h1; cases h1
set_option maxRecDepth 100000 in
theorem own_mono2 {w : World} {base base' : Nat} {e size : Nat} {v : Value} {n : Nat} {xs : List Value} (h : w.ownsRow base e size v n xs) (hb : base' ≤ base) : w.ownsRow base' e size v n xs :=
  ⟨h.1, h.2.imp id fun ⟨g, cap, cur, h1, h2, h3⟩ => ⟨g, cap, cur, h1, Nat.le_trans hb h2, h3⟩⟩
def PutP (w : World) (x : Int) (l : List Nat) (e : Ending) (w' : World) : Prop := ∃ ao cap, e = .returned (.tuple #[.slice ao l.length cap, .int .i64 x]) ∧ NL w ao cap l w'
set_option maxRecDepth 100000 in
theorem putp_none {w w' : World} (x : Int) (h : Below w.heap.size w w') : PutP w x [] (.returned (.tuple #[.slice none 0 0, .int .i64 x])) w' := ⟨none, 0, rfl, World.ownsRow_nil _ _ _ _, h, fun _ h => by cases h⟩
set_option maxRecDepth 100000 in
theorem byts_two (w : World) : Byts (w.alloc (.cells #[.int .u8 84, .int .u8 71] 5 (2, 3))) (some ⟨w.heap.size, 0, none⟩) [84, 71] :=
  ⟨fun b hb => by have : b = 84 ∨ b = 71 := by simpa using hb
                  omega,
   fun j x hj => by
    refine ⟨w.heap.size, 0, rfl, ?_⟩
    rcases j with _ | _ | j
    · simp at hj; subst hj; unfold World.cell?; rw [heap_alloc_new]; rfl
    · simp at hj; subst hj; unfold World.cell?; rw [heap_alloc_new]; rfl
    · simp at hj⟩
set_option maxRecDepth 100000 in
theorem put_z (l m : List Nat) : put (0, l) 0 m = (0, l ++ m) := put_zero 0 l m rfl
/-- A maker, behind so many bytes, and a block that is none of its own. -/
def St (w1 : World) (l : List Nat) (wr : World) (bx : Nat) : Prop := ∃ ao cap, MkA wr w1.heap.size w1.heap.size ao cap 0 l ∧ Below w1.heap.size w1 wr ∧ (bx ≠ w1.heap.size ∧ blk ao ≠ some bx)
set_option maxRecDepth 100000 in
theorem St.step {w1 wr w' : World} {l m : List Nat} {bx e : Nat} {ao : Option Addr} {cap : Nat} (hm : MkA wr w1.heap.size w1.heap.size ao cap 0 l) (hb : Below w1.heap.size w1 wr) (hx : bx ≠ w1.heap.size ∧ blk ao ≠ some bx) (hbl : bx < wr.heap.size) (he : e = 0)
    (hA : Aft wr w1.heap.size w1.heap.size ao (put (0, l) e m) w') : St w1 (l ++ m) w' bx ∧ (∀ off, w'.cell? ⟨bx, off, none⟩ = wr.cell? ⟨bx, off, none⟩) ∧ wr.heap.size ≤ w'.heap.size := by
  rw [he, put_z] at hA
  obtain ⟨ao', cap', hm', hP⟩ := hA
  refine ⟨⟨ao', cap', hm', hb.trans (hP.below (Nat.le_refl _) (fun g hg => (hm.rlt g hg).1) hb.size), hx.1, fun e9 => ?_⟩, fun off => hP.fr.cell (p := ⟨bx, off, none⟩) hbl (fun h9 => h9.elim hx.1 hx.2), hP.fr.size⟩
  rcases hP.at_ with h | h
  · exact hx.2 (h ▸ e9)
  · have := h bx e9; omega
set_option maxRecDepth 100000 in
theorem St.u {w1 wr : World} {l : List Nat} {bx : Nat} (h : St w1 l wr bx) (hbl : bx < wr.heap.size) (v n : Nat) (hv : v < 18446744073709551616) (he : uErr v n = 0) (hl : l.length ≤ 1073741824) :
    Calls Tryz.prog 49 #[.pointer (some ⟨w1.heap.size, 0, none⟩), .int .u64 (v : Int), .int .i64 (n : Int)] wr fun e w' => e = .returned (.tuple #[]) ∧ St w1 (l ++ le v n) w' bx ∧ (∀ off, w'.cell? ⟨bx, off, none⟩ = wr.cell? ⟨bx, off, none⟩) ∧ wr.heap.size ≤ w'.heap.size := by
  obtain ⟨ao, cap, hm, hb, hx⟩ := h
  refine (u_any hm hb.size v n hv (by omega)).mono ?_
  rintro e w' ⟨rfl, hA⟩
  exact ⟨rfl, St.step hm hb hx hbl he hA⟩
set_option maxRecDepth 100000 in
theorem St.text {w1 wr : World} {l : List Nat} {bx : Nat} (h : St w1 l wr bx) (hbl : bx < wr.heap.size) (s : ByteArray) (n : Nat) (hs : s.size ≤ 65536) (he : uErr s.size n = 0) (hl : l.length ≤ 1073741824) :
    Calls Tryz.prog 53 #[.pointer (some ⟨w1.heap.size, 0, none⟩), .string s, .int .i64 (n : Int)] wr fun e w' => e = .returned (.tuple #[]) ∧ St w1 (l ++ (le s.size n ++ sb s)) w' bx ∧ (∀ off, w'.cell? ⟨bx, off, none⟩ = wr.cell? ⟨bx, off, none⟩) ∧ wr.heap.size ≤ w'.heap.size := by
  obtain ⟨ao, cap, hm, hb, hx⟩ := h
  refine (text_any hm hb.size s n (by omega) (by omega)).mono ?_
  rintro e w' ⟨rfl, hA⟩
  exact ⟨rfl, St.step hm hb hx hbl he hA⟩
set_option maxRecDepth 100000 in
theorem St.raw {w1 wr : World} {l : List Nat} {bx : Nat} (h : St w1 l wr bx) (hbl : bx < wr.heap.size) {a : Option Addr} {m : List Nat} {c n : Nat} (hn : m.length = n) (hb : Byts wr a m) (ha : a = none → m.length = 0 ∧ c = 0) (hl : l.length + m.length ≤ 1073741824) :
    Calls Tryz.prog 48 #[.pointer (some ⟨w1.heap.size, 0, none⟩), .slice a n c] wr fun e w' => e = .returned (.tuple #[]) ∧ St w1 (l ++ m) w' bx ∧ (∀ off, w'.cell? ⟨bx, off, none⟩ = wr.cell? ⟨bx, off, none⟩) ∧ wr.heap.size ≤ w'.heap.size := by
  subst hn
  obtain ⟨ao, cap, hm, hB, hx⟩ := h
  refine (raw_any hm hb ha hB.size (by omega)).mono ?_
  rintro e w' ⟨rfl, hA⟩
  exact ⟨rfl, St.step hm hB hx hbl rfl hA⟩
set_option maxRecDepth 100000 in
theorem St.bytes {w1 wr : World} {l : List Nat} {bx : Nat} (h : St w1 l wr bx) (hl : l.length ≤ 1073741824) :
    Calls Tryz.prog 50 #[.pointer (some ⟨w1.heap.size, 0, none⟩)] wr fun e w' => ∃ ao cap, e = .returned (.tuple #[.slice ao l.length cap, .int .i64 0]) ∧ NL w1 ao cap l w' ∧ St w1 l w' bx ∧ wr.heap.size ≤ w'.heap.size := by
  obtain ⟨ao, cap, hm, hB, hx⟩ := h
  have hlt := hm.lt
  refine (mbytes_ok hm (by omega)).mono ?_
  rintro e w' ⟨ao1, cap1, rfl, ho, hb⟩
  exact ⟨ao1, cap1, rfl, ⟨own_mono2 ho hB.size, hB.trans (hb.mono hB.size), hlt⟩, ⟨ao, cap, hm.below hb, hB.trans (hb.mono hB.size), hx⟩, hb.size⟩
set_option maxRecDepth 100000 in
theorem St.below {w1 wr w' : World} {l : List Nat} {bx : Nat} (h : St w1 l wr bx) (hb : Below wr.heap.size wr w') : St w1 l w' bx := by
  obtain ⟨ao, cap, hm, hB, hx⟩ := h
  exact ⟨ao, cap, hm.below hb, hB.trans (hb.mono hB.size), hx⟩
set_option maxRecDepth 100000 in
/-- A block that is made is none of the maker's. -/
theorem St.box {w1 wr w' : World} {l : List Nat} {bx : Nat} (h : St w1 l wr bx) (hb : Below wr.heap.size wr w') : St w1 l w' wr.heap.size := by
  obtain ⟨ao, cap, hm, hB, _⟩ := h
  exact ⟨ao, cap, hm.below hb, hB.trans (hb.mono hB.size), by have := hm.plt; omega, fun e => by have := (hm.rlt _ e).2; omega⟩
set_option maxRecDepth 100000 in
theorem St.bel {w1 wr : World} {l : List Nat} {bx : Nat} (h : St w1 l wr bx) : Below w1.heap.size w1 wr := by
  obtain ⟨_, _, _, hB, _⟩ := h
  exact hB
end Go.Proofs.YthjjonbkfkpkmaaGreatDoor.Tg
