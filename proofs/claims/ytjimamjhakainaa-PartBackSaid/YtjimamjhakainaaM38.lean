/- Runs of runs, and the document's; Ints; RunsCounts' walk. Conditions: those of the memory's own form alone. -/
import Derived.Test.YtjimamjhakainaaM18
import Derived.Test.YtjimamjhakainaaM36
import Derived.Laws.BitsLemmas
namespace Go.Proofs.Ytjimamjhakainaa.Runs
open Go.RowKit Bit Rice

/-- Whole numbers in a row of the call's own. -/
def il (l : List Int) : List Value := l.map fun x => .int .i64 x
def Il (w : World) (B : Nat) (lo : Option Addr) (lcap : Nat) (l : List Int) : Prop := w.ownsRow B 3 1 (.slice lo l.length lcap) l.length (il l)
theorem Il.lt {w : World} {B : Nat} {lo : Option Addr} {lcap : Nat} {l : List Int} (h : Il w B lo lcap l) : ∀ g, blk lo = some g → B ≤ g ∧ g < w.heap.size := fun g hg => World.ownsRow.lt h g (by rw [ownBlock_slice]; exact hg)
theorem Il.fr {w w' : World} {B : Nat} {lo : Option Addr} {lcap : Nat} {l : List Int} (h : Il w B lo lcap l) {X : Nat → Prop} (hf : Fr X w w') (hx : ∀ g, blk lo = some g → ¬ X g) : Il w' B lo lcap l := ownsRow_block h fun g hg => hf.block g (h.lt g hg).2 (hx g hg)
theorem il_app (l : List Int) (x : Int) : il (l ++ [x]) = il l ++ [.int .i64 x] := by unfold il; rw [List.map_append]; rfl
theorem Il.is {w : World} {B : Nat} {lo : Option Addr} {lcap : Nat} {l : List Int} (h : Il w B lo lcap l) (hc : ∀ x ∈ l, -9223372036854775808 ≤ x ∧ x ≤ 9223372036854775807) : ∃ b, Is w lo l.length lcap b 0 (fun i => l.getD i 0) := by
  have hcap : l.length ≤ lcap ∧ lcap ≤ 9223372036854775807 := by
    rcases h.2 with ⟨hv, h0⟩ | ⟨g, c, cur, hv, _, _, h1, h2, _⟩
    · simp only [Value.slice.injEq] at hv; omega
    · simp only [Value.slice.injEq] at hv
      obtain ⟨_, _, rfl⟩ := hv
      exact ⟨h1, h2⟩
  rcases ownsRow_at h with ⟨_, h1, _, _⟩ | ⟨g, rfl⟩
  · exact ⟨0, fun h0 => by omega, fun i hi => by omega, fun i hi => by omega, fun h0 => by omega, hcap.1, hcap.2⟩
  · refine ⟨g, fun _ => rfl, fun i hi => ?_, fun i hi => ?_, fun _ => (World.ownsRow.lt h g (by rw [ownBlock_slice]; rfl)).2, hcap.1, hcap.2⟩
    · rw [Nat.zero_add]
      exact ownsRow_cell h i _ (by simp [il, hi])
    · have : l.getD i 0 = l[i] := by simp [hi]
      rw [this]
      exact hc _ (List.getElem_mem hi)

/-- Two lists that have the same numbers are the same. -/
theorem ints_any (w : World) (a a' : Option Addr) (len cap cap' b off b' off' : Nat) (I J : Nat → Int) (h : Is w a len cap b off I) (h' : Is w a' len cap' b' off' J) (he : ∀ i, i < len → I i = J i) :
    Calls Try.prog 29 #[.slice a len cap, .slice a' len cap'] w fun e w' => e = .returned (.bool true) ∧ Fr (fun _ => False) w w' := by
  have H := hid h
  have H' := hid h'
  have HE := hid he
  have hl := h.hl
  have hc := h.hc
  clear h h' he
  go_enter Try.func29, Try.ntmps29
  go_wp2_with fail
  go_loopg [5] len (fun g i wr => ∃ j : Nat, j ≤ len ∧ g = len - j ∧ i = .int .i64 j ∧ Fr (fun _ => False) w wr)
  case atStart => exact ⟨0, Nat.zero_le _, rfl, rfl, Fr.refl _ _⟩
  case round =>
    obtain ⟨j, hj, hg, rfl, hf⟩ := hrel
    have HG := hid hg
    clear hg
    by_cases hlt : j < len
    · have hlt2 : (j : Int) < (len : Int) := by omega
      obtain rfl := H.out.addr (by omega)
      obtain rfl := H'.out.addr (by omega)
      have ck := (H.out.fr hf fun _ x => x).c j hlt
      have ck' := (H'.out.fr hf fun _ x => x).c j hlt
      rw [← HE.out j hlt] at ck'
      generalize I j = x at *
      go_wp2_with fail
      go_quiet (fail)
      have hf2 := hf.drewN nq
      clear ck ck' hf
      go_wp2_with fail
      go_roundg (len - (j + 1))
      case measure => rw [HG.out]; omega
      case rel => exact ⟨j + 1, by omega, rfl, by go_num, hf2⟩
    · have hge : ¬ (j : Int) < (len : Int) := by omega
      obtain rfl : j = len := by omega
      go_wp2_with fail
      go_ret
      exact ⟨rfl, hf⟩

/-- How many noughts stand ahead of each other number of the first i. -/
def rr (I : Nat → Int) : Nat → List Int
  | 0 => []
  | i + 1 => if I i = 0 then rr I i else rr I i ++ [(rn I i : Int)]
theorem rr_len (I : Nat → Int) : ∀ i, (rr I i).length ≤ i
  | 0 => Nat.le_refl _
  | i + 1 => by
    have h := rr_len I i
    show (if I i = 0 then _ else _ : List Int).length ≤ _
    split
    · omega
    · simp only [List.length_append, List.length_singleton]; omega
theorem rr_zero {I : Nat → Int} {o : Nat} : ∀ k, (∀ i, i < k → I (o + i) = 0) → rr I (o + k) = rr I o
  | 0, _ => rfl
  | k + 1, h => by
    have h2 := rr_zero k fun i hi => h i (by omega)
    have hz := h k (by omega)
    show (if I (o + k) = 0 then rr I (o + k) else _) = _
    rw [if_pos hz, h2]
theorem rr_in (I : Nat → Int) : ∀ i, i ≤ 1048576 → ∀ x ∈ rr I i, -9223372036854775808 ≤ x ∧ x ≤ 9223372036854775807
  | 0, _, x, hx => by cases hx
  | i + 1, h, x, hx => by
    by_cases e : I i = 0
    · rw [show rr I (i + 1) = rr I i from if_pos e] at hx
      exact rr_in I i (by omega) x hx
    · rw [show rr I (i + 1) = rr I i ++ [(rn I i : Int)] from if_neg e] at hx
      rcases List.mem_append.1 hx with e | e
      · exact rr_in I i (by omega) x e
      · obtain rfl := List.mem_singleton.1 e
        have := rn_le I i; omega

/-- The box of Runs. -/
def Srn (w : World) (l : List Int) (wr : World) : Prop := ∃ (lo : Option Addr) (lcap : Nat), wr.cell? ⟨w.heap.size + 1, 0, none⟩ = some (.slice lo l.length lcap) ∧ wr.frozen? ⟨w.heap.size + 1, 0, none⟩ = false ∧ Il wr w.heap.size lo lcap l ∧
  (∀ g, blk lo = some g → g ≠ w.heap.size + 1) ∧ Below w.heap.size w wr
def RunsPost (w : World) (l : List Int) (e : Ending) (w' : World) : Prop := ∃ lo lcap, e = .returned (.slice lo l.length lcap) ∧ Il w' w.heap.size lo lcap l ∧ Below w.heap.size w w'
theorem and511 (n : Int) : bits .and .i64 n 511 = n % 512 := by
  have h127 : (BitVec.ofInt 64 511).toNat = 2 ^ 9 - 1 := by decide
  have key : (BitVec.ofInt 64 n &&& BitVec.ofInt 64 511).toNat = (n % ((2 ^ 64 : Nat) : Int)).toNat % 2 ^ 9 := by
    rw [BitVec.toNat_and, BitVec.toNat_ofInt, h127, Nat.and_two_pow_sub_one_eq_mod]
  show IntKind.i64.wrap ((BitVec.ofInt 64 n &&& BitVec.ofInt 64 511).toNat : Nat) = n % 512
  rw [key, IntKind.wrap_i64]
  omega
end Go.Proofs.Ytjimamjhakainaa.Runs
/- Get of runs: what it answers, where the reader stands, and the numbers. Conditions: fewer than 2^20 bytes. -/
namespace Go.Proofs.Ytjimamjhakainaa.Runs
open Go.RowKit Bit Rice

/-- One run: the error, where it leads, how many noughts, and the number behind them, if there is one. -/
def Stp (M T k m p : Nat) (x : Int × Nat × Nat × Int) : Prop :=
  ((getG M T p).2.1 ≠ 0 ∧ x = ((getG M T p).2.1, (getG M T p).2.2, 0, 0)) ∨
  ((getG M T p).2.1 = 0 ∧ m < (getG M T p).1 - 1 ∧ x = (12, (getG M T p).2.2, 0, 0)) ∨
  ((getG M T p).2.1 = 0 ∧ (getG M T p).1 - 1 = m ∧ x = (0, (getG M T p).2.2, m, 0)) ∨
  ((getG M T p).2.1 = 0 ∧ (getG M T p).1 - 1 < m ∧ ∃ y : Nat × Int × Nat, GetR M T (getG M T p).2.2 k y ∧
    ((y.2.1 ≠ 0 ∧ x = (y.2.1, y.2.2, 0, 0)) ∨ (y.2.1 = 0 ∧ y.1 = 1099511627775 ∧ x = (12, y.2.2, 0, 0)) ∨ (y.2.1 = 0 ∧ y.1 ≠ 1099511627775 ∧ x = (0, y.2.2, (getG M T p).1 - 1, zgi (y.1 + 1)))))
theorem Stp.one {M T k m p : Nat} {x x' : Int × Nat × Nat × Int} (h : Stp M T k m p x) (h' : Stp M T k m p x') : x = x' := by
  rcases h with ⟨a, rfl⟩ | ⟨a, b, rfl⟩ | ⟨a, b, rfl⟩ | ⟨a, b, y, hy, h⟩ <;> rcases h' with ⟨a', rfl⟩ | ⟨a', b', rfl⟩ | ⟨a', b', rfl⟩ | ⟨a', b', y', hy', h'⟩
  all_goals first | rfl | (exfalso; omega) | (exfalso; exact a a') | (exfalso; exact a' a) | skip
  obtain rfl := hy.one hy'
  rcases h with ⟨c, rfl⟩ | ⟨c, d, rfl⟩ | ⟨c, d, rfl⟩ <;> rcases h' with ⟨c', rfl⟩ | ⟨c', d', rfl⟩ | ⟨c', d', rfl⟩
  all_goals first | rfl | (exfalso; exact c c') | (exfalso; exact c' c) | (exfalso; exact d d') | (exfalso; exact d' d)
theorem Stp.le {M T k m p : Nat} {x : Int × Nat × Nat × Int} (h : Stp M T k m p x) (hp : p ≤ 8 * T) : x.2.1 ≤ 8 * T ∧ x.2.2.1 ≤ m := by
  have hg := getG_le M T p hp
  rcases h with ⟨a, rfl⟩ | ⟨a, b, rfl⟩ | ⟨a, b, rfl⟩ | ⟨a, b, y, hy, h⟩
  · exact ⟨hg, Nat.zero_le _⟩
  · exact ⟨hg, Nat.zero_le _⟩
  · exact ⟨hg, Nat.le_refl _⟩
  · have hl := hy.le hg
    rcases h with ⟨c, rfl⟩ | ⟨c, d, rfl⟩ | ⟨c, d, rfl⟩
    · exact ⟨hl, Nat.zero_le _⟩
    · exact ⟨hl, Nat.zero_le _⟩
    · exact ⟨hl, by show (getG M T p).1 - 1 ≤ m; omega⟩

/-- What Get answers of m numbers, with at most f runs. -/
def GRun (M T k : Nat) : Nat → Nat → Nat → (List Int × Int × Nat) → Prop
  | 0, m, p, r => m = 0 ∧ r = ([], 0, p)
  | f + 1, m, p, r => (m = 0 ∧ r = ([], 0, p)) ∨ (0 < m ∧ ∃ x, Stp M T k m p x ∧ ((x.1 ≠ 0 ∧ r = ([], x.1, x.2.1)) ∨ (x.1 = 0 ∧ x.2.2.1 = m ∧ r = (List.replicate m 0, 0, x.2.1)) ∨
      (x.1 = 0 ∧ x.2.2.1 < m ∧ ∃ s, GRun M T k f (m - x.2.2.1 - 1) x.2.1 s ∧ r = (if s.2.1 = 0 then List.replicate x.2.2.1 0 ++ x.2.2.2 :: s.1 else [], s.2.1, s.2.2))))
theorem GRun.one {M T k : Nat} : ∀ {f m p : Nat} {r r' : List Int × Int × Nat}, GRun M T k f m p r → GRun M T k f m p r' → r = r'
  | 0, _, _, _, _, ⟨_, h⟩, ⟨_, h'⟩ => h.trans h'.symm
  | f + 1, m, p, r, r', h, h' => by
    rcases h with ⟨a, rfl⟩ | ⟨a, x, hx, h⟩ <;> rcases h' with ⟨a', rfl⟩ | ⟨a', x', hx', h'⟩
    · rfl
    · omega
    · omega
    · obtain rfl := hx.one hx'
      rcases h with ⟨c, rfl⟩ | ⟨c, d, rfl⟩ | ⟨c, d, s, hs, rfl⟩ <;> rcases h' with ⟨c', rfl⟩ | ⟨c', d', rfl⟩ | ⟨c', d', s', hs', rfl⟩
      all_goals first | rfl | (exfalso; exact c c') | (exfalso; exact c' c) | (exfalso; omega) | skip
      obtain rfl := hs.one hs'
      rfl
theorem GRun.nil {M T k : Nat} : ∀ {f m p : Nat} {r : List Int × Int × Nat}, GRun M T k f m p r → r.2.1 ≠ 0 → r.1 = []
  | 0, _, _, _, ⟨_, h⟩, hr => by rw [h] at hr; exact absurd rfl hr
  | f + 1, m, p, r, h, hr => by
    rcases h with ⟨a, rfl⟩ | ⟨a, x, hx, h⟩
    · exact absurd rfl hr
    · rcases h with ⟨c, rfl⟩ | ⟨c, d, rfl⟩ | ⟨c, d, s, hs, rfl⟩
      · rfl
      · exact absurd rfl hr
      · show (if s.2.1 = 0 then _ else []) = []
        rw [if_neg hr]
theorem GRun.len {M T k : Nat} : ∀ {f m p : Nat} {r : List Int × Int × Nat}, GRun M T k f m p r → r.2.1 = 0 → r.1.length = m
  | 0, _, _, _, ⟨h0, h⟩, hr => by rw [h, h0]; rfl
  | f + 1, m, p, r, h, hr => by
    rcases h with ⟨a, rfl⟩ | ⟨a, x, hx, h⟩
    · rw [a]; rfl
    · rcases h with ⟨c, rfl⟩ | ⟨c, d, rfl⟩ | ⟨c, d, s, hs, rfl⟩
      · exact absurd hr c
      · simp
      · have hr2 : s.2.1 = 0 := hr
        have := hs.len hr2
        show (if s.2.1 = 0 then _ else []).length = m
        rw [if_pos hr2]
        simp only [List.length_append, List.length_replicate, List.length_cons]
        omega
/-- Some numbers, and what is read behind them. -/
def join (pre : List Int) (s : List Int × Int × Nat) : List Int × Int × Nat := (if s.2.1 = 0 then pre ++ s.1 else [], s.2.1, s.2.2)
def Pre (M T k n p0 : Nat) (pre : List Int) (f m p : Nat) : Prop := m ≤ f ∧ pre.length + m = n ∧ ∀ s, GRun M T k f m p s → GRun M T k n n p0 (join pre s)
theorem Pre.start (M T k n p0 : Nat) : Pre M T k n p0 [] n n p0 := by
  refine ⟨Nat.le_refl _, by simp, fun s h => ?_⟩
  have e : join [] s = s := by
    unfold join
    by_cases e : s.2.1 = 0
    · rw [if_pos e]; rfl
    · rw [if_neg e, ← h.nil e]
  rw [e]; exact h
theorem Pre.done {M T k n p0 : Nat} {pre : List Int} {f p : Nat} (h : Pre M T k n p0 pre f 0 p) : GRun M T k n n p0 (pre, 0, p) := by
  have := h.2.2 ([], 0, p) (by cases f with
    | zero => exact ⟨rfl, rfl⟩
    | succ f => exact .inl ⟨rfl, rfl⟩)
  unfold join at this
  simpa using this
theorem Pre.err {M T k n p0 : Nat} {pre : List Int} {f m p : Nat} (h : Pre M T k n p0 pre f m p) (hm : 0 < m) {x : Int × Nat × Nat × Int} (hx : Stp M T k m p x) (he : x.1 ≠ 0) : GRun M T k n n p0 ([], x.1, x.2.1) := by
  obtain ⟨h1, h2, h3⟩ := h
  obtain ⟨f', rfl⟩ : ∃ f', f = f' + 1 := ⟨f - 1, by omega⟩
  have := h3 ([], x.1, x.2.1) (.inr ⟨hm, x, hx, .inl ⟨he, rfl⟩⟩)
  unfold join at this
  rw [if_neg he] at this
  exact this
theorem Pre.last {M T k n p0 : Nat} {pre : List Int} {f m p : Nat} (h : Pre M T k n p0 pre f m p) (hm : 0 < m) {x : Int × Nat × Nat × Int} (hx : Stp M T k m p x) (he : x.1 = 0) (hz : x.2.2.1 = m) : GRun M T k n n p0 (pre ++ List.replicate m 0, 0, x.2.1) := by
  obtain ⟨h1, h2, h3⟩ := h
  obtain ⟨f', rfl⟩ : ∃ f', f = f' + 1 := ⟨f - 1, by omega⟩
  have := h3 (List.replicate m 0, 0, x.2.1) (.inr ⟨hm, x, hx, .inr (.inl ⟨he, hz, rfl⟩)⟩)
  unfold join at this
  simpa using this
theorem Pre.num {M T k n p0 : Nat} {pre : List Int} {f m p : Nat} (h : Pre M T k n p0 pre f m p) (hm : 0 < m) {x : Int × Nat × Nat × Int} (hx : Stp M T k m p x) (he : x.1 = 0) (hz : x.2.2.1 < m) : ∃ f', Pre M T k n p0 (pre ++ List.replicate x.2.2.1 0 ++ [x.2.2.2]) f' (m - x.2.2.1 - 1) x.2.1 := by
  obtain ⟨h1, h2, h3⟩ := h
  obtain ⟨f', rfl⟩ : ∃ f', f = f' + 1 := ⟨f - 1, by omega⟩
  refine ⟨f', by omega, by simp; omega, fun s hs => ?_⟩
  have := h3 _ (.inr ⟨hm, x, hx, .inr (.inr ⟨he, hz, s, hs, rfl⟩)⟩)
  unfold join at this ⊢
  by_cases e : s.2.1 = 0
  · rw [if_pos e]
    simp only [e, if_true] at this ⊢
    simpa using this
  · rw [if_neg e]
    simp only [e, if_false] at this ⊢
    exact this

/-- What one run leaves. -/
def GrPost (w : World) (q g0 M T p k g o m : Nat) (e : Ending) (w' : World) : Prop := ∃ x : Int × Nat × Nat × Int, Stp M T k m p x ∧
  ((x.1 ≠ 0 ∧ e = .returned (.tuple #[.slice none 0 0, .int .i64 x.1]) ∧ Rd w' q g0 M T x.2.1 ∧ Fr (fun b => b = q) w w') ∨
   (x.1 = 0 ∧ x.2.2.1 = m ∧ e = .returned (.tuple #[.slice none 0 0, .int .i64 0]) ∧ Rd w' q g0 M T x.2.1 ∧ Fr (fun b => b = q) w w') ∨
   (x.1 = 0 ∧ x.2.2.1 < m ∧ ∃ a' cap', e = .returned (.tuple #[.slice a' (m - x.2.2.1 - 1) cap', .int .i64 0]) ∧ (0 < m - x.2.2.1 - 1 → a' = some ⟨g, o + x.2.2.1 + 1, none⟩) ∧ m - x.2.2.1 - 1 ≤ cap' ∧ cap' ≤ 9223372036854775807 ∧
     ∃ w1, Rd w1 q g0 M T x.2.1 ∧ Fr (fun b => b = q) w w1 ∧ w' = w1.setCell ⟨g, o + x.2.2.1, none⟩ (.int .i64 x.2.2.2)))

set_option maxHeartbeats 3200000 in
set_option maxRecDepth 100000 in
theorem getrun_any {w : World} {q g0 M T p : Nat} (h : Rd w q g0 M T p) (hp : p ≤ 8 * T) (hT : T ≤ 1099511627776) (k : Nat) (hk : k ≤ 30) (g o m cap : Nat) (hm : 0 < m) (hmc : m ≤ cap) (hcc : cap ≤ 9223372036854775807) (hm2 : m ≤ 1048576) (hgq : g ≠ q)
    (hcell : ∀ i, i < m → w.cell? ⟨g, o + i, none⟩ = some (.int .i64 0)) (hfr : ∀ i, i < m → w.frozen? ⟨g, o + i, none⟩ = false) (hlt : g < w.heap.size) :
    Calls Try.prog 125 #[.pointer (some ⟨q, 0, none⟩), .slice (some ⟨g, o, none⟩) m cap, .int .i64 (k : Int)] w (GrPost w q g0 M T p k g o m) := by
  have hgl := getG_le M T p hp
  have HGG := hid (ggamma_any h hp hT)
  have HST : Hid (∀ x, Stp M T k m p x → Stp M T k m p x) := hid fun _ h => h
  have HOKG := hid fun v c => getG_ok (M := M) (T := T) (p := p) (v := v) (c := c)
  have HCL := hid hcell
  have HFL := hid hfr
  unfold Stp at HST
  clear h hcell hfr
  go_enter Try.func125, Try.ntmps125
  go_wp2_with fail
  refine Calls.mono HGG.out ?_
  rintro e w1 ⟨rfl, hr1, hf1⟩
  clear HGG
  generalize hgg : getG M T p = gg at *
  have HG := hid hgg
  clear hgg
  obtain ⟨v, er, c⟩ := gg
  simp only at hr1 hgl
  by_cases he : er = 0
  · subst he
    obtain ⟨hv0, hv1⟩ := HOKG.out v c rfl
    by_cases h1 : m < v - 1
    · have g1 : (m : Int) < (v : Int) - 1 := by omega
      have hx : GrPost w q g0 M T p k g o m (.returned (.tuple #[.slice none 0 0, .int .i64 12])) w1 := by
        refine ⟨(12, c, 0, 0), ?_, .inl ⟨show (12 : Int) ≠ 0 by decide, rfl, hr1, hf1⟩⟩
        unfold Stp; rw [HG.out]
        exact .inr (.inl ⟨rfl, h1, rfl⟩)
      clear hr1 hf1 HST HOKG
      go_wp2_with fail
      go_ret2
      exact hx
    · have g1 : ¬ (m : Int) < (v : Int) - 1 := by omega
      by_cases h2 : v - 1 = m
      · obtain rfl : v = m + 1 := by omega
        have hx : GrPost w q g0 M T p k g o m (.returned (.tuple #[.slice none 0 0, .int .i64 0])) w1 := by
          refine ⟨(0, c, m, 0), ?_, .inr (.inl ⟨rfl, rfl, rfl, hr1, hf1⟩)⟩
          unfold Stp; rw [HG.out]
          exact .inr (.inr (.inl ⟨rfl, by simp, rfl⟩))
        clear hr1 hf1 HST HOKG g1 h1 h2
        go_wp2_with fail
        all_goals
          go_ret2
          exact hx
      · obtain ⟨z, rfl⟩ : ∃ z, v = z + 1 := ⟨v - 1, by omega⟩
        have hzm : z < m := by omega
        have g2 : ((m : Int) - (z : Int) == 0) = false := beq_eq_false_iff_ne.2 (by omega)
        have g3 : (((m - z : Nat) : Int) == 0) = false := beq_eq_false_iff_ne.2 (by omega)
        have g4 : (m - z == 0) = false := beq_eq_false_iff_ne.2 (by omega)
        have HRG := hid (rice_get hr1 hgl hT k hk)
        clear hr1 h1 h2 HST HOKG g1 hv0
        go_wp2_with fail
        refine Calls.mono HRG.out ?_
        rintro e w2 ⟨⟨u, er, d⟩, hget, rfl, hr2, hf2⟩
        have hf3 := hf1.trans hf2
        have HGET := hid hget
        have hud : er = 0 → u < 1099511627776 := fun e => by subst e; exact (hget.coded hk).1
        clear HRG hf1 hf2 hget
        simp only at hr2
        by_cases he : er = 0
        · subst he
          have hub := hud rfl
          clear hud
          by_cases hbig : u = 1099511627775
          · subst hbig
            have hx : GrPost w q g0 M T p k g o m (.returned (.tuple #[.slice none 0 0, .int .i64 12])) w2 := by
              refine ⟨(12, d, 0, 0), ?_, .inl ⟨show (12 : Int) ≠ 0 by decide, rfl, hr2, hf3⟩⟩
              unfold Stp; rw [HG.out]
              exact .inr (.inr (.inr ⟨rfl, by simpa using hzm, _, HGET.out, .inr (.inl ⟨rfl, rfl, rfl⟩)⟩))
            have HIZ := hid fun ui (hu : ui = ((1099511627776 : Nat) : Int)) w => iszig ui 1099511627776 hu w
            have hdz : decide (coded 1099511627776) = false := by decide
            clear hr2 hf3
            go_wp2_with fail
            refine (HIZ.out _ (by omega) _).mono ?_
            rintro e w3 ⟨rfl, rfl⟩
            rw [hdz]
            go_wp2_with fail
            go_ret2
            exact hx
          · have HIZ := hid fun ui (hu : ui = ((u + 1 : Nat) : Int)) w => iszig ui (u + 1) hu w
            have HZA := hid fun ui (hu : ui = ((u + 1 : Nat) : Int)) w => zag_any ui (u + 1) hu (by omega) w
            have hdz : decide (coded (u + 1)) = true := decide_eq_true (show u + 1 < 1099511627776 by omega)
            have hstp : Stp M T k m p (0, d, z, zgi (u + 1)) := by
              unfold Stp; rw [HG.out]
              exact .inr (.inr (.inr ⟨rfl, by simpa using hzm, _, HGET.out, .inr (.inr ⟨rfl, hbig, by simp⟩)⟩))
            have HSTP := hid hstp
            have hcw : w2.cell? ⟨g, o + z, none⟩ = some (.int .i64 0) := (hf3.cell (p := ⟨g, o + z, none⟩) hlt hgq).trans (HCL.out z hzm)
            have hfw : w2.frozen? ⟨g, o + z, none⟩ = false := (hf3.frozen (p := ⟨g, o + z, none⟩) hlt hgq).trans (HFL.out z hzm)
            have HBIG := hid hbig
            clear hbig hstp HGET
            generalize zgi (u + 1) = x at *
            go_wp2_with fail
            refine (HIZ.out _ (by first | omega | (simp only [IntKind.wrap_u64]; omega)) _).mono ?_
            rintro e w3 ⟨rfl, rfl⟩
            rw [hdz]
            go_wp2_with fail
            refine (HZA.out _ (by first | omega | (simp only [IntKind.wrap_u64]; omega)) _).mono ?_
            rintro e w3 ⟨rfl, rfl⟩
            have hz1 : 1 ≤ m - z := by omega
            have hz2 : m - z ≤ cap - z := by omega
            go_wp2_with fail
            all_goals
              go_ret2
              refine ⟨(0, d, z, x), HSTP.out, .inr (.inr ⟨rfl, hzm, _, _, rfl, fun h => ?_, ?_, ?_, w2, hr2, hf3, rfl⟩)⟩
              · have h' : 0 < m - z - 1 := h
                first | rfl | (exfalso; omega)
              · show m - z - 1 ≤ _; omega
              · show _ ≤ 9223372036854775807; omega
        · have hne : (er != 0) = true := bne_iff_ne.2 he
          have hx : GrPost w q g0 M T p k g o m (.returned (.tuple #[.slice none 0 0, .int .i64 er])) w2 := by
            refine ⟨(er, d, 0, 0), ?_, .inl ⟨he, rfl, hr2, hf3⟩⟩
            unfold Stp; rw [HG.out]
            exact .inr (.inr (.inr ⟨rfl, by simpa using hzm, _, HGET.out, .inl ⟨he, rfl⟩⟩))
          clear hr2 hf3 he hud
          go_wp2_with fail
          go_ret2
          exact hx
  · have hne : (er != 0) = true := bne_iff_ne.2 he
    have hx : GrPost w q g0 M T p k g o m (.returned (.tuple #[.slice none 0 0, .int .i64 er])) w1 := by
      refine ⟨(er, c, 0, 0), ?_, .inl ⟨he, rfl, hr1, hf1⟩⟩
      unfold Stp; rw [HG.out]
      exact .inl ⟨he, rfl⟩
    clear hr1 hf1 he HST HOKG
    go_wp2_with fail
    go_ret2
    exact hx
end Go.Proofs.Ytjimamjhakainaa.Runs
/- Get of runs: the whole. Conditions: the parameter and the number may be; fewer than 2^20 bytes. -/
namespace Go.Proofs.Ytjimamjhakainaa.Runs
open Go.RowKit Bit Rice

theorem rget_arg (w : World) (a : Addr) (n k : Int) (h : ¬ (okK k ∧ 0 ≤ n ∧ n ≤ 1048576)) : Calls Try.prog 111 #[.pointer (some a), .int .i64 n, .int .i64 k] w fun e w' => e = .returned (.tuple #[.slice none 0 0, .int .i64 1]) ∧ w = w' := by
  by_cases h0 : okK k
  · have hd0 := decide_eq_true h0
    by_cases h1 : n < 0
    · clear h
      go_enter Try.func111, Try.ntmps111
      go_wp2_with fail
      refine (isparr k w).mono ?_
      rintro e w' ⟨rfl, rfl⟩
      rw [hd0]
      go_wp2_with fail
      go_ret2
      exact ⟨rfl, rfl⟩
    · have h2 : 1048576 < n := by
        by_cases e : n ≤ 1048576
        · exact absurd ⟨h0, by omega, e⟩ h
        · omega
      clear h
      go_enter Try.func111, Try.ntmps111
      go_wp2_with fail
      refine (isparr k w).mono ?_
      rintro e w' ⟨rfl, rfl⟩
      rw [hd0]
      go_wp2_with fail
      go_ret2
      exact ⟨rfl, rfl⟩
  · have hd0 := decide_eq_false h0
    clear h
    go_enter Try.func111, Try.ntmps111
    go_wp2_with fail
    refine (isparr k w).mono ?_
    rintro e w' ⟨rfl, rfl⟩
    rw [hd0]
    go_wp2_with fail
    go_ret2
    exact ⟨rfl, rfl⟩

/-- A list, and noughts behind it. -/
def padd (l : List Int) (i : Nat) : Int := l.getD i 0
theorem padd_app (pre : List Int) (z : Nat) (x : Int) (i : Nat) : (if i = pre.length + z then x else padd pre i) = padd (pre ++ List.replicate z 0 ++ [x]) i := by
  unfold padd
  simp only [List.getD_eq_getElem?_getD]
  by_cases e : i = pre.length + z
  · subst e
    rw [if_pos rfl, List.getElem?_append_right (by simp)]
    simp
  · rw [if_neg e]
    by_cases h1 : i < pre.length
    · rw [List.append_assoc, List.getElem?_append_left h1]
    · rw [List.getElem?_eq_none (by omega)]
      by_cases h2 : i < pre.length + z
      · rw [List.getElem?_append_left (by simp; omega), List.getElem?_append_right (by omega), List.getElem?_replicate]
        split <;> rfl
      · rw [List.getElem?_eq_none (by simp; omega)]
theorem padd_rep (pre : List Int) (m i : Nat) : padd pre i = padd (pre ++ List.replicate m 0) i := by
  unfold padd
  simp only [List.getD_eq_getElem?_getD]
  by_cases h1 : i < pre.length
  · rw [List.getElem?_append_left h1]
  · rw [List.getElem?_eq_none (by omega), List.getElem?_append_right (by omega), List.getElem?_replicate]
    split <;> rfl

/-- What Get has read so far. -/
def GI (w : World) (q g0 M T k n p0 g' : Nat) (v : Value) (wr : World) : Prop := ∃ (p : Nat) (l : List Int), p ≤ 8 * T ∧ Rd wr q g0 M T p ∧ Fr (fun b => b = q) w wr ∧ wr.rowIs w.heap.size 3 n (fun i => .int .i64 (padd l i)) ∧
  ((∃ f m cap', 0 < m ∧ v = .slice (some ⟨w.heap.size, n - m, none⟩) m cap' ∧ m ≤ cap' ∧ cap' ≤ 9223372036854775807 ∧ Pre M T k n p0 l f m p ∧ g' = m) ∨
   (∃ a' cap', v = .slice a' 0 cap' ∧ GRun M T k n n p0 (l, 0, p) ∧ g' = 0))
def GetPost (w : World) (q g0 M T k n p0 : Nat) (e : Ending) (w' : World) : Prop := ∃ (r : List Int × Int × Nat) (lo : Option Addr) (lcap : Nat), GRun M T k n n p0 r ∧ e = .returned (.tuple #[.slice lo r.1.length lcap, .int .i64 r.2.1]) ∧
  (0 < r.1.length → lo = some ⟨w.heap.size, 0, none⟩) ∧ r.1.length ≤ lcap ∧ lcap ≤ 9223372036854775807 ∧ (∀ i, i < r.1.length → w'.cell? ⟨w.heap.size, i, none⟩ = some (.int .i64 (padd r.1 i))) ∧ w.heap.size < w'.heap.size ∧ Rd w' q g0 M T r.2.2 ∧ Fr (fun b => b = q) w w'

set_option maxHeartbeats 1600000 in
set_option maxRecDepth 100000 in
theorem get_any {w : World} {q g0 M T p0 : Nat} (h : Rd w q g0 M T p0) (hp : p0 ≤ 8 * T) (hT : T ≤ 1048576) (n k : Nat) (hk : k ≤ 30) (hn : n ≤ 1048576) :
    Calls Try.prog 111 #[.pointer (some ⟨q, 0, none⟩), .int .i64 (n : Int), .int .i64 (k : Int)] w (GetPost w q g0 M T k n p0) := by
  have hkk : okK (k : Int) := ⟨by omega, by omega⟩
  have hd0 := decide_eq_true hkk
  have g1 : ¬ (n : Int) < 0 := by omega
  have g2 : ¬ (1048576 : Int) < (n : Int) := by omega
  have hmk : ∀ w, (Instr.makeSlice 22 (.int .i64 (n : Int)) (.int .i64 (n : Int))).run Try.prog w = .ok (.slice (some ⟨w.heap.size, 0, none⟩) n n) (w.alloc (.cells (madeCells #[.int .i64 0] n) 3)) := fun w =>
    run_make_row' (P := Try.prog) 22 3 (.int .i64 0) 8 Try.underlying22 Try.info3 rfl .i64 .i64 n (by omega) (by omega) w
  have hq0 : q < w.heap.size := World.block_lt_of_cell? w _ h.c0
  have hg0 : g0 < w.heap.size := h.row.lt
  have hst : GI w q g0 M T k n p0 n (.slice (some ⟨w.heap.size, 0, none⟩) n n) (w.alloc (.cells (madeCells #[.int .i64 0] n) 3)) := by
    have hrow := World.rowIs_made w (.int .i64 0) n 3
    refine ⟨p0, [], hp, h.keep (X := fun _ => False) ((Fr.refl _ _).alloc _) (fun x => x) (fun x => x), (Fr.refl _ _).alloc _, hrow.congr fun i hi => rfl, ?_⟩
    have hpre := Pre.start M T k n p0
    by_cases h0 : n = 0
    · subst h0
      exact .inr ⟨_, _, rfl, hpre.done, rfl⟩
    · exact .inl ⟨n, n, n, by omega, by rw [Nat.sub_self], Nat.le_refl _, by omega, hpre, rfl⟩
  clear h
  go_enter Try.func111, Try.ntmps111
  go_wp2_with fail
  refine (isparr k w).mono ?_
  rintro e w' ⟨rfl, rfl⟩
  rw [hd0]
  go_wp2_with fail
  clear hmk
  go_loopg [9] n (fun g' v wr => GI w q g0 M T k n p0 g' v wr)
  case atStart => exact hst
  case round =>
    obtain ⟨p, l, hpp, hrd, hfr, hrow, hcase⟩ := hrel
    clear hst
    rcases hcase with ⟨f, m, cap', hm, rfl, hmc, hcc, hpre, hg⟩ | ⟨a', cap', rfl, hrun, hg⟩
    · have HG := hid hg
      have HPRE := hid hpre
      have hlen := hpre.2.1
      clear hg hpre
      have hm0 : (0 : Int) < (m : Int) := by omega
      have hcell : ∀ i, i < m → wr.cell? ⟨w.heap.size, n - m + i, none⟩ = some (.int .i64 0) := fun i hi => by
        rw [hrow.cell (i := n - m + i) (by omega)]
        unfold padd
        rw [List.getD_eq_getElem?_getD, List.getElem?_eq_none (by omega)]; rfl
      have HR := hid (getrun_any hrd hpp (by omega) k hk w.heap.size (n - m) m cap' hm hmc hcc (by omega) (by omega) hcell (fun i _ => hrow.frozen _) hrow.lt)
      clear hcell hrd
      go_wp2_with fail
      refine Calls.mono HR.out ?_
      rintro e w2 ⟨x, hx, hxc⟩
      have HX := hid hx
      have hle := hx.le hpp
      clear HR hx
      rcases hxc with ⟨he, rfl, hrd2, hf2⟩ | ⟨he, hz, rfl, hrd2, hf2⟩ | ⟨he, hz, a', cap2, rfl, ha', hc1, hc2, w1, hrd1, hf1, rfl⟩
      · have hne : (x.1 != 0) = true := bne_iff_ne.2 he
        have hrun := HPRE.out.err hm HX.out he
        have hfin : GetPost w q g0 M T k n p0 (.returned (.tuple #[.slice none 0 0, .int .i64 x.1])) w2 :=
          ⟨_, none, 0, hrun, rfl, fun h => absurd h (Nat.lt_irrefl _), Nat.le_refl _, by omega, fun i hi => absurd hi (Nat.not_lt_zero _), Nat.lt_of_lt_of_le hrow.lt hf2.size, hrd2, hfr.trans hf2⟩
        clear hrun hrd2 hf2 hfr hrow he
        go_wp2_with fail
        go_ret2
        exact hfin
      · have hrun := HPRE.out.last hm HX.out he hz
        have hst2 : GI w q g0 M T k n p0 0 (.slice none 0 0) w2 := by
          refine ⟨x.2.1, l ++ List.replicate m 0, hle.1, hrd2, hfr.trans hf2, ?_, .inr ⟨none, 0, rfl, hrun, rfl⟩⟩
          exact (hrow.of_block (hf2.block _ hrow.lt (by omega))).congr fun i hi => by rw [padd_rep l m]
        clear hrun hrd2 hf2 hfr hrow he hz
        go_wp2_with fail
        go_roundg 0
        case measure => rw [HG.out]; omega
        case rel => exact hst2
      · obtain ⟨f', hpre2⟩ := HPRE.out.num hm HX.out he hz
        have hgw : w.heap.size < w1.heap.size := Nat.lt_of_lt_of_le hrow.lt hf1.size
        have hfs : Fr (fun b => b = w.heap.size) w1 (w1.setCell ⟨w.heap.size, n - m + x.2.2.1, none⟩ (.int .i64 x.2.2.2)) := (Fr.refl (fun b => b = w.heap.size) _).setCell (p := ⟨w.heap.size, n - m + x.2.2.1, none⟩) rfl _
        have hst2 : GI w q g0 M T k n p0 (m - x.2.2.1 - 1) (.slice a' (m - x.2.2.1 - 1) cap2) (w1.setCell ⟨w.heap.size, n - m + x.2.2.1, none⟩ (.int .i64 x.2.2.2)) := by
          refine ⟨x.2.1, l ++ List.replicate x.2.2.1 0 ++ [x.2.2.2], hle.1, hrd1.keep hfs (by omega) (by omega), ?_, ?_, ?_⟩
          · have h3 := hfr.trans hf1
            exact ⟨h3.os, h3.tape, h3.output, Nat.le_trans h3.size hfs.size, fun b hb hx => (hfs.block b (Nat.lt_of_lt_of_le hb h3.size) (by omega)).trans (h3.block b hb hx)⟩
          · refine ((hrow.of_block (hf1.block _ hrow.lt (by omega))).set (n - m + x.2.2.1) (.int .i64 x.2.2.2)).congr fun i hi => ?_
            rw [← padd_app l x.2.2.1 x.2.2.2 i, show l.length + x.2.2.1 = n - m + x.2.2.1 from by omega]
            split <;> rfl
          · by_cases h0 : m - x.2.2.1 - 1 = 0
            · refine .inr ⟨a', cap2, by rw [h0], ?_, h0⟩
              rw [h0] at hpre2
              exact hpre2.done
            · refine .inl ⟨f', _, cap2, by omega, ?_, hc1, hc2, hpre2, rfl⟩
              rw [ha' (by omega), show n - (m - x.2.2.1 - 1) = n - m + x.2.2.1 + 1 from by omega]
        have hmm : m - x.2.2.1 - 1 < m := by omega
        clear hpre2 hfs hrd1 hf1 hfr hrow he hz ha' hc1 hc2 hle
        go_wp2_with fail
        go_roundg (m - x.2.2.1 - 1)
        case measure => rw [HG.out]; exact hmm
        case rel => exact hst2
    · have hll := hrun.len rfl
      simp only at hll
      have hfin : GetPost w q g0 M T k n p0 (.returned (.tuple #[.slice (some ⟨w.heap.size, 0, none⟩) n n, .int .i64 0])) wr := by
        refine ⟨_, some ⟨w.heap.size, 0, none⟩, n, hrun, by simp only [hll], fun _ => rfl, by simp only [hll]; exact Nat.le_refl _, by omega, fun i hi => ?_, hrow.lt, hrd, hfr⟩
        simp only [hll] at hi
        exact hrow.cell hi
      clear hrun hrd hfr hrow hll
      go_wp2_with fail
      go_ret2
      exact hfin
end Go.Proofs.Ytjimamjhakainaa.Runs
/- What Put has written is read as it was; RunsBack's walk. Conditions: those of the memory's own form alone. -/
namespace Go.Proofs.Ytjimamjhakainaa.Runs
open Go.RowKit Bit Rice

/-- Some bits are the first ones of others. -/
def Pfx (p q : Nat × Nat) : Prop := q.1 / 2 ^ (q.2 - p.2) = p.1 ∧ p.2 ≤ q.2
theorem Pfx.refl (p : Nat × Nat) : Pfx p p := ⟨by rw [Nat.sub_self, Nat.pow_zero, Nat.div_one], Nat.le_refl _⟩
theorem Pfx.trans {p q r : Nat × Nat} (h : Pfx p q) (h' : Pfx q r) : Pfx p r := by
  refine ⟨?_, Nat.le_trans h.2 h'.2⟩
  have h1 := h.2
  have h2 := h'.2
  rw [show r.2 - p.2 = (r.2 - q.2) + (q.2 - p.2) from by omega, Nat.pow_add, ← Nat.div_div_eq_div_mul, h'.1, h.1]
theorem pfx_app (p : Nat × Nat) {v l : Nat} (hv : v < 2 ^ l) : Pfx p (app p v l) := by
  refine ⟨?_, Nat.le_add_right _ _⟩
  show (p.1 * 2 ^ l + v) / 2 ^ (p.2 + l - p.2) = p.1
  rw [Nat.add_sub_cancel_left, Nat.mul_comm, Nat.mul_add_div (Nat.two_pow_pos _), Nat.div_eq_of_lt hv, Nat.add_zero]
theorem pfx_read {p q : Nat × Nat} {v l : Nat} (hv : v < 2 ^ l) (h : Pfx (app p v l) q) : seg (pad q.1 q.2) (8 * ((q.2 + 7) / 8)) p.2 l = v ∧ p.2 + l ≤ 8 * ((q.2 + 7) / 8) := by
  have h2 : p.2 + l ≤ q.2 := h.2
  have h1 : q.1 / 2 ^ (q.2 - (p.2 + l)) = p.1 * 2 ^ l + v := h.1
  refine ⟨?_, by omega⟩
  rw [seg_pad _ _ _ _ h2]
  unfold seg
  rw [Nat.sub_sub, h1, Nat.mul_comm, Nat.mul_add_mod, Nat.mod_eq_of_lt hv]

theorem cgd_pfx (I : Nat → Int) (k : Nat) (hk : k ≤ 30) (p : Nat × Nat) : ∀ m, m ≤ 1048576 → allZ I m → ∀ j, j ≤ m → Pfx (cgd I k p j) (cgd I k p m)
  | 0, _, _, j, hj => by
    obtain rfl : j = 0 := by omega
    exact Pfx.refl _
  | m + 1, hm, hz, j, hj => by
    by_cases e : j = m + 1
    · rw [e]; exact Pfx.refl _
    · refine (cgd_pfx I k hk p m (by omega) (fun i hi => hz i (by omega)) j (by omega)).trans ?_
      show Pfx (cgd I k p m) (if I m = 0 then cgd I k p m else app (gam (cgd I k p m) (rn I m + 1)) (cod (zg (I m) - 1) k) (cost (zg (I m) - 1) k))
      split
      · exact Pfx.refl _
      · have hr := rn_le I m
        have hc : coded (zg (I m) - 1) := by have := hz m (by omega); unfold coded at *; omega
        exact (pfx_app _ (gl_ok ⟨by omega, by omega⟩).2.2.2.1).trans (pfx_app _ (cod_lt hk hc))
theorem cfin_pfx (I : Nat → Int) (k : Nat) (p : Nat × Nat) (len : Nat) (hl : len ≤ 1048576) : Pfx (cgd I k p len) (cfin I k p len) := by
  have hr := rn_le I len
  unfold cfin
  split
  · exact pfx_app _ (gl_ok ⟨by omega, by omega⟩).2.2.2.1
  · exact Pfx.refl _
theorem cgd_rcs (I : Nat → Int) (k : Nat) : ∀ i, (cgd I k (0, 0) i).2 = rcs I k i
  | 0 => rfl
  | i + 1 => by
    have h := cgd_rcs I k i
    show (if I i = 0 then cgd I k (0, 0) i else app (gam (cgd I k (0, 0) i) (rn I i + 1)) (cod (zg (I i) - 1) k) (cost (zg (I i) - 1) k) : Nat × Nat).2 = (if I i = 0 then _ else _)
    split
    · exact h
    · show (cgd I k (0, 0) i).2 + gl (rn I i + 1) + cost (zg (I i) - 1) k = _
      rw [h]
theorem cfin_cst (I : Nat → Int) (k len : Nat) : (cfin I k (0, 0) len).2 = cst I k len := by
  rw [cst_rcs]
  unfold cfin
  split
  · show (cgd I k (0, 0) len).2 + gl (rn I len + 1) = _; rw [cgd_rcs]
  · exact cgd_rcs I k len

/-- m numbers from place o on. -/
def li (I : Nat → Int) : Nat → Nat → List Int
  | 0, _ => []
  | m + 1, o => I o :: li I m (o + 1)
theorem li_len (I : Nat → Int) : ∀ m o, (li I m o).length = m
  | 0, _ => rfl
  | m + 1, o => by show (li I m (o + 1)).length + 1 = m + 1; rw [li_len I m (o + 1)]
theorem li_at (I : Nat → Int) : ∀ m o i, i < m → padd (li I m o) i = I (o + i)
  | 0, _, _, h => absurd h (Nat.not_lt_zero _)
  | m + 1, o, 0, _ => rfl
  | m + 1, o, i + 1, h => by
    have := li_at I m (o + 1) i (by omega)
    show padd (li I m (o + 1)) i = I (o + (i + 1))
    rw [this]; congr 1; omega
theorem li_runs (I : Nat → Int) (m : Nat) : ∀ z o, (∀ i, i < z → I (o + i) = 0) → li I (z + 1 + m) o = List.replicate z 0 ++ I (o + z) :: li I m (o + z + 1)
  | 0, o, _ => by rw [show 0 + 1 + m = m + 1 from by omega]; rfl
  | z + 1, o, h => by
    have h0 : I o = 0 := h 0 (by omega)
    have := li_runs I m z (o + 1) fun i hi => by have := h (i + 1) (by omega); rw [show o + 1 + i = o + (i + 1) from by omega]; exact this
    rw [show z + 1 + 1 + m = (z + 1 + m) + 1 from by omega]
    show I o :: li I (z + 1 + m) (o + 1) = 0 :: (List.replicate z 0 ++ I (o + (z + 1)) :: li I m (o + (z + 1) + 1))
    rw [this, h0, show o + 1 + z = o + (z + 1) from by omega]
theorem li_zeros (I : Nat → Int) : ∀ z o, (∀ i, i < z → I (o + i) = 0) → li I z o = List.replicate z 0
  | 0, _, _ => rfl
  | z + 1, o, h => by
    have := li_zeros I z (o + 1) fun i hi => by have := h (i + 1) (by omega); rw [show o + 1 + i = o + (i + 1) from by omega]; exact this
    show I o :: li I z (o + 1) = 0 :: List.replicate z 0
    rw [this, show I o = 0 from h 0 (by omega)]
theorem find_run (I : Nat → Int) (o : Nat) : ∀ m, ∃ z, z ≤ m ∧ (∀ i, i < z → I (o + i) = 0) ∧ (z = m ∨ (z < m ∧ I (o + z) ≠ 0))
  | 0 => ⟨0, Nat.le_refl _, fun i hi => absurd hi (Nat.not_lt_zero _), .inl rfl⟩
  | m + 1 => by
    obtain ⟨z, h1, h2, h3⟩ := find_run I o m
    rcases h3 with rfl | ⟨h3, h4⟩
    · by_cases e : I (o + z) = 0
      · refine ⟨z + 1, Nat.le_refl _, fun i hi => ?_, .inl rfl⟩
        by_cases e2 : i = z
        · rw [e2]; exact e
        · exact h2 i (by omega)
      · exact ⟨z, by omega, h2, .inr ⟨by omega, e⟩⟩
    · exact ⟨z, by omega, h2, .inr ⟨by omega, h4⟩⟩

theorem grun_of_cfin (I : Nat → Int) (k n : Nat) (hk : k ≤ 30) (hn : n ≤ 1048576) (hz : allZ I n) : ∀ f o, o ≤ n → n - o ≤ f → rn I o = 0 →
    GRun (pad (cfin I k (0, 0) n).1 (cfin I k (0, 0) n).2) (((cfin I k (0, 0) n).2 + 7) / 8) k f (n - o) (cgd I k (0, 0) o).2 (li I (n - o) o, 0, (cfin I k (0, 0) n).2)
  | f, o, ho, hf, hr => by
    have hfin : n - o = 0 → (cgd I k (0, 0) o).2 = (cfin I k (0, 0) n).2 := fun e => by
      obtain rfl : o = n := by omega
      unfold cfin; rw [hr, if_neg (Nat.lt_irrefl _)]
    match f with
    | 0 =>
      have e : n - o = 0 := by omega
      rw [e]
      exact ⟨rfl, by rw [hfin e]; rfl⟩
    | f + 1 =>
      by_cases e : n - o = 0
      · rw [e]
        exact .inl ⟨rfl, by rw [hfin e]; rfl⟩
      · obtain ⟨z, h1, h2, h3⟩ := find_run I o (n - o)
        obtain ⟨r1, r2⟩ := runs_zero (kp := k) (p := (0, 0)) hr z h2
        have hgz := gl_ok (v := z + 1) ⟨by omega, by omega⟩
        refine .inr ⟨by omega, ?_⟩
        rcases h3 with h3 | ⟨h3, h4⟩
        · have hoz : o + z = n := by omega
          have hQ : cfin I k (0, 0) n = app (cgd I k (0, 0) o) (z + 1) (gl (z + 1)) := by
            unfold cfin
            rw [← hoz, r1, r2, if_pos (by omega)]; rfl
          obtain ⟨s1, s2⟩ := pfx_read (p := cgd I k (0, 0) o) (q := cfin I k (0, 0) n) hgz.2.2.2.1 (by rw [hQ]; exact Pfx.refl _)
          have hg := gamma_of_code (v := z + 1) ⟨by omega, by omega⟩ s2 s1
          have hQ2 : (cgd I k (0, 0) o).2 + gl (z + 1) = (cfin I k (0, 0) n).2 := by rw [hQ]; rfl
          rw [hQ2] at hg
          refine ⟨(0, (cfin I k (0, 0) n).2, n - o, 0), ?_, .inr (.inl ⟨rfl, rfl, ?_⟩)⟩
          · unfold Stp
            rw [hg]
            exact .inr (.inr (.inl ⟨rfl, by show z + 1 - 1 = n - o; omega, rfl⟩))
          · rw [← h3, li_zeros I z o h2]
        · have hlt : o + z < n := by omega
          obtain ⟨n1, n2⟩ := runs_next (kp := k) (p := (0, 0)) hr h2 h4
          have hc : coded (zg (I (o + z)) - 1) := by have := hz (o + z) hlt; unfold coded at *; omega
          have hcz := hz (o + z) hlt
          have hzp := zg_pos h4
          have hp1 : Pfx (cgd I k (0, 0) (o + z + 1)) (cfin I k (0, 0) n) := (cgd_pfx I k hk (0, 0) n hn hz (o + z + 1) (by omega)).trans (cfin_pfx I k (0, 0) n hn)
          rw [n2] at hp1
          have hp2 : Pfx (gam (cgd I k (0, 0) o) (z + 1)) (cfin I k (0, 0) n) := (pfx_app _ (cod_lt hk hc)).trans hp1
          obtain ⟨s1, s2⟩ := pfx_read (p := cgd I k (0, 0) o) (q := cfin I k (0, 0) n) hgz.2.2.2.1 hp2
          obtain ⟨t1, t2⟩ := pfx_read (p := gam (cgd I k (0, 0) o) (z + 1)) (q := cfin I k (0, 0) n) (cod_lt hk hc) hp1
          have hg := gamma_of_code (v := z + 1) ⟨by omega, by omega⟩ s2 s1
          have hgr := get_of_code hk hc t2 t1
          have ih := grun_of_cfin I k n hk hn hz f (o + z + 1) (by omega) (by omega) n1
          have e2 : (cgd I k (0, 0) (o + z + 1)).2 = (gam (cgd I k (0, 0) o) (z + 1)).2 + cost (zg (I (o + z)) - 1) k := by rw [n2]; rfl
          rw [e2] at ih
          refine ⟨(0, (gam (cgd I k (0, 0) o) (z + 1)).2 + cost (zg (I (o + z)) - 1) k, z, I (o + z)), ?_, .inr (.inr ⟨rfl, h3, (li I (n - (o + z + 1)) (o + z + 1), 0, (cfin I k (0, 0) n).2), ?_, ?_⟩)⟩
          · unfold Stp
            rw [hg]
            refine .inr (.inr (.inr ⟨rfl, by show z + 1 - 1 < n - o; omega, _, hgr, .inr (.inr ⟨rfl, ?_, ?_⟩)⟩))
            · show zg (I (o + z)) - 1 ≠ 1099511627775
              unfold coded at hcz; omega
            · show (0, (gam (cgd I k (0, 0) o) (z + 1)).2 + cost (zg (I (o + z)) - 1) k, z, I (o + z)) = (0, (gam (cgd I k (0, 0) o) (z + 1)).2 + cost (zg (I (o + z)) - 1) k, z + 1 - 1, zgi (zg (I (o + z)) - 1 + 1))
              rw [show zg (I (o + z)) - 1 + 1 = zg (I (o + z)) from by omega, zgi_zg]; rfl
          · rw [show n - o - z - 1 = n - (o + z + 1) from by omega]
            exact ih
          · show (li I (n - o) o, (0 : Int), _) = (if (0 : Int) = 0 then List.replicate z 0 ++ I (o + z) :: li I (n - (o + z + 1)) (o + z + 1) else [], 0, _)
            rw [if_pos rfl, ← li_runs I (n - (o + z + 1)) z o h2, show z + 1 + (n - (o + z + 1)) = n - o from by omega]

end Go.Proofs.Ytjimamjhakainaa.Runs
