/- Parts of a list, two and two: their noughts, greatest Zigs and costs; what a list costs with an order, and the order by which it costs least. No condition. -/
import Derived.Test.YtjimamjhakainaaM25
import Derived.Deep.MidRow
import Derived.Deep.Upon
namespace Go.Proofs.Ytjimamjhakainaa.Part
open Go.RowKit Go.Shelf Bit Rice Runs

theorem bd_even (n p i : Nat) : bd n (p + 1) (2 * i) = bd n p i := by
  unfold bd
  rw [Nat.pow_succ, Nat.mul_comm (2 ^ p) 2, Nat.mul_assoc]
  exact Nat.mul_div_mul_left _ _ (by decide)
theorem bd_odd (n p i : Nat) : bd n (p + 1) (2 * i + 1 + 1) = bd n p (i + 1) := by
  rw [show 2 * i + 1 + 1 = 2 * (i + 1) by omega]
  exact bd_even n p (i + 1)
theorem nz_app (I : Nat → Int) (f a : Nat) : ∀ b, nz (fun j => I (f + j)) (a + b) = nz (fun j => I (f + j)) a + nz (fun j => I (f + a + j)) b
  | 0 => rfl
  | b + 1 => by
    have ih := nz_app I f a b
    show (if I (f + (a + b)) = 0 then nz (fun j => I (f + j)) (a + b) + 1 else nz (fun j => I (f + j)) (a + b)) = _ + (if I (f + a + b) = 0 then nz (fun j => I (f + a + j)) b + 1 else nz (fun j => I (f + a + j)) b)
    rw [← Nat.add_assoc, ih]
    split <;> omega
theorem gr_app (I : Nat → Int) (f a : Nat) : ∀ b, gr (fun j => I (f + j)) (a + b) = max (gr (fun j => I (f + j)) a) (gr (fun j => I (f + a + j)) b)
  | 0 => (Nat.max_eq_left (Nat.zero_le _)).symm
  | b + 1 => by
    have ih := gr_app I f a b
    show max (gr (fun j => I (f + j)) (a + b)) (zg (I (f + (a + b)))) = max _ (max (gr (fun j => I (f + a + j)) b) (zg (I (f + a + b))))
    rw [← Nat.add_assoc, ih, Nat.max_assoc]
theorem tt_app (I : Nat → Int) (f a k : Nat) : ∀ b, tt (fun j => I (f + j)) (a + b) k = tt (fun j => I (f + j)) a k + tt (fun j => I (f + a + j)) b k
  | 0 => rfl
  | b + 1 => by
    have ih := tt_app I f a k b
    show tot (zs fun j => I (f + j)) (k : Int) (a + b) + cost (zg (I (f + (a + b)))) (k : Int) = _ + (tot (zs fun j => I (f + a + j)) (k : Int) b + cost (zg (I (f + a + b))) (k : Int))
    have e1 : tot (zs fun j => I (f + j)) (k : Int) (a + b) = tt (fun j => I (f + j)) (a + b) k := rfl
    have e2 : tot (zs fun j => I (f + a + j)) (k : Int) b = tt (fun j => I (f + a + j)) b k := rfl
    rw [e1, e2, ih, Nat.add_assoc f a b]
    omega
/-- A part's noughts, greatest Zig, costs. -/
def tN (I : Nat → Int) (len p i : Nat) : Nat := nz (pI I len p i) (pn len p i)
def tG (I : Nat → Int) (len p i : Nat) : Nat := gr (pI I len p i) (pn len p i)
def tR (I : Nat → Int) (len p i : Nat) : Nat → Nat := tt (pI I len p i) (pn len p i)
theorem pn_half (len p i : Nat) : pn len p i = pn len (p + 1) (2 * i) + pn len (p + 1) (2 * i + 1) := by
  unfold pn
  have h1 := bd_even len p i
  have h2 := bd_odd len p i
  have h3 := bd_mono len (p + 1) (2 * i)
  have h4 := bd_mono len (p + 1) (2 * i + 1)
  omega
theorem pI_left (I : Nat → Int) (len p i : Nat) : pI I len p i = pI I len (p + 1) (2 * i) := by
  unfold pI; rw [bd_even]
theorem pI_right (I : Nat → Int) (len p i : Nat) : pI I len (p + 1) (2 * i + 1) = fun j => I (bd len (p + 1) (2 * i) + pn len (p + 1) (2 * i) + j) := by
  unfold pI pn
  have h3 := bd_mono len (p + 1) (2 * i)
  rw [show bd len (p + 1) (2 * i) + (bd len (p + 1) (2 * i + 1) - bd len (p + 1) (2 * i)) = bd len (p + 1) (2 * i + 1) by omega]
theorem tN_half (I : Nat → Int) (len p i : Nat) : tN I len (p + 1) (2 * i) + tN I len (p + 1) (2 * i + 1) = tN I len p i := by
  unfold tN
  rw [pI_left I len p i, pn_half len p i, pI_right I len p i]
  exact (nz_app I _ _ _).symm
theorem tG_half (I : Nat → Int) (len p i : Nat) : max (tG I len (p + 1) (2 * i)) (tG I len (p + 1) (2 * i + 1)) = tG I len p i := by
  unfold tG
  rw [pI_left I len p i, pn_half len p i, pI_right I len p i]
  exact (gr_app I _ _ _).symm
theorem tR_half (I : Nat → Int) (len p i k : Nat) : tR I len (p + 1) (2 * i) k + tR I len (p + 1) (2 * i + 1) k = tR I len p i k := by
  unfold tR
  rw [pI_left I len p i, pn_half len p i, pI_right I len p i]
  exact (tt_app I _ _ k _).symm
theorem pn_le (len p i : Nat) (hi : i < 2 ^ p) : pn len p i ≤ len := by unfold pn; have := bd_le len p (i + 1) hi; omega
theorem tN_le (I : Nat → Int) (len p i : Nat) (hi : i < 2 ^ p) : tN I len p i ≤ len := Nat.le_trans (nz_le _ _) (pn_le len p i hi)
theorem tR_le (I : Nat → Int) (len p i k : Nat) (hi : i < 2 ^ p) : tR I len p i k ≤ 64 * len := Nat.le_trans (tt_le _ _ _) (Nat.mul_le_mul_left _ (pn_le len p i hi))

/-- What a list's code has with an order. -/
def pcost (I : Nat → Int) (len p i : Nat) : Nat := (wy (pI I len p i) (pn len p i)).2.2
def csum (I : Nat → Int) (len p : Nat) : Nat → Nat
  | 0 => 3
  | k + 1 => csum I len p k + pcost I len p k
def lc (I : Nat → Int) (len p : Nat) : Nat := csum I len p (2 ^ p)
def lcc (I : Nat → Int) (len : Nat) (p : Int) : Nat := if cd I len ∧ ord len p then lc I len p.toNat else 0
theorem wy_le (I : Nat → Int) (n : Nat) : (wy I n).2.2 ≤ 12 + rw_ I n * n := by
  unfold wy
  by_cases h : nz I n = n
  · rw [if_pos h]
    show 6 ≤ _
    omega
  · rw [if_neg h]
    dsimp only
    generalize (if n ≤ 2 * nz I n ∧ 11 + cstI I (rbs I n 30 : Nat) n < 6 + tt I n (kr I n) then (2, rbs I n 30, 11 + cstI I (rbs I n 30 : Nat) n) else (1, kr I n, 6 + tt I n (kr I n))) = a
    by_cases h2 : 12 + rw_ I n * n < a.2.2
    · rw [if_pos h2]; exact Nat.le_refl _
    · rw [if_neg h2]; omega
theorem pcost_le (I : Nat → Int) (len p i : Nat) (hz : allZ I len) (hi : i < 2 ^ p) : pcost I len p i ≤ 12 + 41 * len := by
  have h1 := wy_le (pI I len p i) (pn len p i)
  have h2 := rw_le (pI I len p i) (pn len p i) (gr_cd (allZ_part hz p i hi))
  have h3 := Nat.mul_le_mul h2 (pn_le len p i hi)
  unfold pcost
  omega
theorem csum_le (I : Nat → Int) (len p : Nat) (hz : allZ I len) : ∀ k, k ≤ 2 ^ p → csum I len p k ≤ 3 + k * (12 + 41 * len)
  | 0, _ => by show 3 ≤ _; omega
  | k + 1, h => by
    have h1 := csum_le I len p hz k (by omega)
    have h2 := pcost_le I len p k hz (by omega)
    have h3 : (k + 1) * (12 + 41 * len) = k * (12 + 41 * len) + (12 + 41 * len) := Nat.succ_mul _ _
    show csum I len p k + pcost I len p k ≤ _
    omega
theorem csum_small (I : Nat → Int) (len p : Nat) (hz : allZ I len) (hlen : len ≤ 65536) (hp : p ≤ 6) (k : Nat) (h : k ≤ 2 ^ p) : csum I len p k ≤ 1000000000 := by
  have h1 := csum_le I len p hz k h
  have h2 : 2 ^ p ≤ 64 := Nat.pow_le_pow_right (n := 2) (by decide) hp
  have h3 : k * (12 + 41 * len) ≤ 64 * (12 + 41 * 65536) := Nat.mul_le_mul (by omega) (by omega)
  omega
theorem lc_zero (I : Nat → Int) (len : Nat) : lc I len 0 = 3 + (wy I len).2.2 := by
  have e1 : pI I len 0 0 = I := by
    unfold pI bd; funext j; simp
  have e2 : pn len 0 0 = len := by unfold pn bd; simp
  show 3 + pcost I len 0 0 = _
  unfold pcost
  rw [e1, e2]
/-- The best order, from the least one up; from the greatest one down. -/
def up (I : Nat → Int) (len : Nat) : Nat → Nat × Nat
  | 0 => (0, lc I len 0)
  | p + 1 => if lc I len (p + 1) < (up I len p).2 then (p + 1, lc I len (p + 1)) else up I len p
def dn (I : Nat → Int) (len F : Nat) : Nat → Nat × Nat
  | 0 => (F, lc I len F)
  | k + 1 => if lc I len (F - (k + 1)) ≤ (dn I len F k).2 then (F - (k + 1), lc I len (F - (k + 1))) else dn I len F k
theorem up_is (I : Nat → Int) (len : Nat) : ∀ p, (up I len p).1 ≤ p ∧ (up I len p).2 = lc I len (up I len p).1 ∧ (∀ j, j ≤ p → (up I len p).2 ≤ lc I len j) ∧ ∀ j, j < (up I len p).1 → (up I len p).2 < lc I len j
  | 0 => ⟨Nat.le_refl _, rfl, fun j hj => by rw [show j = 0 by omega]; exact Nat.le_refl _, fun j hj => absurd hj (Nat.not_lt_zero _)⟩
  | p + 1 => by
    obtain ⟨h1, h2, h3, h4⟩ := up_is I len p
    have e : up I len (p + 1) = if lc I len (p + 1) < (up I len p).2 then (p + 1, lc I len (p + 1)) else up I len p := rfl
    by_cases h : lc I len (p + 1) < (up I len p).2
    · rw [if_pos h] at e
      rw [e]
      refine ⟨Nat.le_refl _, rfl, fun j hj => ?_, fun j hj => ?_⟩
      · show lc I len (p + 1) ≤ _
        by_cases ej : j = p + 1
        · rw [ej]; exact Nat.le_refl _
        · have := h3 j (by omega); omega
      · have hj' : j < p + 1 := hj
        show lc I len (p + 1) < _
        have := h3 j (by omega); omega
    · rw [if_neg h] at e
      rw [e]
      refine ⟨by omega, h2, fun j hj => ?_, h4⟩
      by_cases ej : j = p + 1
      · rw [ej]; omega
      · exact h3 j (by omega)
theorem dn_is (I : Nat → Int) (len F : Nat) : ∀ k, k ≤ F → F - k ≤ (dn I len F k).1 ∧ (dn I len F k).1 ≤ F ∧ (dn I len F k).2 = lc I len (dn I len F k).1 ∧ (∀ j, F - k ≤ j → j ≤ F → (dn I len F k).2 ≤ lc I len j) ∧ ∀ j, F - k ≤ j → j < (dn I len F k).1 → (dn I len F k).2 < lc I len j
  | 0, _ => ⟨Nat.le_refl _, Nat.le_refl _, rfl, fun j hj hk => (show j = F by omega) ▸ Nat.le_refl _, fun j hj hk => by have hk' : j < F := hk; omega⟩
  | k + 1, hk => by
    obtain ⟨h0, h1, h2, h3, h4⟩ := dn_is I len F k (by omega)
    have e : dn I len F (k + 1) = if lc I len (F - (k + 1)) ≤ (dn I len F k).2 then (F - (k + 1), lc I len (F - (k + 1))) else dn I len F k := rfl
    by_cases h : lc I len (F - (k + 1)) ≤ (dn I len F k).2
    · rw [if_pos h] at e
      rw [e]
      refine ⟨Nat.le_refl _, Nat.sub_le _ _, rfl, fun j hj hk2 => ?_, fun j hj hk2 => ?_⟩
      · show lc I len (F - (k + 1)) ≤ _
        by_cases ej : j = F - (k + 1)
        · rw [ej]; exact Nat.le_refl _
        · have := h3 j (by omega) hk2; omega
      · have hk3 : j < F - (k + 1) := hk2
        omega
    · rw [if_neg h] at e
      rw [e]
      refine ⟨by omega, h1, h2, fun j hj hk2 => ?_, fun j hj hk2 => ?_⟩
      · by_cases ej : j = F - (k + 1)
        · rw [ej]; omega
        · exact h3 j (by omega) hk2
      · by_cases ej : j = F - (k + 1)
        · rw [ej]; omega
        · exact h4 j (by omega) hk2
theorem dn_up (I : Nat → Int) (len F : Nat) : dn I len F F = up I len F := by
  obtain ⟨a0, a1, a2, a3, a4⟩ := dn_is I len F F (Nat.le_refl _)
  obtain ⟨b1, b2, b3, b4⟩ := up_is I len F
  have h1 := a3 (up I len F).1 (by omega) b1
  have h2 := b3 (dn I len F F).1 a1
  have e2 : (dn I len F F).2 = (up I len F).2 := by omega
  have e1 : (dn I len F F).1 = (up I len F).1 := by
    rcases Nat.lt_trichotomy (dn I len F F).1 (up I len F).1 with h | h | h
    · have := b4 _ h; omega
    · exact h
    · have := a4 _ (by omega) h; omega
  exact Prod.ext e1 e2
theorem up_small (I : Nat → Int) (len p : Nat) (hz : allZ I len) (hlen : len ≤ 65536) : (up I len p).2 ≤ 1000000000 := by
  obtain ⟨b1, b2, b3, b4⟩ := up_is I len p
  have := csum_small I len 0 hz hlen (by decide) (2 ^ 0) (Nat.le_refl _)
  have h2 := b3 0 (Nat.zero_le _)
  have e : lc I len 0 = csum I len 0 (2 ^ 0) := rfl
  omega
end Go.Proofs.Ytjimamjhakainaa.Part
namespace Go.Proofs.Ytjimamjhakainaa.Part
open Go.RowKit Bit Rice Runs

def rl (R : Nat → Nat) : List Value := (List.range 31).map fun k => .int .i64 (R k : Int)
theorem rl_len (R : Nat → Nat) : (rl R).length = 31 := by simp [rl]
theorem rl_at (R : Nat → Nat) (k : Nat) (h : k < 31) : (rl R)[k]? = some (.int .i64 (R k : Int)) := by simp [rl, h]
theorem s58 : (Try.prog.info? 58).map (·.size) = some 31 := by kernel_rfl
theorem tal_range {w : World} {p z g : Nat} {R : Nat → Nat} (h : w.rowIs p 60 33 (tc z g R)) : w.rangeAt p 2 (rl R) := fun j v hv => by
  have hj : j < 31 := by rw [← rl_len R]; exact (List.getElem?_eq_some_iff.1 hv).1
  rw [rl_at R j hj] at hv
  cases hv
  have := h.cell (show 2 + j < 33 by omega)
  rw [tc_2] at this
  exact this
/-- What stands in and: the first box, put together up to some parameter. -/
structure ASt (w : World) (Z : Array Value) (z g : Nat) (R : Nat → Nat) (wr : World) : Prop where
  row : wr.rowIs w.heap.size 60 33 (tc z g R)
  res : wr.heap[w.heap.size + 2]? = some (.cells Z 60 (0, 0))
  below : Below w.heap.size w wr
theorem ASt.set {w wr : World} {Z : Array Value} {z g z2 g2 : Nat} {R R2 : Nat → Nat} (h : ASt w Z z g R wr) (i : Nat) (v : Value) (hv : ∀ k, k < 33 → (if k = i then v else tc z g R k) = tc z2 g2 R2 k) : ASt w Z z2 g2 R2 (wr.setCell ⟨w.heap.size, i, none⟩ v) :=
  ⟨(h.row.set i v).congr hv, (Below.heap_setCell _ ⟨w.heap.size, i, none⟩ _ _ (show w.heap.size + 2 ≠ w.heap.size by omega)).trans h.res, h.below.setCell (p := ⟨w.heap.size, i, none⟩) (Nat.le_refl _) _⟩
theorem wr_sum (x y s : Nat) (h : x + y = s) (hs : x + y ≤ 1000000000) : wrap64 ((x : Int) + (y : Int)) = (s : Int) ∧ IntKind.i64.wrap ((x : Int) + (y : Int)) = (s : Int) := by
  subst h
  push_cast
  exact ⟨IntWalk.wrap64_in _ (by omega), IntWalk.i64_in _ (by omega)⟩
theorem max_nat {x y s : Nat} (h : max x y = s) : max (x : Int) (y : Int) = (s : Int) := by omega
theorem as_0 (z g z2 : Nat) (R : Nat → Nat) (k : Nat) : (if k = 0 then Value.int .i64 (z2 : Int) else tc z g R k) = tc z2 g R k := by
  unfold tc; split <;> rfl
theorem as_1 (z g g2 : Nat) (R : Nat → Nat) (k : Nat) : (if k = 1 then Value.int .u64 (g2 : Int) else tc z g R k) = tc z g2 R k := by
  unfold tc
  by_cases h : k = 1
  · subst h; rfl
  · rw [if_neg h, if_neg h, if_neg h]
theorem as_2 (z g : Nat) (R R' : Nat → Nat) (m k : Nat) (x : Nat) (hx : x = R m + R' m) : (if k = 2 + m then Value.int .i64 (x : Int) else tc z g (fun k => if k < m then R k + R' k else R k) k) = tc z g (fun k => if k < m + 1 then R k + R' k else R k) k := by
  unfold tc
  by_cases h : k = 2 + m
  · subst h
    rw [if_pos rfl, if_neg (by omega), if_neg (by omega), show 2 + m - 2 = m by omega, hx]
    dsimp only
    rw [if_pos (by omega)]
  · rw [if_neg h]
    by_cases h0 : k = 0
    · rw [if_pos h0, if_pos h0]
    · rw [if_neg h0, if_neg h0]
      by_cases h1 : k = 1
      · rw [if_pos h1, if_pos h1]
      · rw [if_neg h1, if_neg h1]
        dsimp only
        by_cases h2 : k - 2 < m
        · rw [if_pos h2, if_pos (by omega)]
        · rw [if_neg h2, if_neg (by omega)]
theorem index_c (C : List Value) (m : Nat) (v : Value) (hm : m < 31) (hc : C[m]? = some v) (w : World) : (Instr.index 58 (.agg C.toArray) (.int .i64 (m : Int))).run Try.prog w = .ok v w := by
  have hn : (0 : Int) ≤ (m : Int) ∧ (m : Int) < 31 := by omega
  simp [Instr.index, run_underlying Try.underlying58, asIntOf, hc, hm, go_sem]
set_option maxRecDepth 100000 in
set_option maxHeartbeats 1000000 in
theorem and_any (w : World) (z g z' g' : Nat) (R R' : Nat → Nat) (hz : z + z' ≤ 1000000000) (hR : ∀ k, k < 31 → R k + R' k ≤ 1000000000) :
    Calls Try.prog 73 #[.agg (tal z g R), .agg (tal z' g' R')] w (TalPost w (z + z') (max g g') fun k => R k + R' k) := by
  have hs1 := tal_size z g R
  have hs2 := tal_size z' g' R'
  have hr1 : (w.alloc (.cells (tal z g R) 60)).rowIs w.heap.size 60 33 (tc z g R) := tal_row (heap_alloc_new _ _)
  have hr2 : ((w.alloc (.cells (tal z g R) 60)).alloc (.cells (tal z' g' R') 60)).rowIs (w.heap.size + 1) 60 33 (tc z' g' R') := by
    have := tal_row (heap_alloc_new (w.alloc (.cells (tal z g R) 60)) (.cells (tal z' g' R') 60))
    rw [World.size_alloc] at this
    exact this
  obtain ⟨T1, hT1⟩ : ∃ T, tal z g R = T := ⟨_, rfl⟩
  obtain ⟨T2, hT2⟩ : ∃ T, tal z' g' R' = T := ⟨_, rfl⟩
  have hz0 := fun w => z60 w
  have hss0 := tal_size 0 0 fun _ => 0
  obtain ⟨Z, hZ⟩ : ∃ Z, tal 0 0 (fun _ => 0) = Z := ⟨_, rfl⟩
  rw [hZ] at hz0 hss0
  rw [hT1] at hs1 hr1 hr2 ⊢
  rw [hT2] at hs2 hr2 ⊢
  have c10 : ∀ h : 0 < T1.size, T1[0]'h = Value.int .i64 (z : Int) := fun h => by
    have := tal_at z g R 0 (by decide); rw [hT1, Array.getElem?_eq_getElem h] at this; exact (Option.some.inj this)
  have c11 : ∀ h : 1 < T1.size, T1[1]'h = Value.int .u64 (g : Int) := fun h => by
    have := tal_at z g R 1 (by decide); rw [hT1, Array.getElem?_eq_getElem h] at this; exact (Option.some.inj this)
  have c20 : ∀ h : 0 < T2.size, T2[0]'h = Value.int .i64 (z' : Int) := fun h => by
    have := tal_at z' g' R' 0 (by decide); rw [hT2, Array.getElem?_eq_getElem h] at this; exact (Option.some.inj this)
  have c21 : ∀ h : 1 < T2.size, T2[1]'h = Value.int .u64 (g' : Int) := fun h => by
    have := tal_at z' g' R' 1 (by decide); rw [hT2, Array.getElem?_eq_getElem h] at this; exact (Option.some.inj this)
  obtain ⟨W, hW⟩ : ∃ W, ((w.alloc (.cells T1 60)).alloc (.cells T2 60)).alloc (.cells Z 60) = W := ⟨_, rfl⟩
  have hst : ASt w Z z g R W := ⟨by rw [← hW]; exact (hr1.alloc _).alloc _, by
    have := heap_alloc_new ((w.alloc (.cells T1 60)).alloc (.cells T2 60)) (.cells Z 60)
    rw [hW] at this
    simpa using this, by rw [← hW]; exact (((Below.refl w.heap.size w).alloc (Nat.le_refl _) _).alloc (by simp) _).alloc (by simp; omega) _⟩
  have hrow2 : W.rowIs (w.heap.size + 1) 60 33 (tc z' g' R') := by rw [← hW]; exact hr2.alloc _
  have HST : RowKit.Hid (ASt w Z (z + z') (max g g') (fun k => if k < 0 then R k + R' k else R k) ((W.setCell ⟨w.heap.size, 0, none⟩ (.int .i64 ((z + z' : Nat) : Int))).setCell ⟨w.heap.size, 1, none⟩ (.int .u64 ((max g g' : Nat) : Int)))) := hid (((hst.set (z2 := z + z') (g2 := g) (R2 := R) 0 _ fun k _ => as_0 z g (z + z') R k).set (z2 := z + z') (g2 := max g g') (R2 := fun k => if k < 0 then R k + R' k else R k) 1 _ fun k _ => by rw [as_1]; exact tc_congr (fun k _ => by rw [if_neg (Nat.not_lt_zero k)]) k (by assumption)))
  have HRG : RowKit.Hid (∀ v0 v1, ((W.setCell ⟨w.heap.size, 0, none⟩ v0).setCell ⟨w.heap.size, 1, none⟩ v1).rangeAt (w.heap.size + 1) 2 (rl R')) := hid fun v0 v1 => tal_range ((hrow2.setOther (a := ⟨w.heap.size, 0, none⟩) (show w.heap.size + 1 ≠ w.heap.size by omega) v0).setOther (a := ⟨w.heap.size, 1, none⟩) (show w.heap.size + 1 ≠ w.heap.size by omega) v1)
  obtain ⟨zz, hzz⟩ : ∃ zz, z + z' = zz := ⟨_, rfl⟩
  obtain ⟨mm, hmm⟩ : ∃ mm, max g g' = mm := ⟨_, rfl⟩
  obtain ⟨hzw, hzw2⟩ := wr_sum z z' zz hzz hz
  have hmx := max_nat hmm
  rw [hzz, hmm] at HST ⊢
  clear hzz hmm
  have HRL := hid fun k hk => rl_at R' k hk
  have HS58 := hid (by rw [rl_len]; exact s58 : (Try.prog.info? 58).map (·.size) = some (rl R').length)
  generalize rl R' = C at *
  have HW := hid hW
  have HC10 := hid c10; have HC20 := hid c20
  have x0 := hst.row.cell (show 0 < 33 by decide)
  have x1 := hst.row.cell (show 1 < 33 by decide)
  have x3 := hrow2.cell (show 1 < 33 by decide)
  rw [tc_0] at x0
  rw [tc_1] at x1 x3
  have y0 := hst.row.frozen 0
  have y1 := hst.row.frozen 1
  clear hT1 hT2 hZ hr1 hr2 hst hrow2 hW c10 c11 c20 c21
  go_enter Try.func73, Try.ntmps73
  go_wp2_with fail
  rw [HC10.out, HC20.out, HW.out]
  go_simp
  iterate 42 (first | go_values | go_skip | go_guarded | go_step | go_upon | go_back | go_simp)
  refine wpList_load_mid rfl 58 _ rfl (w.heap.size + 1) 2 rfl C _ (HRG.out _ _) Try.underlying58 rfl HS58.out ?_
  clear x0 x1 x3 y0 y1 hzw hzw2 hmx
  generalize hWW : (W.setCell ⟨w.heap.size, 0, none⟩ (.int .i64 (zz : Int))).setCell ⟨w.heap.size, 1, none⟩ (.int .u64 (mm : Int)) = W1 at *
  clear hWW
  go_wp2_with fail
  go_loopg [21] 31 (fun gh i wr => ∃ m : Nat, m ≤ 31 ∧ gh = 31 - m ∧ i = .int .i64 (m : Int) ∧ ASt w Z zz mm (fun k => if k < m then R k + R' k else R k) wr)
  case atStart => exact ⟨0, by decide, rfl, rfl, HST.out⟩
  case round =>
    obtain ⟨m, hm, hgh, rfl, hst⟩ := hrel
    have HG := hid hgh
    have HA := hid hst
    clear hgh
    by_cases hlt : m < 31
    · have hlt2 : (m : Int) < 31 := by omega
      have hc := HRL.out m hlt
      have hix := index_c C m _ hlt hc wr
      have cv := hst.row.cell (show 2 + m < 33 by omega)
      rw [tc_2, if_neg (Nat.lt_irrefl m)] at cv
      have fv := hst.row.frozen (2 + m)
      obtain ⟨s, hs⟩ : ∃ s, R m + R' m = s := ⟨_, rfl⟩
      obtain ⟨hw1, hw2⟩ := wr_sum (R m) (R' m) s hs (hR m hlt)
      have HS := hid hs
      clear hst hs hc
      go_wp2_with fail
      go_roundg (31 - (m + 1))
      case measure => rw [HG.out]; omega
      case rel => exact ⟨m + 1, by omega, rfl, by go_num, HA.out.set (2 + m) _ fun k _ => as_2 zz mm R R' m k s HS.out.symm⟩
    · have hge : ¬ (m : Int) < 31 := by omega
      obtain rfl : m = 31 := by omega
      have HT := hid (row_tal hst.row)
      have HCG := hid (tal_congr (z := zz) (g := mm) (R := fun k => if k < 31 then R k + R' k else R k) (R' := fun k => R k + R' k) fun k hk => if_pos hk)
      rw [HCG.out] at HT
      have hs1 := s60t zz mm fun k => R k + R' k
      have ho1 := tal_one zz mm fun k => R k + R' k
      have hs2 := tal_size zz mm fun k => R k + R' k
      obtain ⟨T, hT⟩ : ∃ T, tal zz mm (fun k => R k + R' k) = T := ⟨_, rfl⟩
      have HT2 := hid hT
      rw [hT] at hs1 ho1 hs2 HT
      have HR1 := hid hst.res
      have HB := hid hst.below
      have HZS := hid hss0
      clear hT HCG
      have HS1 := hid hs1; have HO1 := hid ho1; have HS2 := hid hs2
      clear hst hs1 ho1 hs2 hss0
      go_wp2_with (first
        | (refine wpList_load_row rfl 60 _ rfl w.heap.size rfl 60 T (0, 0) _ HT.out Try.underlying60 rfl HS1.out ?_)
        | (refine wpList_store_row rfl 60 _ _ rfl (w.heap.size + 2) T rfl rfl 60 Z HR1.out HS1.out (by rw [HZS.out, HS2.out]) HO1.out ?_))
      refine bodyPost_ret (results_cell_row (p := 4) (ty := 60) (by kernel_rfl) _ _ (w.heap.size + 2) 60 T (0, 0) _ rfl (setRow_heap _ _ _ _ _ _ HR1.out) Try.underlying60 rfl HS1.out) rfl ?_
      exact ⟨by rw [HT2.out], below_setRow HB.out (by omega) _⟩
end Go.Proofs.Ytjimamjhakainaa.Part
namespace Go.Proofs.Ytjimamjhakainaa.Part
open Go.RowKit Go.Shelf Bit Rice Runs

theorem heap_setCells_ne (g : Nat) : ∀ (vs : List Value) (o : Nat) (w : World) (k : Nat), k ≠ g → (w.setCells g o vs).heap[k]? = w.heap[k]?
  | [], _, _, _, _ => rfl
  | v :: r, o, w, k, h => by
    rw [World.setCells]
    exact (heap_setCells_ne g r (o + 1) _ k h).trans (Below.heap_setCell _ ⟨g, o, none⟩ _ k h)
theorem size_setCells (g : Nat) : ∀ (vs : List Value) (o : Nat) (w : World), (w.setCells g o vs).heap.size = w.heap.size
  | [], _, _ => rfl
  | v :: r, o, w => by
    rw [World.setCells, size_setCells g r (o + 1) _]
    simp
theorem below_setCells {B : Nat} {w0 w : World} (h : Below B w0 w) {g : Nat} (hg : B ≤ g) : ∀ (vs : List Value) (o : Nat), Below B w0 (w.setCells g o vs) := fun vs => by
  induction vs generalizing w with
  | nil => intro o; exact h
  | cons v r ih => intro o; rw [World.setCells]; exact ih (h.setCell (p := ⟨g, o, none⟩) hg v) (o + 1)
/-- The i-th tally of an order, as cells. -/
def tT (I : Nat → Int) (len p i : Nat) : List Value := (tal (tN I len p i) (tG I len p i) (tR I len p i)).toList
theorem tT_len (I : Nat → Int) (len p i : Nat) : (tT I len p i).length = 33 := by unfold tT; rw [Array.length_toList]; exact tal_size _ _ _
theorem tT_arr (I : Nat → Int) (len p i : Nat) : (tT I len p i).toArray = tal (tN I len p i) (tG I len p i) (tR I len p i) := by unfold tT; rw [Array.toArray_toList]
/-- Those of y tallies of an order that a list names lie there; all y places may be written. -/
structure Tl (W : World) (g : Nat) (I : Nat → Int) (len p y : Nat) (l : List Nat) : Prop where
  at_ : ∀ i, i ∈ l → W.rangeAt g (i * 33) (tT I len p i)
  th : W.there g 0 (y * 33)
theorem Tl.of_block {W W' : World} {g : Nat} {I : Nat → Int} {len p y : Nat} {l : List Nat} (h : Tl W g I len p y l) (hb : W'.heap[g]? = W.heap[g]?) : Tl W' g I len p y l :=
  ⟨fun i hi j v hv => (World.cell?_of_block (a := ⟨g, i * 33 + j, none⟩) hb).trans (h.at_ i hi j v hv), fun j hj => by
    rw [World.cell?_of_block (a := ⟨g, 0 + j, none⟩) hb, World.frozen?_of_block (a := ⟨g, 0 + j, none⟩) hb]; exact h.th j hj⟩
theorem Tl.sub {W : World} {g : Nat} {I : Nat → Int} {len p y : Nat} {l : List Nat} (h : Tl W g I len p y l) {i : Nat} (hi : i < y) : W.there g (i * 33) 33 := fun j hj => by
  have := h.th (i * 33 + j) (by omega)
  rwa [Nat.zero_add] at this
theorem Tl.set {W : World} {g : Nat} {I : Nat → Int} {len p y : Nat} {l : List Nat} (h : Tl W g I len p y l) {k : Nat} (hk : k < y) : Tl (W.setCells g (k * 33) (tT I len p k)) g I len p y (l ++ [k]) := by
  refine ⟨fun i hi => ?_, World.there_setCells h.th _ _ _⟩
  by_cases e : i = k
  · subst e
    exact World.rangeAt_setCells_same _ _ _ _ (by rw [tT_len]; exact h.sub hk)
  · have hi2 : i ∈ l := by
      rcases List.mem_append.1 hi with h2 | h2
      · exact h2
      · exact absurd (List.mem_singleton.1 h2) e
    exact World.rangeAt_setCells_apart (h.at_ i hi2) _ _ _ (by rw [tT_len, tT_len]; omega)
theorem Try.info60 : (Try.prog.info? 60).map (fun i => (i.zero, i.size, i.bytes)) = some (some (.agg (tal 0 0 fun _ => 0)), 33, 264) := by kernel_rfl
theorem fz_new (w : World) (c : Array Value) (t i : Nat) : (w.alloc (.cells c t)).frozen? ⟨w.heap.size, i, none⟩ = false :=
  (World.rowIs_alloc w c t (fun i => (c[i]?).getD undef) fun i hi => by rw [Array.getElem?_eq_getElem hi]; rfl).frozen i
theorem tl_made (w : World) (Z : Array Value) (y : Nat) (I : Nat → Int) (len p : Nat) : Tl (w.alloc (.cells (madeCells Z (y * 33)) 60)) w.heap.size I len p y [] := by
  refine ⟨fun i hi => absurd hi (List.not_mem_nil), fun j hj => ?_⟩
  rw [Nat.zero_add]
  refine ⟨?_, ?_⟩
  · rw [World.cell?_alloc_at _ _ _ _ rfl]
    rw [Array.getElem?_eq_getElem (by rw [size_madeCells]; exact hj)]
    rfl
  · exact fz_new _ _ _ _
theorem sT60 (I : Nat → Int) (len p i : Nat) : (Try.prog.info? 60).map (·.size) = some (tT I len p i).length := by rw [tT_len]; exact s60
theorem tT_one (I : Nat → Int) (len p i : Nat) : ∀ v ∈ tT I len p i, v.oneCell' = true := fun v hv =>
  Array.all_eq_true_iff_forall_mem.1 (tal_one (tN I len p i) (tG I len p i) (tR I len p i)) v (by unfold tT at hv; simpa using hv)
theorem run_sc {P : Program} (w : World) (b o : Nat) (T : List Value) (ht : w.there b o T.length) (h1 : ∀ v ∈ T, v.oneCell' = true) : (storeCells ⟨b, o, none⟩ T).run P w = .ok () (w.setCells b o T) := by
  have := run_storeCells_cells (P := P) b o T 0 w (fun j hj => by simpa using (ht j hj).1) (fun j hj => by simpa using (ht j hj).2) h1
  simpa only [Nat.add_zero] using this
end Go.Proofs.Ytjimamjhakainaa.Part
/- tallies: the tallies of all parts of a list. Conditions: the list lies in memory, is coded, has the order. -/
namespace Go.Proofs.Ytjimamjhakainaa.Part
open Go.RowKit Go.Shelf Bit Rice Runs
attribute [local go_sem] Oper.semAt_some

theorem shl_p (p y : Nat) (hp : p ≤ 6) (hy : 2 ^ p = y) : wrap64 ((2 : Int) ^ p) = (y : Int) ∧ y ≤ 64 ∧ 1 ≤ y := by
  have h1 : y ≤ 64 := by rw [← hy]; exact Nat.pow_le_pow_right (n := 2) (by decide) hp
  have h2 : 1 ≤ y := by rw [← hy]; exact Nat.one_le_two_pow
  refine ⟨?_, h1, h2⟩
  rw [show (2 : Int) ^ p = ((2 ^ p : Nat) : Int) from by push_cast; rfl, hy]
  exact IntWalk.wrap64_in _ (by omega)
theorem mk70 (w : World) (y : Nat) (hy : y ≤ 64) : (Instr.makeSlice 70 (.int .i64 (y : Int)) (.int .i64 (y : Int))).run Try.prog w = .ok (.slice (some ⟨w.heap.size, 0, none⟩) y y) (w.alloc (.cells (madeCells (tal 0 0 fun _ => 0) (y * 33)) 60)) := by
  obtain ⟨i0, hi, hz0, hz1, hz2⟩ := info_parts Try.info60
  have hm := run_make (P := Try.prog) w 70 60 i0 (.agg (tal 0 0 fun _ => 0)) Try.underlying70 hi hz0 .i64 .i64 (y : Int) (y : Int) (by omega) (by omega) (by rw [hz2]; omega) (by omega)
  rw [hz1, Int.toNat_natCast] at hm
  exact hm
def TlPost (w : World) (I : Nat → Int) (len p y : Nat) (e : Ending) (w' : World) : Prop := ∃ g, e = .returned (.slice (some ⟨g, 0, none⟩) y y) ∧ Tl w' g I len p y (List.range y) ∧ w.heap.size ≤ g ∧ g < w'.heap.size ∧ Below w.heap.size w w'
/-- What stands while the tallies are made. -/
structure TIn (w : World) (I : Nat → Int) (len p y : Nat) (l : List Nat) (W : World) : Prop where
  box : W.cell? ⟨w.heap.size + 1, 0, none⟩ = some (.slice (some ⟨w.heap.size, 0, none⟩) y y)
  tl : Tl W w.heap.size I len p y l
  below : Below w.heap.size w W
theorem tin_own (w : World) (I : Nat → Int) (len p y : Nat) {B : Nat} (hB : w.heap.size + 2 ≤ B) {α : Type} (f : List α → List Nat) (hB2 : ∀ s W, TIn w I len p y (f s) W → w.heap.size + 2 ≤ W.heap.size) : OwnFrom B (fun s W' => TIn w I len p y (f s) W') := by
  intro s A A' row hs hg hr
  have hsz := hB2 s A hs
  have hk : ∀ k, k < w.heap.size + 2 → A'.heap[k]? = A.heap[k]? := fun k hk => hg.block k (by omega) fun e => by have := (hr k e.symm).1; omega
  exact ⟨(World.cell?_of_block (a := ⟨w.heap.size + 1, 0, none⟩) (hk (w.heap.size + 1) (by omega))).trans hs.box, hs.tl.of_block (hk w.heap.size (by omega)), hs.below.grown hg hs.below.size fun b hb => by have := (hr b hb).1; omega⟩
theorem TIn.sz {w W : World} {I : Nat → Int} {len p y : Nat} {l : List Nat} (h : TIn w I len p y l W) : w.heap.size + 2 ≤ W.heap.size := World.block_lt_of_cell? _ _ h.box
set_option maxRecDepth 100000 in
set_option maxHeartbeats 2000000 in
theorem tallies_in (n : Nat) (hn3 : 3 ≤ n) (a : Option Addr) (len cap b off : Nat) (I : Nat → Int) (p y : Nat) (hp6 : p ≤ 6) (hy : 2 ^ p = y) (w : World)
    (h : Is w a len cap b off I) (hz : allZ I len) (hlen : len ≤ 65536) :
    CallsIn Fence.wide n Try.prog 45 #[.slice a len cap, .int .i64 (p : Int)] w (TlPost w I len p y) := by
  obtain ⟨hsh, hy64, hy1⟩ := shl_p p y hp6 hy
  have hmk := mk70 w y hy64
  have htl := tl_made w (tal 0 0 fun _ => 0) y I len p
  obtain ⟨C, hC⟩ : ∃ C, madeCells (tal 0 0 fun _ => 0) (y * 33) = C := ⟨_, rfl⟩
  rw [hC] at hmk htl
  have hpw : (0 : Int) ≤ (p : Int) := by omega
  have HZ := hid hz; have HH := hid h
  clear hz h hC
  refine callsIn_of_wp_marks Try.func45 rfl trivial ?_ rfl
  simp only [Try.ntmps45, List.size_toArray, List.length_cons, List.length_nil, Nat.reduceAdd, Nat.reduceSub, Array.replicate_succ, Array.replicate_zero, List.push_toArray, List.append_toArray, List.nil_append, List.cons_append]
  gi_wp2_with fail
  refine ⟨trivial, fun h => (by cases h), ?_⟩
  refine (callsIn_wide.2 (parts_any a len cap p _)).mono ?_
  rintro e w3 ⟨rfl, rfl⟩
  gi_wp2_with fail
  obtain ⟨W2, hW2⟩ : ∃ W2, (w.alloc (.cells C 60)).alloc (.cells #[.slice (some ⟨w.heap.size, 0, none⟩) y y] 70) = W2 := ⟨_, rfl⟩
  have h2s : W2.heap.size = w.heap.size + 2 := by rw [← hW2]; simp
  have h2b : Below w.heap.size w W2 := by rw [← hW2]; exact ((Below.refl w.heap.size w).alloc (Nat.le_refl _) _).alloc (by simp) _
  have h2t : Tl W2 w.heap.size I len p y [] := htl.of_block (by rw [← hW2]; exact RowKit.Below.heap_alloc _ _ _ (by simp))
  have h2c : W2.cell? ⟨w.heap.size + 1, 0, none⟩ = some (.slice (some ⟨w.heap.size, 0, none⟩) y y) := by
    rw [← hW2]
    have e : w.heap.size + 1 = (w.alloc (.cells C 60)).heap.size := by simp
    rw [e]; simp
  obtain ⟨Wl, hWl⟩ : ∃ Wl, (W2.alloc (.cells #[.slice a len cap] 22)).alloc (.cells #[.int .i64 (p : Int)] 3) = Wl := ⟨_, rfl⟩
  have hls : Wl.heap.size = w.heap.size + 4 := by rw [← hWl]; simp; omega
  have hlb : Below W2.heap.size W2 Wl := by rw [← hWl]; exact (((Below.refl W2.heap.size W2).alloc (Nat.le_refl _) _).alloc (by simp) _)
  have hlc0 : Wl.cell? ⟨w.heap.size + 1 + 1, 0, none⟩ = some (.slice a len cap) := by
    rw [← hWl, World.cell?_of_block (RowKit.Below.heap_alloc _ _ _ (by simp; omega)), show w.heap.size + 1 + 1 = W2.heap.size by omega]; simp
  have hlc1 : Wl.cell? ⟨w.heap.size + 1 + 1 + 1, 0, none⟩ = some (.int .i64 (p : Int)) := by
    rw [← hWl]
    have e : w.heap.size + 1 + 1 + 1 = (W2.alloc (.cells #[.slice a len cap] 22)).heap.size := by simp; omega
    rw [e]; simp
  have hlB : Below w.heap.size w Wl := h2b.trans (hlb.mono (by omega))
  have hlt : Tl Wl w.heap.size I len p y [] := h2t.of_block (hlb.block _ (by omega))
  have hlc : Wl.cell? ⟨w.heap.size + 1, 0, none⟩ = some (.slice (some ⟨w.heap.size, 0, none⟩) y y) := (hlb.cell (p := ⟨w.heap.size + 1, 0, none⟩) (by show w.heap.size + 1 < _; omega)).trans h2c
  rw [hW2, hWl]
  have HPAR := hid (parts_stops (n - 1) (w.heap.size + 1 + 1 + 1) (w.heap.size + 1 + 1) a len cap p hlen hp6 HH.out.hl y hy Wl (by omega) (by omega) hlc1 hlc0)
  have HLS := hid hls; have HLB := hid hlB; have HLT := hid hlt; have HLC := hid hlc
  clear hW2 hWl htl h2b h2t h2c hlb hlc0 hlc1 hlB hlt hlc hls h2s
  refine wpIn_rangeFunc_ownG rfl (by omega) (gf := 75) (lb := #[.pointer (some ⟨w.heap.size + 1 + 1 + 1, 0, none⟩), .pointer (some ⟨w.heap.size + 1 + 1, 0, none⟩)]) rfl trivial (enters_of Try.func75 (by kernel_rfl) rfl) HPAR.out Kp2.trans
    (fun W l ob ob' hl hW _ _ => ⟨by simp, World.putObj_heap_other (by have := HLS.out; omega), World.putObj_heap_other (by have := HLS.out; omega)⟩) (Below.refl _ _) (fun _ => rfl)
    (fun pre W' => TIn w I len p y (pre.map Fin.val) W' ∧ Wl.heap.size ≤ W'.heap.size) (fun _ _ _ => False)
    (fun s A A' row hs hg hr => ⟨tin_own w I len p y (by have := HLS.out; omega) _ (fun s W h => h.sz) s A A' row hs.1 hg hr, Nat.le_trans hs.2 hg.size⟩) (fun _ _ _ _ _ hs _ _ => hs)
    ⟨⟨HLC.out, HLT.out, HLB.out⟩, Nat.le_refl _⟩
    (fun x => { tmps := #[.slice a len cap, .int .i64 (p : Int), undef, undef, .slice none 0 0, .pointer (some ⟨w.heap.size + 1, 0, none⟩), .int .i64 ((x.val : Nat) : Int), .slice (ptA a cap (bd len p x.val)) (bd len p (x.val + 1) - bd len p x.val) (cap - bd len p x.val), .int .i64 (p : Int), .int .i64 (y : Int), .slice (some ⟨w.heap.size, 0, none⟩) y y, .slice a len cap, .int .i64 (p : Int),
      .func (.func 75) #[] #[.pointer (some ⟨w.heap.size + 1 + 1 + 1, 0, none⟩), .pointer (some ⟨w.heap.size + 1 + 1, 0, none⟩)], .int .i64 ((x.val : Nat) : Int), .slice (ptA a cap (bd len p x.val)) (bd len p (x.val + 1) - bd len p x.val) (cap - bd len p x.val),
      undef, undef, undef, undef, undef, undef], defers := [] }) ?assign ?body ?done ?stop
  case assign =>
    intro l x W K hK
    unfold encP
    gi_wp2_with fail
    exact hK
  case body =>
    rintro l pre x W ⟨hI, hWl⟩ hpre
    have HB3 := hid hWl
    clear hWl
    have HI := hid hI
    have hbx := hI.box
    have hi3 := HH.out.below hI.below HH.out.lt
    have hxy : x.val < 2 ^ p := by rw [hy]; exact x.isLt
    have hisp := is_part hi3 p x.val hxy
    have hpnl : pn len p x.val ≤ 65536 := by have := pn_le len p x.val hxy; omega
    have HCNT : RowKit.Hid (∀ W', Below W.heap.size W W' → Calls Try.prog 32 #[.slice (ptA a cap (bd len p x.val)) (pn len p x.val) (cap - bd len p x.val)] W' fun e w' => e = .returned (.agg (tT I len p x.val).toArray) ∧ Below W'.heap.size W' w') := hid fun W' hb => by
      rw [tT_arr]
      exact count_any W' _ _ _ _ _ _ (is_part (hi3.below hb hi3.lt) p x.val hxy) (by omega)
    have hpne : pn len p x.val = bd len p (x.val + 1) - bd len p x.val := rfl
    rw [← hpne]
    have hxl : ((x.val : Nat) : Int) < (y : Int) := by have := x.isLt; omega
    have HST := hid fun W' (hb : Below W.heap.size W W') => run_sc (P := Try.prog) W' w.heap.size (x.val * 33) (tT I len p x.val) (by rw [tT_len]; exact (hI.tl.of_block (hb.block _ (by have := hI.sz; omega))).sub x.isLt) (tT_one I len p x.val)
    have hT33 := tT_len I len p x.val
    have HXL := hid x.isLt
    have HSET := hid fun W' (hb : Below W.heap.size W W') => (hI.tl.of_block (hb.block w.heap.size (by have := hI.sz; omega))).set x.isLt
    have HBXL := hid (World.block_lt_of_cell? _ _ hbx)
    have bd1 : Below W.heap.size W W.drew := (Below.refl _ _).drew
    generalize tT I len p x.val = T at *
    clear hpne hI hi3 hisp
    gi_wp2_with fail
    gi_region_with (first
      | (refine ⟨trivial, fun h => (by cases h), ?_⟩; refine (CallsIn.inRound l (callsIn_wide.2 (HCNT.out _ bd1))).mono ?_; rintro e w4 ⟨rfl, hb4⟩; have b4 := bd1.trans hb4; have hst := HST.out w4 b4; have hbx4 := (b4.cell (p := ⟨w.heap.size + 1, 0, none⟩) HBXL.out).trans hbx)
      )
    all_goals
      have hb5 : Below w.heap.size w w4 := HI.out.below.trans (b4.mono HI.out.below.size)
      have hls := HLS.out
      have hsz := HI.out.sz
      have hW := HB3.out
      have hfin : TIn w I len p y ((pre ++ [x]).map Fin.val) (w4.setCells w.heap.size (x.val * 33) T) := by
        refine ⟨?_, ?_, below_setCells hb5 (Nat.le_refl _) _ _⟩
        · rw [World.cell?_of_block (a := ⟨w.heap.size + 1, 0, none⟩) (heap_setCells_ne _ _ _ _ _ (by show w.heap.size + 1 ≠ _; omega)), World.cell?_of_block (a := ⟨w.heap.size + 1, 0, none⟩) (b4.block (w.heap.size + 1) (by omega))]
          exact HI.out.box
        · rw [List.map_append]
          exact HSET.out w4 b4
      have hKF : KeepsFrom Wl.heap.size W (w4.setCells w.heap.size (x.val * 33) T) := ⟨by rw [size_setCells]; exact b4.size, fun k ob hk ho _ => by
        rw [heap_setCells_ne _ _ _ _ _ (by omega), b4.block k (Array.getElem?_eq_some_iff.1 ho).1]; exact ho⟩
      have hKP : Kp2 (w.heap.size + 1 + 1 + 1) (w.heap.size + 1 + 1) W (w4.setCells w.heap.size (x.val * 33) T) := ⟨by rw [size_setCells]; exact b4.size, by rw [heap_setCells_ne _ _ _ _ _ (by omega), b4.block _ (by omega)], by rw [heap_setCells_ne _ _ _ _ _ (by omega), b4.block _ (by omega)]⟩
      have HFIN := hid hfin; have HKF := hid hKF; have HKP := hid hKP
      clear hfin hKF hKP hb5 hst b4 hb4
      gi_wp2_with fail
      exact ⟨HKF.out, HKP.out, HFIN.out, Nat.le_trans HB3.out HKP.out.1⟩
  case done =>
    rintro D xs W hD rfl ⟨hI, _⟩ hK
    rw [finRange_val] at hI
    have hI2 := (tin_own w I len p y (B := Wl.heap.size) (by have := HLS.out; omega) (fun (_ : List Nat) => List.range y) fun s W h => h.sz).putObj (s := []) (.deferred none) hI hD hK rfl
    have HFIN := hid hI2
    have hbx := hI.box
    clear hI2 hI
    gi_wp2_with fail
    refine ⟨by simp, .inl ⟨_, _, rfl, run_takeDeferred hK, ?_⟩⟩
    exact ⟨_, results_tmp rfl _ _ _, w.heap.size, rfl, HFIN.out.tl, Nat.le_refl _, by have := HFIN.out.sz; omega, HFIN.out.below⟩
  case stop =>
    rintro D c pre W _ _ h _
    exact h.elim
end Go.Proofs.Ytjimamjhakainaa.Part
