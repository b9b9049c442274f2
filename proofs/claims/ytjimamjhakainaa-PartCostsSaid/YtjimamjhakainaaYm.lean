/- What part's ways hang on, as arithmetic: how many noughts, the greatest Zig, what all cost by quotient and rest, and the best parameter up to its width. -/
import Derived.Test.YtjimamjhakainaaRm
import Derived.Test.YtjimamjhakainaaYa
namespace Go.Proofs.Ytjimamjhakainaa.Part
open Go.RowKit Bit Rice Runs

/-- How many of the first numbers are 0. -/
def nz (I : Nat → Int) : Nat → Nat
  | 0 => 0
  | j + 1 => if I j = 0 then nz I j + 1 else nz I j
theorem nz_le (I : Nat → Int) : ∀ j, nz I j ≤ j
  | 0 => Nat.le_refl _
  | j + 1 => by
    have := nz_le I j
    show (if I j = 0 then nz I j + 1 else nz I j) ≤ _
    split <;> omega
theorem nz_all {I : Nat → Int} : ∀ {n : Nat}, nz I n = n → ∀ j, j < n → I j = 0
  | 0, _, j, h => absurd h (Nat.not_lt_zero _)
  | n + 1, h, j, hj => by
    have h1 := nz_le I n
    have h2 : (if I n = 0 then nz I n + 1 else nz I n) = n + 1 := h
    by_cases e : I n = 0
    · rw [if_pos e] at h2
      by_cases e2 : j = n
      · rw [e2]; exact e
      · exact nz_all (show nz I n = n by omega) j (by omega)
    · rw [if_neg e] at h2; omega
/-- The greatest Zig of the first numbers. -/
def gr (I : Nat → Int) : Nat → Nat
  | 0 => 0
  | j + 1 => max (gr I j) (zg (I j))
theorem gr_ge (I : Nat → Int) : ∀ n j, j < n → zg (I j) ≤ gr I n
  | 0, j, h => absurd h (Nat.not_lt_zero _)
  | n + 1, j, h => by
    show _ ≤ max (gr I n) (zg (I n))
    by_cases e : j = n
    · rw [e]; exact Nat.le_max_right _ _
    · exact Nat.le_trans (gr_ge I n j (by omega)) (Nat.le_max_left _ _)
theorem gr_lt (I : Nat → Int) (B : Nat) (hB : 0 < B) : ∀ n, (∀ j, j < n → zg (I j) < B) → gr I n < B
  | 0, _ => hB
  | n + 1, h => by
    have h1 := gr_lt I B hB n fun j hj => h j (by omega)
    have h2 := h n (by omega)
    show max (gr I n) (zg (I n)) < B
    exact Nat.max_lt.2 ⟨h1, h2⟩
theorem gr_64 (I : Nat → Int) (n : Nat) (h : ∀ j, j < n → -9223372036854775808 ≤ I j ∧ I j ≤ 9223372036854775807) : gr I n < 18446744073709551616 := gr_lt I _ (by decide) n fun j hj => zg_lt (h j hj)
theorem gr_zero {I : Nat → Int} {n : Nat} (h : nz I n = n) : gr I n = 0 := by
  have h1 := gr_lt I 1 (by decide) n fun j hj => by rw [nz_all h j hj]; decide
  omega

/-- Their Zigs, and what these cost. -/
def zs (I : Nat → Int) : Nat → Nat := fun i => zg (I i)
def tt (I : Nat → Int) (n k : Nat) : Nat := tot (zs I) (k : Int) n
theorem tt_le (I : Nat → Int) (n k : Nat) : tt I n k ≤ 64 * n := tot_le _ _ _
theorem blt {x : Nat} (hx : x < 18446744073709551616) : x < 2 ^ Lib.bitLen x := by
  by_cases h : x = 0
  · rw [h]; exact Nat.two_pow_pos _
  · exact (bl_bounds x hx h).2.2
theorem bl64 {x : Nat} (hx : x < 18446744073709551616) : Lib.bitLen x ≤ 64 := Lib.bitLen_le x 64 (by decide) hx
theorem bl_mono {a b : Nat} (h : a ≤ b) (hb : b < 18446744073709551616) : Lib.bitLen a ≤ Lib.bitLen b := Lib.bitLen_le a _ (bl64 hb) (Nat.lt_of_le_of_lt h (blt hb))
theorem bl_max {a b : Nat} (ha : a < 18446744073709551616) (hb : b < 18446744073709551616) : Lib.bitLen (max a b) = max (Lib.bitLen a) (Lib.bitLen b) := by
  rcases Nat.le_total a b with h | h
  · rw [Nat.max_eq_right h, Nat.max_eq_right (bl_mono h hb)]
  · rw [Nat.max_eq_left h, Nat.max_eq_left (bl_mono h ha)]
theorem cost_flat {u k : Nat} (hk : k ≤ 30) (hu : u < 2 ^ k) : cost u (k : Int) = k + 1 := by
  have h30 : 2 ^ k ≤ 2 ^ 30 := Nat.pow_le_pow_right (by decide) hk
  have hd : u / 2 ^ k = 0 := Nat.div_eq_of_lt hu
  have hc : coded u := by unfold coded; omega
  rw [cost_low hk hc (by omega), hd]
  omega
theorem tot_flat (U : Nat → Nat) (k : Nat) (hk : k ≤ 30) : ∀ n, (∀ i, i < n → U i < 2 ^ k) → tot U (k : Int) n = n * (k + 1)
  | 0, _ => by rw [Nat.zero_mul]; rfl
  | n + 1, h => by
    have h1 := tot_flat U k hk n fun i hi => h i (by omega)
    show tot U (k : Int) n + cost (U n) (k : Int) = _
    rw [h1, cost_flat hk (h n (by omega)), Nat.succ_mul]
theorem tt_flat (I : Nat → Int) (n k : Nat) (hk : k ≤ 30) (h : gr I n < 2 ^ k) : tt I n k = n * (k + 1) :=
  tot_flat (zs I) k hk n fun i hi => Nat.lt_of_le_of_lt (gr_ge I n i hi) h

theorem bst_rng (U : Nat → Nat) (len : Nat) : ∀ j, bst U len j ≤ j
  | 0 => Nat.le_refl _
  | j + 1 => by
    have := bst_rng U len j
    show (if _ then _ else _) ≤ _
    split
    · exact Nat.le_refl _
    · exact Nat.le_succ_of_le this
theorem bst_lt (U : Nat → Nat) (len : Nat) : ∀ j i, i < bst U len j → tot U (bst U len j : Nat) len < tot U (i : Nat) len
  | 0, i, h => absurd h (Nat.not_lt_zero _)
  | j + 1, i, h => by
    by_cases e : tot U (j + 1 : Nat) len < tot U (bst U len j : Nat) len
    · have e1 : bst U len (j + 1) = j + 1 := if_pos e
      rw [e1] at h ⊢
      have := bst_le U len j i (by omega)
      omega
    · have e1 : bst U len (j + 1) = bst U len j := if_neg e
      rw [e1] at h ⊢
      exact bst_lt U len j i h
theorem bst_flat (I : Nat → Int) (n m : Nat) (hg : gr I n < 2 ^ m) : ∀ j, m ≤ j → j ≤ 30 → bst (zs I) n j = bst (zs I) n m
  | 0, h, _ => by
    obtain rfl : m = 0 := by omega
    rfl
  | j + 1, h, h30 => by
    by_cases e : m = j + 1
    · rw [e]
    · have h1 := bst_flat I n m hg j (by omega) (by omega)
      have p1 : gr I n < 2 ^ j := Nat.lt_of_lt_of_le hg (Nat.pow_le_pow_right (by decide) (by omega))
      have p2 : gr I n < 2 ^ (j + 1) := Nat.lt_of_lt_of_le hg (Nat.pow_le_pow_right (by decide) (by omega))
      have t1 : tot (zs I) (j : Int) n = n * (j + 1) := tt_flat I n j (by omega) p1
      have t2 : tot (zs I) ((j + 1 : Nat) : Int) n = n * (j + 1 + 1) := tt_flat I n (j + 1) h30 p2
      have t3 := bst_le (zs I) n j j (Nat.le_refl _)
      have t4 : n * (j + 1) ≤ n * (j + 1 + 1) := Nat.mul_le_mul_left _ (by omega)
      have e1 : bst (zs I) n (j + 1) = bst (zs I) n j := if_neg (by omega)
      rw [e1, h1]
/-- The parameter of Rice. -/
def kr (I : Nat → Int) (n : Nat) : Nat := bst (zs I) n 30
theorem kr_le (I : Nat → Int) (n : Nat) : kr I n ≤ 30 := bst_rng _ _ _
theorem kr_most (I : Nat → Int) (n : Nat) (h : gr I n < 18446744073709551616) : bst (zs I) n (m30 (Lib.bitLen (gr I n) : Nat)) = kr I n := by
  unfold m30
  rw [if_neg (by omega)]
  by_cases e : (30 : Int) < (Lib.bitLen (gr I n) : Nat)
  · rw [if_pos e]; rfl
  · rw [if_neg e, Int.toNat_natCast]
    exact (bst_flat I n _ (blt h) 30 (by omega) (Nat.le_refl _)).symm
/-- The greatest Need. -/
def rw1 (g : Nat) : Nat := Lib.bitLen (g / 2) + 1
def rw_ (I : Nat → Int) (n : Nat) : Nat := rw1 (gr I n)
theorem rw_step (I : Nat → Int) (n : Nat) (h : gr I n < 18446744073709551616) (h2 : zg (I n) < 18446744073709551616) : rw_ I (n + 1) = max (rw_ I n) (rw1 (zg (I n))) := by
  show Lib.bitLen (max (gr I n) (zg (I n)) / 2) + 1 = max (Lib.bitLen (gr I n / 2) + 1) (Lib.bitLen (zg (I n) / 2) + 1)
  have e : max (gr I n) (zg (I n)) / 2 = max (gr I n / 2) (zg (I n) / 2) := by
    rcases Nat.le_total (gr I n) (zg (I n)) with h | h
    · rw [Nat.max_eq_right h, Nat.max_eq_right (Nat.div_le_div_right h)]
    · rw [Nat.max_eq_left h, Nat.max_eq_left (Nat.div_le_div_right h)]
  rw [e, bl_max (by omega) (by omega)]
  omega
theorem rw_le (I : Nat → Int) (n : Nat) (h : gr I n < 1099511627776) : rw_ I n ≤ 41 := by
  unfold rw_ rw1
  have := Lib.bitLen_le (gr I n / 2) 40 (by decide) (by omega)
  omega
theorem rw_le64 (I : Nat → Int) (n : Nat) (h : gr I n < 18446744073709551616) : rw_ I n ≤ 64 := by
  unfold rw_ rw1
  have := Lib.bitLen_le (gr I n / 2) 63 (by decide) (by omega)
  omega

/-- A list's way and what it costs: the kind, its K, the bits. -/
def wy (I : Nat → Int) (n : Nat) : Nat × Nat × Nat :=
  if nz I n = n then (0, 0, 6) else
  let a : Nat × Nat × Nat := if n ≤ 2 * nz I n ∧ 11 + cstI I (rbs I n 30 : Nat) n < 6 + tt I n (kr I n) then (2, rbs I n 30, 11 + cstI I (rbs I n 30 : Nat) n) else (1, kr I n, 6 + tt I n (kr I n))
  if 12 + rw_ I n * n < a.2.2 then (3, rw_ I n, 12 + rw_ I n * n) else a
