/- Plain facts on sums of 32 bits: a step, eight of them, a matrix that is made of a linear function, and its powers, on natural numbers below 2^32. No program in it; no condition but those that each lemma names. -/
import Derived.WalkKit
namespace Go.Proofs.Ytgcnbeigchppfaa.Crc

/-- A function that makes of numbers, xored, what it makes of each, xored, and stays below 2^32. -/
structure Lin (f : Nat → Nat) : Prop where
  lin : ∀ a b, f (a ^^^ b) = f a ^^^ f b
  lt : ∀ a, a < 4294967296 → f a < 4294967296

set_option maxRecDepth 100000 in
theorem Lin.zero {f : Nat → Nat} (h : Lin f) : f 0 = 0 := by
  have := h.lin 0 0
  rw [Nat.xor_self, Nat.xor_self] at this
  exact this
set_option maxRecDepth 100000 in
theorem Lin.comp {f g : Nat → Nat} (hf : Lin f) (hg : Lin g) : Lin (fun x => f (g x)) :=
  ⟨fun a b => by simp only [hg.lin, hf.lin], fun a h => hf.lt _ (hg.lt _ h)⟩
set_option maxRecDepth 100000 in
theorem xor_lt {a b : Nat} (ha : a < 4294967296) (hb : b < 4294967296) : a ^^^ b < 4294967296 := Nat.xor_lt_two_pow (n := 32) ha hb

/-- One step. -/
def stp (x : Nat) : Nat := if x % 2 = 1 then x / 2 ^^^ 3988292384 else x / 2
set_option maxRecDepth 100000 in
theorem stp_lin : Lin stp := by
  refine ⟨fun a b => ?_, fun a h => ?_⟩
  · unfold stp
    have hm : (a ^^^ b) % 2 = (a % 2) ^^^ (b % 2) := Nat.xor_mod_two_pow (n := 1)
    rw [Nat.xor_div_two, hm]
    generalize a / 2 = p
    generalize b / 2 = q
    rcases Nat.mod_two_eq_zero_or_one a with e | e <;> rcases Nat.mod_two_eq_zero_or_one b with e' | e' <;> rw [e, e']
    · rfl
    · show p ^^^ q ^^^ 3988292384 = p ^^^ (q ^^^ 3988292384)
      rw [Nat.xor_assoc]
    · show p ^^^ q ^^^ 3988292384 = p ^^^ 3988292384 ^^^ q
      ac_rfl
    · show p ^^^ q = p ^^^ 3988292384 ^^^ (q ^^^ 3988292384)
      rw [show p ^^^ 3988292384 ^^^ (q ^^^ 3988292384) = p ^^^ q ^^^ (3988292384 ^^^ 3988292384) from by ac_rfl, Nat.xor_self, Nat.xor_zero]
  · unfold stp
    split
    · exact xor_lt (by omega) (by decide)
    · omega
set_option maxRecDepth 100000 in
theorem stp_even (y : Nat) : stp (2 * y) = y := by unfold stp; rw [if_neg (by omega)]; omega
set_option maxRecDepth 100000 in
theorem stp_inj {a : Nat} (h : a < 4294967296) (h0 : stp a = 0) : a = 0 := by
  unfold stp at h0
  split at h0
  · have hx : a / 2 = 3988292384 := by
      have := congrArg (· ^^^ 3988292384) h0
      simpa [Nat.xor_assoc] using this
    omega
  · omega

/-- Eight steps. -/
def ei (x : Nat) : Nat := stp (stp (stp (stp (stp (stp (stp (stp x)))))))
set_option maxRecDepth 100000 in
theorem ei_lin : Lin ei :=
  stp_lin.comp (stp_lin.comp (stp_lin.comp (stp_lin.comp (stp_lin.comp (stp_lin.comp (stp_lin.comp stp_lin))))))
set_option maxRecDepth 100000 in
theorem ei_lt {x : Nat} (h : x < 4294967296) : ei x < 4294967296 := ei_lin.lt x h
set_option maxRecDepth 100000 in
theorem ei_high (y : Nat) : ei (256 * y) = y := by
  unfold ei
  rw [show 256 * y = 2 * (2 * (2 * (2 * (2 * (2 * (2 * (2 * y))))))) from by omega]
  simp only [stp_even]
set_option maxRecDepth 100000 in
theorem ei_inj {a : Nat} (h : a < 4294967296) (h0 : ei a = 0) : a = 0 := by
  have l := stp_lin.lt
  have l1 := l a h; have l2 := l _ l1; have l3 := l _ l2; have l4 := l _ l3; have l5 := l _ l4; have l6 := l _ l5; have l7 := l _ l6
  exact stp_inj h (stp_inj l1 (stp_inj l2 (stp_inj l3 (stp_inj l4 (stp_inj l5 (stp_inj l6 (stp_inj l7 h0)))))))

set_option maxRecDepth 100000 in
theorem xor_low (x c : Nat) (hc : c < 256) : x % 256 ^^^ c = (x ^^^ c) % 256 := by
  rw [show (256 : Nat) = 2 ^ 8 from rfl, Nat.xor_mod_two_pow, Nat.mod_eq_of_lt (show c < 2 ^ 8 from hc)]
set_option maxRecDepth 100000 in
theorem xor_high (x c : Nat) (hc : c < 256) : (x ^^^ c) / 256 = x / 256 := by
  rw [show (256 : Nat) = 2 ^ 8 from rfl, ← Nat.shiftRight_eq_div_pow, Nat.shiftRight_xor_distrib, Nat.shiftRight_eq_div_pow, Nat.shiftRight_eq_div_pow, Nat.div_eq_of_lt (show c < 2 ^ 8 from hc), Nat.xor_zero]
set_option maxRecDepth 100000 in
theorem split256 (x : Nat) : x = x % 256 ^^^ 256 * (x / 256) := by
  have h := Nat.two_pow_add_eq_or_of_lt (i := 8) (b := x % 256) (Nat.mod_lt _ (by decide)) (x / 256)
  have hx : (2 ^ 8 * (x / 256)) ^^^ (x % 256) = 2 ^ 8 * (x / 256) + x % 256 := by
    rw [h]
    apply Nat.eq_of_testBit_eq
    intro i
    rw [Nat.testBit_xor, Nat.testBit_or, Nat.testBit_two_pow_mul]
    by_cases hi : 8 ≤ i
    · have : (x % 256).testBit i = false := Nat.testBit_lt_two_pow (Nat.lt_of_lt_of_le (Nat.mod_lt x (by decide : (256:Nat) > 0)) (Nat.pow_le_pow_right (by decide) hi : 2 ^ 8 ≤ 2 ^ i))
      simp [this]
    · simp [hi]
  rw [Nat.xor_comm]
  show x = 2 ^ 8 * (x / 256) ^^^ x % 256
  rw [hx]; omega
set_option maxRecDepth 100000 in
/-- What the table makes of a byte that passes is eight steps. -/
theorem pass_eq (x c : Nat) (hc : c < 256) : ei (x % 256 ^^^ c) ^^^ x / 256 = ei (x ^^^ c) := by
  have h := ei_lin.lin ((x ^^^ c) % 256) (256 * ((x ^^^ c) / 256))
  rw [← split256, ei_high] at h
  rw [h, xor_low x c hc, xor_high x c hc]
set_option maxRecDepth 100000 in
theorem low_lt (x c : Nat) (hc : c < 256) : x % 256 ^^^ c < 256 := by rw [xor_low x c hc]; exact Nat.mod_lt _ (by decide)

/-- All bits turned. -/
def nt (x : Nat) : Nat := x ^^^ 4294967295
set_option maxRecDepth 100000 in
theorem nt_nt (x : Nat) : nt (nt x) = x := by unfold nt; rw [Nat.xor_assoc, Nat.xor_self, Nat.xor_zero]
set_option maxRecDepth 100000 in
theorem nt_lt {x : Nat} (h : x < 4294967296) : nt x < 4294967296 := xor_lt h (by decide)
set_option maxRecDepth 100000 in
theorem nt_sub {x : Nat} (h : x < 4294967296) : nt x = 4294967295 - x := by
  have := BitVec.toNat_not (x := BitVec.ofNat 32 x)
  rw [← BitVec.xor_allOnes, BitVec.toNat_xor, BitVec.toNat_ofNat, Nat.mod_eq_of_lt (show x < 2 ^ 32 from h)] at this
  exact this

/-- The state behind bytes f 0 .. f (n-1), from x on. -/
def run (f : Nat → Nat) : Nat → Nat → Nat
  | 0, x => x
  | n + 1, x => ei (run f n x ^^^ f n)
set_option maxRecDepth 100000 in
theorem run_lt {f : Nat → Nat} (hf : ∀ i, f i < 256) (n x : Nat) (h : x < 4294967296) : run f n x < 4294967296 := by
  induction n with
  | zero => exact h
  | succ n ih => exact ei_lt (xor_lt ih (Nat.lt_trans (hf n) (by decide)))
set_option maxRecDepth 100000 in
theorem run_congr {f g : Nat → Nat} (n x : Nat) (h : ∀ i, i < n → f i = g i) : run f n x = run g n x := by
  induction n with
  | zero => rfl
  | succ n ih => unfold run; rw [ih (fun i hi => h i (by omega)), h n (by omega)]
set_option maxRecDepth 100000 in
theorem run_add (f : Nat → Nat) (m n x : Nat) : run f (m + n) x = run (fun i => f (m + i)) n (run f m x) := by
  induction n with
  | zero => rfl
  | succ n ih => show ei (run f (m + n) x ^^^ f (m + n)) = _; rw [ih]; rfl
/-- n times eight steps. -/
def pw (f : Nat → Nat) : Nat → Nat → Nat
  | 0, x => x
  | n + 1, x => pw f n (f x)
set_option maxRecDepth 100000 in
theorem pw_succ (f : Nat → Nat) (n x : Nat) : pw f (n + 1) x = f (pw f n x) := by
  induction n generalizing x with
  | zero => rfl
  | succ n ih => exact ih (f x)
set_option maxRecDepth 100000 in
theorem pw_add (f : Nat → Nat) (m n x : Nat) : pw f (m + n) x = pw f n (pw f m x) := by
  induction m generalizing x with
  | zero => rw [Nat.zero_add]; rfl
  | succ m ih => rw [show m + 1 + n = (m + n) + 1 from by omega]; exact ih (f x)
set_option maxRecDepth 100000 in
theorem pw_lin {f : Nat → Nat} (h : Lin f) (n : Nat) : Lin (pw f n) := by
  induction n with
  | zero => exact ⟨fun _ _ => rfl, fun _ h => h⟩
  | succ n ih => exact ih.comp h
set_option maxRecDepth 100000 in
theorem pw_two (f : Nat → Nat) (n x : Nat) : pw (fun y => f (f y)) n x = pw f (2 * n) x := by
  induction n generalizing x with
  | zero => rfl
  | succ n ih => rw [show 2 * (n + 1) = 2 * n + 1 + 1 from by omega]; exact ih (f (f x))
set_option maxRecDepth 100000 in
theorem run_zeros (n x : Nat) : run (fun _ => 0) n x = pw ei n x := by
  induction n with
  | zero => rfl
  | succ n ih => rw [pw_succ, ← ih]; show ei (_ ^^^ 0) = _; rw [Nat.xor_zero]
set_option maxRecDepth 100000 in
/-- Runs are straight in what they began with. -/
theorem run_xor (f g : Nat → Nat) (n x y : Nat) : run f n x ^^^ run g n y = run (fun i => f i ^^^ g i) n (x ^^^ y) := by
  induction n with
  | zero => rfl
  | succ n ih =>
    show ei _ ^^^ ei _ = ei _
    rw [← ei_lin.lin, ← ih]
    congr 1
    show _ = run f n x ^^^ run g n y ^^^ (f n ^^^ g n)
    ac_rfl
/-- The sum of bytes. -/
def sm (f : Nat → Nat) (n s : Nat) : Nat := nt (run f n (nt s))
set_option maxRecDepth 100000 in
theorem sm_lt {f : Nat → Nat} (hf : ∀ i, f i < 256) (n s : Nat) (h : s < 4294967296) : sm f n s < 4294967296 := nt_lt (run_lt hf n _ (nt_lt h))
set_option maxRecDepth 100000 in
theorem sm_zero (f : Nat → Nat) (s : Nat) : sm f 0 s = s := nt_nt s
set_option maxRecDepth 100000 in
theorem sm_add (f : Nat → Nat) (m n s : Nat) : sm f (m + n) s = sm (fun i => f (m + i)) n (sm f m s) := by unfold sm; rw [run_add, nt_nt]
set_option maxRecDepth 100000 in
theorem sm_congr {f g : Nat → Nat} (n s : Nat) (h : ∀ i, i < n → f i = g i) : sm f n s = sm g n s := by unfold sm; rw [run_congr n _ h]
set_option maxRecDepth 100000 in
/-- Join: the first sum, led on, and the second one. -/
theorem sm_join (f g : Nat → Nat) (m n : Nat) : pw ei n (sm f m 0) ^^^ sm g n 0 = sm g n (sm f m 0) := by
  generalize sm f m 0 = a
  unfold sm
  rw [← run_zeros]
  have h := run_xor (fun _ => 0) g n a (nt 0)
  have e : a ^^^ nt 0 = nt a := by unfold nt; rw [Nat.zero_xor]
  simp only [Nat.zero_xor] at h
  rw [e] at h
  rw [← h]
  unfold nt
  rw [Nat.xor_assoc]
set_option maxRecDepth 100000 in
/-- A byte that is changed changes the sum. -/
theorem run_ne {f g : Nat → Nat} (hf : ∀ i, f i < 256) (hg : ∀ i, g i < 256) (n x at_ : Nat) (hat : at_ < n) (hne : f at_ ≠ g at_) (hsame : ∀ i, i ≠ at_ → f i = g i) : run f n x ≠ run g n x := by
  intro he
  have h := run_xor f g n x x
  rw [he, Nat.xor_self, Nat.xor_self] at h
  have hd : ∀ i, f i ^^^ g i < 4294967296 := fun i => xor_lt (Nat.lt_trans (hf i) (by decide)) (Nat.lt_trans (hg i) (by decide))
  have hb : ∀ i, f i ^^^ g i < 256 := fun i => Nat.xor_lt_two_pow (n := 8) (hf i) (hg i)
  have hz : ∀ k, k ≤ n - at_ - 1 → run (fun i => f i ^^^ g i) (n - k) 0 = 0 := by
    intro k
    induction k with
    | zero => intro _; exact h.symm
    | succ k ih =>
      intro hk
      have h1 := ih (by omega)
      rw [show n - k = (n - (k + 1)) + 1 from by omega] at h1
      have h2 := ei_inj (xor_lt (run_lt hb _ _ (by decide)) (hd _)) h1
      rw [hsame (n - (k + 1)) (by omega), Nat.xor_self, Nat.xor_zero] at h2
      exact h2
  have h3 := hz (n - at_ - 1) (Nat.le_refl _)
  rw [show n - (n - at_ - 1) = at_ + 1 from by omega] at h3
  have h4 := ei_inj (xor_lt (run_lt hb _ _ (by decide)) (hd _)) h3
  have h5 : ∀ k, k ≤ at_ → run (fun i => f i ^^^ g i) k 0 = 0 := by
    intro k
    induction k with
    | zero => intro _; rfl
    | succ k ih =>
      intro hk
      show ei (run (fun i => f i ^^^ g i) k 0 ^^^ (f k ^^^ g k)) = 0
      rw [ih (by omega), hsame k (by omega), Nat.xor_self, Nat.xor_self]
      exact ei_lin.zero
  rw [h5 at_ (Nat.le_refl _), Nat.zero_xor] at h4
  exact hne (by
    have := congrArg (· ^^^ g at_) h4
    simpa [Nat.xor_assoc] using this)

/-! ### A matrix: what is made of each bit alone -/
/-- What the matrix of f makes of a number: bit by bit, from bit j on, what is left being y. -/
def ofm (f : Nat → Nat) : Nat → Nat → Nat → Nat → Nat
  | 0, _, _, made => made
  | k + 1, j, y, made => ofm f k (j + 1) (y / 2) (if y % 2 = 1 then made ^^^ f (2 ^ j) else made)
set_option maxRecDepth 100000 in
theorem split2 (y j : Nat) : y * 2 ^ j = (if y % 2 = 1 then 2 ^ j else 0) ^^^ y / 2 * 2 ^ (j + 1) := by
  have h1 : (y / 2 * 2 ^ (j + 1)) = 2 ^ (j + 1) * (y / 2) := Nat.mul_comm _ _
  have hlt : (if y % 2 = 1 then 2 ^ j else 0) < 2 ^ (j + 1) := by
    split
    · exact Nat.pow_lt_pow_right (by decide) (by omega)
    · exact Nat.two_pow_pos _
  have h2 : (if y % 2 = 1 then 2 ^ j else 0) ^^^ 2 ^ (j + 1) * (y / 2) = 2 ^ (j + 1) * (y / 2) + (if y % 2 = 1 then 2 ^ j else 0) := by
    rw [Nat.two_pow_add_eq_or_of_lt hlt]
    apply Nat.eq_of_testBit_eq
    intro i
    rw [Nat.testBit_xor, Nat.testBit_or, Nat.testBit_two_pow_mul]
    by_cases hi : j + 1 ≤ i
    · have : (if y % 2 = 1 then 2 ^ j else 0).testBit i = false := Nat.testBit_lt_two_pow (Nat.lt_of_lt_of_le hlt (Nat.pow_le_pow_right (by decide) hi))
      simp [this]
    · simp [hi]
  rw [h1, h2]
  have e : y = 2 * (y / 2) + y % 2 := by omega
  rw [Nat.pow_succ]
  rcases Nat.mod_two_eq_zero_or_one y with h | h
  · rw [if_neg (by omega)]
    conv => lhs; rw [e, h]
    rw [Nat.add_zero, Nat.add_zero, Nat.mul_comm, Nat.mul_assoc]
  · rw [if_pos h]
    conv => lhs; rw [e, h]
    rw [Nat.add_mul, Nat.one_mul, Nat.mul_comm (2 * (y / 2)), Nat.mul_assoc]
set_option maxRecDepth 100000 in
theorem ofm_eq {f : Nat → Nat} (h : Lin f) (k : Nat) : ∀ j y made, y < 2 ^ k → ofm f k j y made = made ^^^ f (y * 2 ^ j) := by
  induction k with
  | zero => intro j y made hy; rw [show y = 0 from by simpa using hy, Nat.zero_mul, h.zero, Nat.xor_zero]; rfl
  | succ k ih =>
    intro j y made hy
    show ofm f k (j + 1) (y / 2) _ = _
    rw [ih _ _ _ (by rw [Nat.pow_succ] at hy; omega), split2 y j, h.lin]
    split
    · rw [Nat.xor_assoc]
    · rw [h.zero, Nat.zero_xor]
set_option maxRecDepth 100000 in
/-- How often the matrix of f is used: f, n times, by its squares. -/
theorem pw_even (f : Nat → Nat) (n x : Nat) (h : n % 2 = 0) : pw f n x = pw (fun y => f (f y)) (n / 2) x := by
  rw [pw_two]; congr 1; omega
set_option maxRecDepth 100000 in
theorem pw_odd (f : Nat → Nat) (n x : Nat) (h : n % 2 = 1) : pw f n x = pw (fun y => f (f y)) (n / 2) (f x) := by
  rw [pw_two]
  conv => lhs; rw [show n = 2 * (n / 2) + 1 from by omega]
  rfl
end Go.Proofs.Ytgcnbeigchppfaa.Crc
