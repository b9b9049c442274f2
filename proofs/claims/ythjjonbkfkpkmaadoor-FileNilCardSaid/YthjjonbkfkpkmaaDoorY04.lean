/- Plain facts on sums of 32 bits: a step, eight of them, a matrix that is made of a linear function, and its powers, on natural numbers below 2^32. No program in it; no condition but those that each lemma names. -/
import Derived.WalkKit
import Derived.Test.YthjjonbkfkpkmaaDoorProg
import Derived.Laws.Bits64
import Derived.OwnWalk
import Derived.Deep.OwnRows
import Derived.Deep.WholeRow
namespace Go.Proofs.YthjjonbkfkpkmaaDoor.Crc

/-- A function that makes of numbers, xored, what it makes of each, xored, and stays below 2^32. -/
structure Lin (f : Nat → Nat) : Prop where
  lin : ∀ a b, f (a ^^^ b) = f a ^^^ f b
  lt : ∀ a, a < 4294967296 → f a < 4294967296

set_option maxRecDepth 100000 in
theorem Lin.zero {f : Nat → Nat} (h : Lin f) : f 0 = 0 := by
  have := h.lin 0 0
  rw [Nat.xor_self, Nat.xor_self] at this
  exact this
set_option maxRecDepth 100000 in
theorem Lin.comp {f g : Nat → Nat} (hf : Lin f) (hg : Lin g) : Lin (fun x => f (g x)) :=
  ⟨fun a b => by simp only [hg.lin, hf.lin], fun a h => hf.lt _ (hg.lt _ h)⟩
set_option maxRecDepth 100000 in
theorem xor_lt {a b : Nat} (ha : a < 4294967296) (hb : b < 4294967296) : a ^^^ b < 4294967296 := Nat.xor_lt_two_pow (n := 32) ha hb

/-- One step. -/
def stp (x : Nat) : Nat := if x % 2 = 1 then x / 2 ^^^ 3988292384 else x / 2
set_option maxRecDepth 100000 in
theorem stp_lin : Lin stp := by
  refine ⟨fun a b => ?_, fun a h => ?_⟩
  · unfold stp
    have hm : (a ^^^ b) % 2 = (a % 2) ^^^ (b % 2) := Nat.xor_mod_two_pow (n := 1)
    rw [Nat.xor_div_two, hm]
    generalize a / 2 = p
    generalize b / 2 = q
    rcases Nat.mod_two_eq_zero_or_one a with e | e <;> rcases Nat.mod_two_eq_zero_or_one b with e' | e' <;> rw [e, e']
    · rfl
    · show p ^^^ q ^^^ 3988292384 = p ^^^ (q ^^^ 3988292384)
      rw [Nat.xor_assoc]
    · show p ^^^ q ^^^ 3988292384 = p ^^^ 3988292384 ^^^ q
      ac_rfl
    · show p ^^^ q = p ^^^ 3988292384 ^^^ (q ^^^ 3988292384)
      rw [show p ^^^ 3988292384 ^^^ (q ^^^ 3988292384) = p ^^^ q ^^^ (3988292384 ^^^ 3988292384) from by ac_rfl, Nat.xor_self, Nat.xor_zero]
  · unfold stp
    split
    · exact xor_lt (by omega) (by decide)
    · omega
set_option maxRecDepth 100000 in
theorem stp_even (y : Nat) : stp (2 * y) = y := by unfold stp; rw [if_neg (by omega)]; omega
set_option maxRecDepth 100000 in
theorem stp_inj {a : Nat} (h : a < 4294967296) (h0 : stp a = 0) : a = 0 := by
  unfold stp at h0
  split at h0
  · have hx : a / 2 = 3988292384 := by
      have := congrArg (· ^^^ 3988292384) h0
      simpa [Nat.xor_assoc] using this
    omega
  · omega

/-- Eight steps. -/
def ei (x : Nat) : Nat := stp (stp (stp (stp (stp (stp (stp (stp x)))))))
set_option maxRecDepth 100000 in
theorem ei_lin : Lin ei :=
  stp_lin.comp (stp_lin.comp (stp_lin.comp (stp_lin.comp (stp_lin.comp (stp_lin.comp (stp_lin.comp stp_lin))))))
set_option maxRecDepth 100000 in
theorem ei_lt {x : Nat} (h : x < 4294967296) : ei x < 4294967296 := ei_lin.lt x h
set_option maxRecDepth 100000 in
theorem ei_high (y : Nat) : ei (256 * y) = y := by
  unfold ei
  rw [show 256 * y = 2 * (2 * (2 * (2 * (2 * (2 * (2 * (2 * y))))))) from by omega]
  simp only [stp_even]
set_option maxRecDepth 100000 in
theorem ei_inj {a : Nat} (h : a < 4294967296) (h0 : ei a = 0) : a = 0 := by
  have l := stp_lin.lt
  have l1 := l a h; have l2 := l _ l1; have l3 := l _ l2; have l4 := l _ l3; have l5 := l _ l4; have l6 := l _ l5; have l7 := l _ l6
  exact stp_inj h (stp_inj l1 (stp_inj l2 (stp_inj l3 (stp_inj l4 (stp_inj l5 (stp_inj l6 (stp_inj l7 h0)))))))

set_option maxRecDepth 100000 in
theorem xor_low (x c : Nat) (hc : c < 256) : x % 256 ^^^ c = (x ^^^ c) % 256 := by
  rw [show (256 : Nat) = 2 ^ 8 from rfl, Nat.xor_mod_two_pow, Nat.mod_eq_of_lt (show c < 2 ^ 8 from hc)]
set_option maxRecDepth 100000 in
theorem xor_high (x c : Nat) (hc : c < 256) : (x ^^^ c) / 256 = x / 256 := by
  rw [show (256 : Nat) = 2 ^ 8 from rfl, ← Nat.shiftRight_eq_div_pow, Nat.shiftRight_xor_distrib, Nat.shiftRight_eq_div_pow, Nat.shiftRight_eq_div_pow, Nat.div_eq_of_lt (show c < 2 ^ 8 from hc), Nat.xor_zero]
set_option maxRecDepth 100000 in
theorem split256 (x : Nat) : x = x % 256 ^^^ 256 * (x / 256) := by
  have h := Nat.two_pow_add_eq_or_of_lt (i := 8) (b := x % 256) (Nat.mod_lt _ (by decide)) (x / 256)
  have hx : (2 ^ 8 * (x / 256)) ^^^ (x % 256) = 2 ^ 8 * (x / 256) + x % 256 := by
    rw [h]
    apply Nat.eq_of_testBit_eq
    intro i
    rw [Nat.testBit_xor, Nat.testBit_or, Nat.testBit_two_pow_mul]
    by_cases hi : 8 ≤ i
    · have : (x % 256).testBit i = false := Nat.testBit_lt_two_pow (Nat.lt_of_lt_of_le (Nat.mod_lt x (by decide : (256:Nat) > 0)) (Nat.pow_le_pow_right (by decide) hi : 2 ^ 8 ≤ 2 ^ i))
      simp [this]
    · simp [hi]
  rw [Nat.xor_comm]
  show x = 2 ^ 8 * (x / 256) ^^^ x % 256
  rw [hx]; omega
set_option maxRecDepth 100000 in
/-- What the table makes of a byte that passes is eight steps. -/
theorem pass_eq (x c : Nat) (hc : c < 256) : ei (x % 256 ^^^ c) ^^^ x / 256 = ei (x ^^^ c) := by
  have h := ei_lin.lin ((x ^^^ c) % 256) (256 * ((x ^^^ c) / 256))
  rw [← split256, ei_high] at h
  rw [h, xor_low x c hc, xor_high x c hc]
set_option maxRecDepth 100000 in
theorem low_lt (x c : Nat) (hc : c < 256) : x % 256 ^^^ c < 256 := by rw [xor_low x c hc]; exact Nat.mod_lt _ (by decide)

/-- All bits turned. -/
def nt (x : Nat) : Nat := x ^^^ 4294967295
set_option maxRecDepth 100000 in
theorem nt_nt (x : Nat) : nt (nt x) = x := by unfold nt; rw [Nat.xor_assoc, Nat.xor_self, Nat.xor_zero]
set_option maxRecDepth 100000 in
theorem nt_lt {x : Nat} (h : x < 4294967296) : nt x < 4294967296 := xor_lt h (by decide)
set_option maxRecDepth 100000 in
theorem nt_sub {x : Nat} (h : x < 4294967296) : nt x = 4294967295 - x := by
  have := BitVec.toNat_not (x := BitVec.ofNat 32 x)
  rw [← BitVec.xor_allOnes, BitVec.toNat_xor, BitVec.toNat_ofNat, Nat.mod_eq_of_lt (show x < 2 ^ 32 from h)] at this
  exact this

/-- The state behind bytes f 0 .. f (n-1), from x on. -/
def run (f : Nat → Nat) : Nat → Nat → Nat
  | 0, x => x
  | n + 1, x => ei (run f n x ^^^ f n)
set_option maxRecDepth 100000 in
theorem run_lt {f : Nat → Nat} (hf : ∀ i, f i < 256) (n x : Nat) (h : x < 4294967296) : run f n x < 4294967296 := by
  induction n with
  | zero => exact h
  | succ n ih => exact ei_lt (xor_lt ih (Nat.lt_trans (hf n) (by decide)))
set_option maxRecDepth 100000 in
theorem run_congr {f g : Nat → Nat} (n x : Nat) (h : ∀ i, i < n → f i = g i) : run f n x = run g n x := by
  induction n with
  | zero => rfl
  | succ n ih => unfold run; rw [ih (fun i hi => h i (by omega)), h n (by omega)]
set_option maxRecDepth 100000 in
theorem run_add (f : Nat → Nat) (m n x : Nat) : run f (m + n) x = run (fun i => f (m + i)) n (run f m x) := by
  induction n with
  | zero => rfl
  | succ n ih => show ei (run f (m + n) x ^^^ f (m + n)) = _; rw [ih]; rfl
/-- n times eight steps. -/
def pw (f : Nat → Nat) : Nat → Nat → Nat
  | 0, x => x
  | n + 1, x => pw f n (f x)
set_option maxRecDepth 100000 in
theorem pw_succ (f : Nat → Nat) (n x : Nat) : pw f (n + 1) x = f (pw f n x) := by
  induction n generalizing x with
  | zero => rfl
  | succ n ih => exact ih (f x)
set_option maxRecDepth 100000 in
theorem pw_add (f : Nat → Nat) (m n x : Nat) : pw f (m + n) x = pw f n (pw f m x) := by
  induction m generalizing x with
  | zero => rw [Nat.zero_add]; rfl
  | succ m ih => rw [show m + 1 + n = (m + n) + 1 from by omega]; exact ih (f x)
set_option maxRecDepth 100000 in
theorem pw_lin {f : Nat → Nat} (h : Lin f) (n : Nat) : Lin (pw f n) := by
  induction n with
  | zero => exact ⟨fun _ _ => rfl, fun _ h => h⟩
  | succ n ih => exact ih.comp h
set_option maxRecDepth 100000 in
theorem pw_two (f : Nat → Nat) (n x : Nat) : pw (fun y => f (f y)) n x = pw f (2 * n) x := by
  induction n generalizing x with
  | zero => rfl
  | succ n ih => rw [show 2 * (n + 1) = 2 * n + 1 + 1 from by omega]; exact ih (f (f x))
set_option maxRecDepth 100000 in
theorem run_zeros (n x : Nat) : run (fun _ => 0) n x = pw ei n x := by
  induction n with
  | zero => rfl
  | succ n ih => rw [pw_succ, ← ih]; show ei (_ ^^^ 0) = _; rw [Nat.xor_zero]
set_option maxRecDepth 100000 in
/-- Runs are straight in what they began with. -/
theorem run_xor (f g : Nat → Nat) (n x y : Nat) : run f n x ^^^ run g n y = run (fun i => f i ^^^ g i) n (x ^^^ y) := by
  induction n with
  | zero => rfl
  | succ n ih =>
    show ei _ ^^^ ei _ = ei _
    rw [← ei_lin.lin, ← ih]
    congr 1
    show _ = run f n x ^^^ run g n y ^^^ (f n ^^^ g n)
    ac_rfl
/-- The sum of bytes. -/
def sm (f : Nat → Nat) (n s : Nat) : Nat := nt (run f n (nt s))
set_option maxRecDepth 100000 in
theorem sm_lt {f : Nat → Nat} (hf : ∀ i, f i < 256) (n s : Nat) (h : s < 4294967296) : sm f n s < 4294967296 := nt_lt (run_lt hf n _ (nt_lt h))
set_option maxRecDepth 100000 in
theorem sm_zero (f : Nat → Nat) (s : Nat) : sm f 0 s = s := nt_nt s
set_option maxRecDepth 100000 in
theorem sm_add (f : Nat → Nat) (m n s : Nat) : sm f (m + n) s = sm (fun i => f (m + i)) n (sm f m s) := by unfold sm; rw [run_add, nt_nt]
set_option maxRecDepth 100000 in
theorem sm_congr {f g : Nat → Nat} (n s : Nat) (h : ∀ i, i < n → f i = g i) : sm f n s = sm g n s := by unfold sm; rw [run_congr n _ h]
set_option maxRecDepth 100000 in
/-- Join: the first sum, led on, and the second one. -/
theorem sm_join (f g : Nat → Nat) (m n : Nat) : pw ei n (sm f m 0) ^^^ sm g n 0 = sm g n (sm f m 0) := by
  generalize sm f m 0 = a
  unfold sm
  rw [← run_zeros]
  have h := run_xor (fun _ => 0) g n a (nt 0)
  have e : a ^^^ nt 0 = nt a := by unfold nt; rw [Nat.zero_xor]
  simp only [Nat.zero_xor] at h
  rw [e] at h
  rw [← h]
  unfold nt
  rw [Nat.xor_assoc]
set_option maxRecDepth 100000 in
/-- A byte that is changed changes the sum. -/
theorem run_ne {f g : Nat → Nat} (hf : ∀ i, f i < 256) (hg : ∀ i, g i < 256) (n x at_ : Nat) (hat : at_ < n) (hne : f at_ ≠ g at_) (hsame : ∀ i, i ≠ at_ → f i = g i) : run f n x ≠ run g n x := by
  intro he
  have h := run_xor f g n x x
  rw [he, Nat.xor_self, Nat.xor_self] at h
  have hd : ∀ i, f i ^^^ g i < 4294967296 := fun i => xor_lt (Nat.lt_trans (hf i) (by decide)) (Nat.lt_trans (hg i) (by decide))
  have hb : ∀ i, f i ^^^ g i < 256 := fun i => Nat.xor_lt_two_pow (n := 8) (hf i) (hg i)
  have hz : ∀ k, k ≤ n - at_ - 1 → run (fun i => f i ^^^ g i) (n - k) 0 = 0 := by
    intro k
    induction k with
    | zero => intro _; exact h.symm
    | succ k ih =>
      intro hk
      have h1 := ih (by omega)
      rw [show n - k = (n - (k + 1)) + 1 from by omega] at h1
      have h2 := ei_inj (xor_lt (run_lt hb _ _ (by decide)) (hd _)) h1
      rw [hsame (n - (k + 1)) (by omega), Nat.xor_self, Nat.xor_zero] at h2
      exact h2
  have h3 := hz (n - at_ - 1) (Nat.le_refl _)
  rw [show n - (n - at_ - 1) = at_ + 1 from by omega] at h3
  have h4 := ei_inj (xor_lt (run_lt hb _ _ (by decide)) (hd _)) h3
  have h5 : ∀ k, k ≤ at_ → run (fun i => f i ^^^ g i) k 0 = 0 := by
    intro k
    induction k with
    | zero => intro _; rfl
    | succ k ih =>
      intro hk
      show ei (run (fun i => f i ^^^ g i) k 0 ^^^ (f k ^^^ g k)) = 0
      rw [ih (by omega), hsame k (by omega), Nat.xor_self, Nat.xor_self]
      exact ei_lin.zero
  rw [h5 at_ (Nat.le_refl _), Nat.zero_xor] at h4
  exact hne (by
    have := congrArg (· ^^^ g at_) h4
    simpa [Nat.xor_assoc] using this)

/-! ### A matrix: what is made of each bit alone -/
/-- What the matrix of f makes of a number: bit by bit, from bit j on, what is left being y. -/
def ofm (f : Nat → Nat) : Nat → Nat → Nat → Nat → Nat
  | 0, _, _, made => made
  | k + 1, j, y, made => ofm f k (j + 1) (y / 2) (if y % 2 = 1 then made ^^^ f (2 ^ j) else made)
set_option maxRecDepth 100000 in
theorem split2 (y j : Nat) : y * 2 ^ j = (if y % 2 = 1 then 2 ^ j else 0) ^^^ y / 2 * 2 ^ (j + 1) := by
  have h1 : (y / 2 * 2 ^ (j + 1)) = 2 ^ (j + 1) * (y / 2) := Nat.mul_comm _ _
  have hlt : (if y % 2 = 1 then 2 ^ j else 0) < 2 ^ (j + 1) := by
    split
    · exact Nat.pow_lt_pow_right (by decide) (by omega)
    · exact Nat.two_pow_pos _
  have h2 : (if y % 2 = 1 then 2 ^ j else 0) ^^^ 2 ^ (j + 1) * (y / 2) = 2 ^ (j + 1) * (y / 2) + (if y % 2 = 1 then 2 ^ j else 0) := by
    rw [Nat.two_pow_add_eq_or_of_lt hlt]
    apply Nat.eq_of_testBit_eq
    intro i
    rw [Nat.testBit_xor, Nat.testBit_or, Nat.testBit_two_pow_mul]
    by_cases hi : j + 1 ≤ i
    · have : (if y % 2 = 1 then 2 ^ j else 0).testBit i = false := Nat.testBit_lt_two_pow (Nat.lt_of_lt_of_le hlt (Nat.pow_le_pow_right (by decide) hi))
      simp [this]
    · simp [hi]
  rw [h1, h2]
  have e : y = 2 * (y / 2) + y % 2 := by omega
  rw [Nat.pow_succ]
  rcases Nat.mod_two_eq_zero_or_one y with h | h
  · rw [if_neg (by omega)]
    conv => lhs; rw [e, h]
    rw [Nat.add_zero, Nat.add_zero, Nat.mul_comm, Nat.mul_assoc]
  · rw [if_pos h]
    conv => lhs; rw [e, h]
    rw [Nat.add_mul, Nat.one_mul, Nat.mul_comm (2 * (y / 2)), Nat.mul_assoc]
set_option maxRecDepth 100000 in
theorem ofm_eq {f : Nat → Nat} (h : Lin f) (k : Nat) : ∀ j y made, y < 2 ^ k → ofm f k j y made = made ^^^ f (y * 2 ^ j) := by
  induction k with
  | zero => intro j y made hy; rw [show y = 0 from by simpa using hy, Nat.zero_mul, h.zero, Nat.xor_zero]; rfl
  | succ k ih =>
    intro j y made hy
    show ofm f k (j + 1) (y / 2) _ = _
    rw [ih _ _ _ (by rw [Nat.pow_succ] at hy; omega), split2 y j, h.lin]
    split
    · rw [Nat.xor_assoc]
    · rw [h.zero, Nat.zero_xor]
set_option maxRecDepth 100000 in
/-- How often the matrix of f is used: f, n times, by its squares. -/
theorem pw_even (f : Nat → Nat) (n x : Nat) (h : n % 2 = 0) : pw f n x = pw (fun y => f (f y)) (n / 2) x := by
  rw [pw_two]; congr 1; omega
set_option maxRecDepth 100000 in
theorem pw_odd (f : Nat → Nat) (n x : Nat) (h : n % 2 = 1) : pw f n x = pw (fun y => f (f y)) (n / 2) (f x) := by
  rw [pw_two]
  conv => lhs; rw [show n = 2 * (n / 2) + 1 from by omega]
  rfl
end Go.Proofs.YthjjonbkfkpkmaaDoor.Crc
namespace Go.Proofs.YthjjonbkfkpkmaaDoor.Crc
open Go.RowKit

set_option maxRecDepth 100000 in
theorem wrap_u32n (n : Int) : IntKind.u32.wrap n = n % 4294967296 := by simp [IntKind.wrap, IntKind.bits, IntKind.signed]
set_option maxRecDepth 100000 in
theorem wrap_u8n (n : Int) : IntKind.u8.wrap n = n % 256 := by simp [IntKind.wrap, IntKind.bits, IntKind.signed]
set_option maxRecDepth 100000 in
theorem ofInt32 (a : Nat) (ha : a < 4294967296) : (BitVec.ofInt 32 (a : Int)).toNat = a := by
  rw [BitVec.ofInt_natCast, BitVec.toNat_ofNat]; exact Nat.mod_eq_of_lt (by omega)
set_option maxRecDepth 100000 in
theorem xor32 (a b : Nat) (ha : a < 4294967296) (hb : b < 4294967296) : bits .xor .u32 (a : Int) (b : Int) = ((a ^^^ b : Nat) : Int) := by
  have hx : a ^^^ b < 4294967296 := xor_lt ha hb
  show IntKind.u32.wrap ((BitVec.ofInt 32 (a : Int) ^^^ BitVec.ofInt 32 (b : Int)).toNat : Int) = _
  rw [BitVec.toNat_xor, ofInt32 a ha, ofInt32 b hb, wrap_u32n]
  omega
set_option maxRecDepth 100000 in
theorem and32 (a b : Nat) (ha : a < 4294967296) (hb : b < 4294967296) : bits .and .u32 (a : Int) (b : Int) = ((a &&& b : Nat) : Int) := by
  have hx : a &&& b < 2 ^ 32 := Nat.and_lt_two_pow _ (by omega)
  show IntKind.u32.wrap ((BitVec.ofInt 32 (a : Int) &&& BitVec.ofInt 32 (b : Int)).toNat : Int) = _
  rw [BitVec.toNat_and, ofInt32 a ha, ofInt32 b hb, wrap_u32n]
  omega

set_option maxRecDepth 100000 in
theorem hid {p : Prop} (h : p) : Hid p := h
set_option maxRecDepth 100000 in
theorem ret_u32 {a b : Int} (h : a = b) : Ending.returned (.int .u32 a) = .returned (.int .u32 b) := by rw [h]

set_option maxRecDepth 100000 in
theorem stp_odd {x : Nat} (hx : x < 4294967296) (h : x % 2 = 1) : bits .xor .u32 ((x : Int) / 2) 3988292384 = (stp x : Int) := by
  rw [show ((x : Int) / 2) = ((x / 2 : Nat) : Int) from by omega, show (3988292384 : Int) = ((3988292384 : Nat) : Int) from rfl, xor32 _ _ (by omega) (by decide)]
  unfold stp; rw [if_pos h]
set_option maxRecDepth 100000 in
theorem stp_ev {x : Nat} (h : x % 2 = 0) : ((x : Int) / 2) = (stp x : Int) := by unfold stp; rw [if_neg (by omega)]; omega
set_option maxRecDepth 100000 in
theorem and_one (x : Nat) (hx : x < 4294967296) : bits .and .u32 (x : Int) 1 = ((x % 2 : Nat) : Int) := by
  rw [show (1 : Int) = ((1 : Nat) : Int) from rfl, and32 _ _ hx (by decide), Nat.and_one_is_mod]

set_option maxRecDepth 100000 in
theorem step_any (x : Nat) (hx : x < 4294967296) (w : World) :
    Calls Tryd.prog 13 #[.int .u32 (x : Int)] w fun e w' => e = .returned (.int .u32 (stp x : Int)) ∧ w = w' := by
  have h1 := and_one x hx
  rcases Nat.mod_two_eq_zero_or_one x with h | h
  · have ht : (bits .and .u32 (x : Int) 1 == 1) = false := by rw [h1, h]; rfl
    clear h1
    go_enter Tryd.func13, Tryd.ntmps13
    go_wp2
    go_ret
    exact ⟨ret_u32 (stp_ev h), rfl⟩
  · have ht : (bits .and .u32 (x : Int) 1 == 1) = true := by rw [h1, h]; rfl
    clear h1
    have H := hid h
    clear h
    go_enter Tryd.func13, Tryd.ntmps13
    go_wp2
    go_ret
    exact ⟨ret_u32 (stp_odd hx H.out), rfl⟩
set_option maxRecDepth 100000 in
theorem pw_lt {f : Nat → Nat} (h : Lin f) (n x : Nat) (hx : x < 4294967296) : pw f n x < 4294967296 := (pw_lin h n).lt x hx
end Go.Proofs.YthjjonbkfkpkmaaDoor.Crc
namespace Go.Proofs.YthjjonbkfkpkmaaDoor.Crc
open Go.RowKit

def zeros (n : Nat) : Array Value := Array.replicate n (.int .u32 0)
set_option maxRecDepth 100000 in
theorem Tryd.zero40 : (Tryd.prog.info? 56).map (fun i => (i.zero, i.size)) = some (some (.agg (zeros 256)), 256) := by kernel_rfl
set_option maxRecDepth 100000 in
theorem z40 (w : World) : (zeroValue 56).run Tryd.prog w = .ok (.agg (zeros 256)) w := (zero_of_info Tryd.zero40).1 w

/-- The table, in memory. -/
def Tab (w : World) (g : Nat) : Prop := w.rowIs g 56 256 (fun i => .int .u32 (ei i : Int))

set_option maxRecDepth 100000 in
theorem make_any (w : World) :
    Calls Tryd.prog 8 #[] w fun e w' => e = .returned (.pointer (some ⟨w.heap.size, 0, none⟩)) ∧ Tab w' w.heap.size ∧ Below w.heap.size w w' := by
  have hz := z40
  have hrow : ∀ t, (w.alloc (.cells (zeros 256) t)).rowIs w.heap.size t 256 (fun i => if i < 0 then .int .u32 (ei i : Int) else .int .u32 0) := fun t =>
    ⟨zeros 256, heap_alloc_last w _, by simp [zeros], fun i hi => by simp [zeros, hi]⟩
  have hb : ∀ t, Below w.heap.size w (w.alloc (.cells (zeros 256) t)) := fun t => (Below.refl _ _).alloc (Nat.le_refl _) _
  generalize zeros 256 = Z at hz hrow hb
  have HR := hid hrow
  have HB := hid hb
  clear hrow hb
  go_enter Tryd.func8, Tryd.ntmps8
  go_wp2_with fail
  go_loopw [6, 2, 3] (fun i a b wr => ∃ k : Nat, k ≤ 256 ∧ i = .int .i64 k ∧ wr.rowIs w.heap.size 56 256 (fun i => if i < k then .int .u32 (ei i : Int) else .int .u32 0) ∧ Below w.heap.size w wr) (fun i _ _ _ => 256 - (intOf i).toNat)
  case atStart => exact ⟨0, by decide, rfl, HR.out _, HB.out _⟩
  case round =>
    obtain ⟨k, hk, rfl, hrow, hb⟩ := hrel
    clear HR HB hz
    by_cases hlt : k < 256
    · have HC := hid (hrow.cell hlt)
      have HF := hid (hrow.frozen k)
      have HRW := hid hrow
      have HB := hid hb
      clear hrow hb
      have hd : decide ((k : Int) < 256) = true := by simp; omega
      obtain ⟨wo, rfl⟩ : ∃ wo : World, wo = wr := ⟨_, rfl⟩
      go_wp2_with fail
      go_loop [3, 11] (fun v j => ∃ m : Nat, m ≤ 8 ∧ j = .int .i64 m ∧ v = .int .u32 (pw stp m k : Int)) (fun _ j => 8 - (intOf j).toNat)
      case atStart => exact ⟨0, by decide, rfl, rfl⟩
      case round =>
        obtain ⟨m, hm, rfl, rfl⟩ := hrel
        have hl := pw_lt stp_lin m k (by omega)
        by_cases hmt : m < 8
        · go_wp2_with fail
          refine (step_any _ hl _).mono ?_
          rintro e w' ⟨rfl, rfl⟩
          go_wp2_with fail
          go_round
          case rel => exact ⟨m + 1, by omega, by go_num, by rw [pw_succ]⟩
          case measure => simp [intOf]; omega
        · obtain rfl : m = 8 := by omega
          have hc := HC.out
          have hf := HF.out
          go_wp2_with fail
          go_roundw
          case rel =>
            refine ⟨k + 1, by omega, by go_num, ?_, HB.out.setCell (Nat.le_refl _) _⟩
            refine (HRW.out.set k _).congr fun i hi => ?_
            by_cases h1 : i = k
            · subst h1; rw [if_pos rfl, if_pos (by omega)]; rfl
            · rw [if_neg h1]
              by_cases h2 : i < k
              · rw [if_pos h2, if_pos (by omega)]
              · rw [if_neg h2, if_neg (by omega)]
          case measure => simp [intOf]; omega
    · obtain rfl : k = 256 := by omega
      have H1 := hid hrow
      have H2 := hid hb
      clear hrow hb
      go_wp2_with fail
      go_ret
      exact ⟨rfl, H1.out.congr fun i hi => by rw [if_pos hi], H2.out⟩

set_option maxRecDepth 100000 in
theorem Tab.keep {w w' : World} {g : Nat} (h : Tab w g) (e : w'.heap[g]? = w.heap[g]?) : Tab w' g := World.rowIs.of_block h e
set_option maxRecDepth 100000 in
theorem Tab.lt {w : World} {g : Nat} (h : Tab w g) : g < w.heap.size := World.rowIs.lt h

set_option maxRecDepth 100000 in
theorem ofInt8 (a : Nat) (ha : a < 256) : (BitVec.ofInt 8 (a : Int)).toNat = a := by
  rw [BitVec.ofInt_natCast, BitVec.toNat_ofNat]; exact Nat.mod_eq_of_lt (by omega)
set_option maxRecDepth 100000 in
theorem xor8 (a b : Nat) (ha : a < 256) (hb : b < 256) : bits .xor .u8 (a : Int) (b : Int) = ((a ^^^ b : Nat) : Int) := by
  have hx : a ^^^ b < 256 := Nat.xor_lt_two_pow (n := 8) ha hb
  show IntKind.u8.wrap ((BitVec.ofInt 8 (a : Int) ^^^ BitVec.ofInt 8 (b : Int)).toNat : Int) = _
  rw [BitVec.toNat_xor, ofInt8 a ha, ofInt8 b hb, wrap_u8n]
  omega

set_option maxRecDepth 100000 in
theorem pass_any {w : World} {g : Nat} (h : Tab w g) (x c : Nat) (hx : x < 4294967296) (hc : c < 256) :
    Calls Tryd.prog 83 #[.pointer (some ⟨g, 0, none⟩), .int .u32 (x : Int), .int .u8 (c : Int)] w fun e w' => e = .returned (.int .u32 (ei (x ^^^ c) : Int)) ∧ w = w' := by
  have hcell := World.rowIs.cell h (i := x % 256 ^^^ c) (low_lt x c hc)
  have hb : bits .xor .u8 ((x : Int) % 256) (c : Int) = ((x % 256 ^^^ c : Nat) : Int) := xor8 (x % 256) c (Nat.mod_lt _ (by decide)) hc
  have hlt := low_lt x c hc
  have hei := ei_lt (x := x % 256 ^^^ c) (by omega)
  have hfin : bits .xor .u32 (ei (x % 256 ^^^ c) : Int) ((x : Int) / 256) = (ei (x ^^^ c) : Int) := by
    rw [show ((x : Int) / 256) = ((x / 256 : Nat) : Int) from by omega, xor32 _ _ hei (by omega), pass_eq x c hc]
  generalize x % 256 ^^^ c = y at *
  have HF := hid hfin
  clear hfin
  go_enter Tryd.func83, Tryd.ntmps83
  go_wp2_with fail
  go_ret
  exact ⟨ret_u32 HF.out, rfl⟩
end Go.Proofs.YthjjonbkfkpkmaaDoor.Crc
namespace Go.Proofs.YthjjonbkfkpkmaaDoor.Crc
open Go.RowKit

/-- Bytes, as they lie behind a slice. -/
structure Bytf (w : World) (a : Option Addr) (len : Nat) (f : Nat → Nat) : Prop where
  lt : ∀ i, f i < 256
  at_ : ∀ j, j < len → ∃ b off, a = some ⟨b, off, none⟩ ∧ w.cell? ⟨b, off + j, none⟩ = some (.int .u8 (f j : Int))
set_option maxRecDepth 100000 in
theorem Bytf.keep {w w' : World} {a : Option Addr} {len : Nat} {f : Nat → Nat} (h : Bytf w a len f) (e : Below w.heap.size w w') : Bytf w' a len f :=
  ⟨h.lt, fun j hj => by
    obtain ⟨b, off, ha, hc⟩ := h.at_ j hj
    exact ⟨b, off, ha, (e.cell (p := ⟨b, off + j, none⟩) (World.block_lt_of_cell? w _ hc)).trans hc⟩⟩
set_option maxRecDepth 100000 in
theorem Bytf.take {w : World} {a : Option Addr} {len : Nat} {f : Nat → Nat} (h : Bytf w a len f) (n : Nat) (hn : n ≤ len) : Bytf w a n f := ⟨h.lt, fun j hj => h.at_ j (by omega)⟩

set_option maxRecDepth 100000 in
theorem not32 {x : Nat} (h : x < 4294967296) : bits .xor .u32 IntKind.u32.max (x : Int) = ((nt x : Nat) : Int) := by
  rw [show IntKind.u32.max = ((4294967295 : Nat) : Int) from rfl, xor32 _ _ (by decide) h, Nat.xor_comm]; rfl
set_option maxRecDepth 100000 in
theorem sg32 : IntKind.u32.signed = false := rfl
set_option maxRecDepth 100000 in
theorem run_step (f : Nat → Nat) (k x : Nat) : run f (k + 1) x = ei (run f k x ^^^ f k) := rfl

set_option maxRecDepth 100000 in
theorem next_nil (s : Value) (b : Value) (w : World) : Calls Tryd.prog 61 #[.pointer none, s, b] w fun e w' => e = .returned (.int .u32 0) ∧ w = w' := by
  go_enter Tryd.func61, Tryd.ntmps61
  go_wp2_with fail
  go_ret
  exact ⟨rfl, rfl⟩

set_option maxRecDepth 100000 in
theorem next_any {w : World} {g : Nat} (h : Tab w g) (s : Nat) (hs : s < 4294967296) {a : Option Addr} {len cap : Nat} {f : Nat → Nat} (hb : Bytf w a len f) (hl : len ≤ 1099511627776) :
    Calls Tryd.prog 61 #[.pointer (some ⟨g, 0, none⟩), .int .u32 (s : Int), .slice a len cap] w fun e w' => e = .returned (.int .u32 (sm f len s : Int)) ∧ w = w' := by
  have hn := nt_lt hs
  have hsg := sg32
  have hnot := not32 hs
  go_enter Tryd.func61, Tryd.ntmps61
  go_wp2_with fail
  clear hnot
  go_loop [7, 9, 16] (fun v _ i => ∃ k : Nat, k ≤ len ∧ i = .int .i64 k ∧ v = .int .u32 (run f k (nt s) : Int)) (fun _ _ i => len - (intOf i).toNat)
  case atStart => exact ⟨0, Nat.zero_le _, rfl, rfl⟩
  case round =>
    obtain ⟨k, hk, rfl, rfl⟩ := hrel
    have hr := run_lt hb.lt k (nt s) hn
    by_cases hlt : k < len
    · obtain ⟨b, off, rfl, hc⟩ := hb.at_ k hlt
      have hf := hb.lt k
      go_wp2_with fail
      refine (pass_any h _ _ hr hf).mono ?_
      rintro e w' ⟨rfl, rfl⟩
      go_wp2_with fail
      go_round
      case rel => exact ⟨k + 1, by omega, by go_num, by rw [run_step]⟩
      case measure => simp [intOf]; omega
    · obtain rfl : k = len := by omega
      have hnot := not32 hr
      go_wp2_with fail
      go_ret
      exact ⟨rfl, rfl⟩
set_option maxRecDepth 100000 in
theorem sum_nil (b : Value) (w : World) : Calls Tryd.prog 31 #[.pointer none, b] w fun e w' => e = .returned (.int .u32 0) ∧ w = w' := by
  go_enter Tryd.func31, Tryd.ntmps31
  go_wp2_with fail
  refine (next_nil _ _ _).mono ?_
  rintro e w' ⟨rfl, rfl⟩
  go_wp2_with fail
  go_ret
  exact ⟨rfl, rfl⟩
set_option maxRecDepth 100000 in
theorem sum_any {w : World} {g : Nat} (h : Tab w g) {a : Option Addr} {len cap : Nat} {f : Nat → Nat} (hb : Bytf w a len f) (hl : len ≤ 1099511627776) :
    Calls Tryd.prog 31 #[.pointer (some ⟨g, 0, none⟩), .slice a len cap] w fun e w' => e = .returned (.int .u32 (sm f len 0 : Int)) ∧ w = w' := by
  go_enter Tryd.func31, Tryd.ntmps31
  go_wp2_with fail
  refine (next_any h 0 (by decide) hb hl).mono ?_
  rintro e w' ⟨rfl, rfl⟩
  go_wp2_with fail
  go_ret
  exact ⟨rfl, rfl⟩
def kf (i : Nat) : Nat := if i < 9 then 49 + i else 0
set_option maxRecDepth 100000 in
theorem kf_lt (i : Nat) : kf i < 256 := by unfold kf; split <;> omega
set_option maxRecDepth 100000 in
theorem kf_sum : sm kf 9 0 = 3421780262 := by decide +kernel
set_option maxRecDepth 100000 in
theorem bytf_known (w : World) : Bytf (w.alloc (.cells #[.int .u8 49, .int .u8 50, .int .u8 51, .int .u8 52, .int .u8 53, .int .u8 54, .int .u8 55, .int .u8 56, .int .u8 57] 5)) (some ⟨w.heap.size, 0, none⟩) 9 kf := by
  refine ⟨kf_lt, fun j hj => ⟨w.heap.size, 0, rfl, ?_⟩⟩
  rw [World.cell?_alloc_at _ _ _ _ rfl]
  match j, hj with
  | 0, _ | 1, _ | 2, _ | 3, _ | 4, _ | 5, _ | 6, _ | 7, _ | 8, _ => rfl
set_option maxRecDepth 100000 in
theorem bytf_none (w : World) (f : Nat → Nat) (hf : ∀ i, f i < 256) : Bytf w none 0 f := ⟨hf, fun _ hj => absurd hj (Nat.not_lt_zero _)⟩

end Go.Proofs.YthjjonbkfkpkmaaDoor.Crc
