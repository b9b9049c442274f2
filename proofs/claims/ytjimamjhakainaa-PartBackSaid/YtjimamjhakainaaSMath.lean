/- Plain facts on bits: a list of L bits is held as the number N that they are, the first one highest. Byte i of them, what adding n bits does to the whole bytes and to what is left of one, what a reader's piece is. No program in it; no condition but those that each lemma names. -/
import Derived.WalkKit
import Derived.Laws.Bits64b
namespace Go.Proofs.Ytjimamjhakainaa.Bit

/-- Byte i of a number of L bits. -/
def byt (N L i : Nat) : Nat := N / 2 ^ (L - 8 * (i + 1)) % 256
theorem byt_lt (N L i : Nat) : byt N L i < 256 := Nat.mod_lt _ (by decide)

theorem byt_put (N L v n i : Nat) (hv : v < 2 ^ n) (hi : i < L / 8) : byt (N * 2 ^ n + v) (L + n) i = byt N L i := by
  unfold byt
  have e : L + n - 8 * (i + 1) = n + (L - 8 * (i + 1)) := by omega
  rw [e, Nat.pow_add, ← Nat.div_div_eq_div_mul]
  congr 2
  rw [Nat.mul_comm, Nat.mul_add_div (Nat.two_pow_pos n), Nat.div_eq_of_lt hv, Nat.add_zero]

theorem rest_put (N v n a : Nat) (hv : v < 2 ^ n) : (N % 2 ^ a) * 2 ^ n + v = (N * 2 ^ n + v) % 2 ^ (a + n) := by
  rw [Nat.add_comm a n, Nat.pow_add, Nat.mod_mul]
  have h1 : (N * 2 ^ n + v) % 2 ^ n = v := by rw [Nat.mul_comm, Nat.mul_add_mod, Nat.mod_eq_of_lt hv]
  have h2 : (N * 2 ^ n + v) / 2 ^ n = N := by rw [Nat.mul_comm, Nat.mul_add_div (Nat.two_pow_pos n), Nat.div_eq_of_lt hv, Nat.add_zero]
  rw [h1, h2, Nat.mul_comm (2 ^ n), Nat.add_comm]

theorem rest_byte (N E e : Nat) (h : e + 8 ≤ E) : N % 2 ^ E / 2 ^ e % 256 = N / 2 ^ e % 256 := by
  have e1 : E = e + (E - e) := by omega
  rw [e1, Nat.pow_add, Nat.mod_mul_right_div_self]
  have e2 : (256 : Nat) ∣ 2 ^ (E - e) := by
    have : E - e = 8 + (E - e - 8) := by omega
    rw [this, Nat.pow_add]; exact Nat.dvd_mul_right _ _
  exact Nat.mod_mod_of_dvd _ e2

theorem rest_mask (N E e : Nat) (h : e ≤ E) : N % 2 ^ E % 2 ^ e = N % 2 ^ e := Nat.mod_mod_of_dvd _ (Nat.pow_dvd_pow 2 h)

theorem pow_le_64 (a : Nat) (h : a ≤ 63) : 2 ^ a ≤ 9223372036854775808 := Nat.le_trans (Nat.pow_le_pow_right (by decide) h) (by decide)
theorem mod_lt_64 (N a : Nat) (h : a ≤ 64) : N % 2 ^ a < 18446744073709551616 := Nat.lt_of_lt_of_le (Nat.mod_lt _ (Nat.two_pow_pos a)) (Nat.le_trans (Nat.pow_le_pow_right (by decide) h) (by decide))

/-- 'a << n | v' of numbers that fit. -/
theorem shl_or (a v n : Nat) (hv : v < 2 ^ n) (ha : a * 2 ^ n + v < 18446744073709551616) :
    bits .or .u64 (IntKind.u64.wrap ((a : Int) * 2 ^ n)) (v : Int) = ((a * 2 ^ n + v : Nat) : Int) := by
  have e1 : ((a : Int) * 2 ^ n) = ((a * 2 ^ n : Nat) : Int) := by push_cast; rfl
  rw [e1, IntWalk.u64_in _ ⟨Int.natCast_nonneg _, by omega⟩, bits_or_u64_nat _ _ (by omega) (by omega)]
  congr 1
  rw [Nat.mul_comm a, Nat.two_pow_add_eq_or_of_lt hv]

/-- 'x >> e' of a natural number. -/
theorem shr_nat (x e : Nat) : ((x : Int) / 2 ^ e) = ((x / 2 ^ e : Nat) : Int) := by push_cast; rfl

/-- 'x & (1 << e - 1)'. -/
theorem and_mask (x e : Nat) (hx : x < 18446744073709551616) (he : e ≤ 63) :
    bits .and .u64 (x : Int) (IntKind.u64.wrap (IntKind.u64.wrap (2 ^ e) - 1)) = ((x % 2 ^ e : Nat) : Int) := by
  have hp := Nat.two_pow_pos e
  have hl := pow_le_64 e he
  have e1 : ((2 : Int) ^ e) = ((2 ^ e : Nat) : Int) := by push_cast; rfl
  rw [e1, IntWalk.u64_in _ ⟨Int.natCast_nonneg _, by omega⟩]
  have e2 : ((2 ^ e : Nat) : Int) - 1 = ((2 ^ e - 1 : Nat) : Int) := by omega
  rw [e2, IntWalk.u64_in _ ⟨Int.natCast_nonneg _, by omega⟩, bits_and_u64_nat _ _ hx (by omega), Nat.and_two_pow_sub_one_eq_mod]

theorem wrap_u8 (x : Nat) : IntKind.u8.wrap (x : Int) = ((x % 256 : Nat) : Int) := by rw [IntKind.wrap_u8]; omega
end Go.Proofs.Ytjimamjhakainaa.Bit
