/- How many bits a number has, in the library's own words (math/bits): the number of halvings till nothing is left. No condition. -/
import Derived.Test.YtjimamjhakainaaProg
import Derived.Lib.Strings
import Derived.Lib.Slices
import Derived.Lib.Small
import Derived.Lib.Walk
import Derived.Lib.BitFns
namespace Go.Proofs.Ytjimamjhakainaa.Rice

/-- What is left of a number is a byte: its place in the table says its bits. -/
theorem cut8 (x : Int) (d c : Nat) (hd : 0 < d) (y : Int) (hy : y = x / d) (h0 : 0 ≤ x) (h1 : y < 256) (hs : Lib.bitLen x.toNat = c + Lib.bitLen (x.toNat / d)) :
    Lib.len8 (y % 256) + c = (Lib.bitLen x.toNat : Int) ∧ 0 ≤ Lib.len8 (y % 256) ∧ Lib.len8 (y % 256) ≤ 8 := by
  have hy0 : 0 ≤ y := by rw [hy]; exact Int.ediv_nonneg h0 (by omega)
  have e : y % 256 = y := by omega
  have et : y.toNat = x.toNat / d := by
    obtain ⟨n, rfl⟩ := Int.eq_ofNat_of_zero_le h0
    rw [hy, Int.toNat_natCast]
    exact congrArg Int.toNat (show (n : Int) / (d : Int) = ((n / d : Nat) : Int) by push_cast; rfl)
  have h := Lib.len8_of y hy0 (by omega)
  have l := Lib.bitLen_le8' y hy0 (by omega)
  rw [e, h, hs, et]
  rw [et] at l
  omega

set_option maxHeartbeats 4000000 in
set_option maxRecDepth 100000 in
theorem len64_int (x : Int) (h0 : 0 ≤ x) (h1 : x ≤ 18446744073709551615) (w : World) : Calls Try.prog 113 #[.int .u64 x] w fun e w' => e = .returned (.int .i64 (Lib.bitLen x.toNat : Int)) ∧ w = w' := by
  go_enter Try.func113, Try.ntmps113
  go_wp2
  all_goals (go_ret; refine ⟨congrArg (fun z => Ending.returned (Value.int IntKind.i64 z)) ?_, rfl⟩)
  all_goals first
    | (obtain ⟨e1, e2, e3⟩ := cut8 x 72057594037927936 56 (by decide) (x / 4294967296 / 65536 / 256) (by omega) h0 (by omega) (Lib.bitLen_shift56 x.toNat (by omega) (by omega)); omega)
    | (obtain ⟨e1, e2, e3⟩ := cut8 x 281474976710656 48 (by decide) (x / 4294967296 / 65536) (by omega) h0 (by omega) (Lib.bitLen_shift48 x.toNat (by omega) (by omega)); omega)
    | (obtain ⟨e1, e2, e3⟩ := cut8 x 1099511627776 40 (by decide) (x / 4294967296 / 256) (by omega) h0 (by omega) (Lib.bitLen_shift40 x.toNat (by omega) (by omega)); omega)
    | (obtain ⟨e1, e2, e3⟩ := cut8 x 4294967296 32 (by decide) (x / 4294967296) (by omega) h0 (by omega) (Lib.bitLen_shift32 x.toNat (by omega) (by omega)); omega)
    | (obtain ⟨e1, e2, e3⟩ := cut8 x 16777216 24 (by decide) (x / 65536 / 256) (by omega) h0 (by omega) (Lib.bitLen_shift24 x.toNat (by omega) (by omega)); omega)
    | (obtain ⟨e1, e2, e3⟩ := cut8 x 65536 16 (by decide) (x / 65536) (by omega) h0 (by omega) (Lib.bitLen_shift16 x.toNat (by omega) (by omega)); omega)
    | (obtain ⟨e1, e2, e3⟩ := cut8 x 256 8 (by decide) (x / 256) (by omega) h0 (by omega) (Lib.bitLen_shift8 x.toNat (by omega) (by omega)); omega)
    | (obtain ⟨e1, e2, e3⟩ := cut8 x 1 0 (by decide) x (by omega) h0 (by omega) (by rw [Nat.div_one, Nat.zero_add]); omega)
theorem len64_any (x : Nat) (hx : x < 18446744073709551616) (w : World) : Calls Try.prog 113 #[.int .u64 (x : Int)] w fun e w' => e = .returned (.int .i64 (Lib.bitLen x : Int)) ∧ w = w' := by
  have h := len64_int (x : Int) (by omega) (by omega) w
  rw [Int.toNat_natCast] at h
  exact h
end Go.Proofs.Ytjimamjhakainaa.Rice
