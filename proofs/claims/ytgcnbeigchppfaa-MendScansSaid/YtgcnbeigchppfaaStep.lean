/- A step, and eight steps, of the program and of the document: what they answer, and that nothing has turned. No condition. -/
import Derived.Test.YtgcnbeigchppfaaMath
import Derived.Test.YtgcnbeigchppfaaProg
import Derived.Laws.Bits64
namespace Go.Proofs.Ytgcnbeigchppfaa.Crc
open Go.RowKit

set_option maxRecDepth 100000 in
theorem wrap_u32n (n : Int) : IntKind.u32.wrap n = n % 4294967296 := by simp [IntKind.wrap, IntKind.bits, IntKind.signed]
set_option maxRecDepth 100000 in
theorem wrap_u8n (n : Int) : IntKind.u8.wrap n = n % 256 := by simp [IntKind.wrap, IntKind.bits, IntKind.signed]
set_option maxRecDepth 100000 in
theorem ofInt32 (a : Nat) (ha : a < 4294967296) : (BitVec.ofInt 32 (a : Int)).toNat = a := by
  rw [BitVec.ofInt_natCast, BitVec.toNat_ofNat]; exact Nat.mod_eq_of_lt (by omega)
set_option maxRecDepth 100000 in
theorem xor32 (a b : Nat) (ha : a < 4294967296) (hb : b < 4294967296) : bits .xor .u32 (a : Int) (b : Int) = ((a ^^^ b : Nat) : Int) := by
  have hx : a ^^^ b < 4294967296 := xor_lt ha hb
  show IntKind.u32.wrap ((BitVec.ofInt 32 (a : Int) ^^^ BitVec.ofInt 32 (b : Int)).toNat : Int) = _
  rw [BitVec.toNat_xor, ofInt32 a ha, ofInt32 b hb, wrap_u32n]
  omega
set_option maxRecDepth 100000 in
theorem and32 (a b : Nat) (ha : a < 4294967296) (hb : b < 4294967296) : bits .and .u32 (a : Int) (b : Int) = ((a &&& b : Nat) : Int) := by
  have hx : a &&& b < 2 ^ 32 := Nat.and_lt_two_pow _ (by omega)
  show IntKind.u32.wrap ((BitVec.ofInt 32 (a : Int) &&& BitVec.ofInt 32 (b : Int)).toNat : Int) = _
  rw [BitVec.toNat_and, ofInt32 a ha, ofInt32 b hb, wrap_u32n]
  omega

set_option maxRecDepth 100000 in
theorem hid {p : Prop} (h : p) : Hid p := h
set_option maxRecDepth 100000 in
theorem ret_u32 {a b : Int} (h : a = b) : Ending.returned (.int .u32 a) = .returned (.int .u32 b) := by rw [h]

set_option maxRecDepth 100000 in
theorem stp_odd {x : Nat} (hx : x < 4294967296) (h : x % 2 = 1) : bits .xor .u32 ((x : Int) / 2) 3988292384 = (stp x : Int) := by
  rw [show ((x : Int) / 2) = ((x / 2 : Nat) : Int) from by omega, show (3988292384 : Int) = ((3988292384 : Nat) : Int) from rfl, xor32 _ _ (by omega) (by decide)]
  unfold stp; rw [if_pos h]
set_option maxRecDepth 100000 in
theorem stp_ev {x : Nat} (h : x % 2 = 0) : ((x : Int) / 2) = (stp x : Int) := by unfold stp; rw [if_neg (by omega)]; omega
set_option maxRecDepth 100000 in
theorem and_one (x : Nat) (hx : x < 4294967296) : bits .and .u32 (x : Int) 1 = ((x % 2 : Nat) : Int) := by
  rw [show (1 : Int) = ((1 : Nat) : Int) from rfl, and32 _ _ hx (by decide), Nat.and_one_is_mod]

set_option maxRecDepth 100000 in
theorem step_any (x : Nat) (hx : x < 4294967296) (w : World) :
    Calls Try.prog 26 #[.int .u32 (x : Int)] w fun e w' => e = .returned (.int .u32 (stp x : Int)) ∧ w = w' := by
  have h1 := and_one x hx
  rcases Nat.mod_two_eq_zero_or_one x with h | h
  · have ht : (bits .and .u32 (x : Int) 1 == 1) = false := by rw [h1, h]; rfl
    clear h1
    go_enter Try.func26, Try.ntmps26
    go_wp2
    go_ret
    exact ⟨ret_u32 (stp_ev h), rfl⟩
  · have ht : (bits .and .u32 (x : Int) 1 == 1) = true := by rw [h1, h]; rfl
    clear h1
    have H := hid h
    clear h
    go_enter Try.func26, Try.ntmps26
    go_wp2
    go_ret
    exact ⟨ret_u32 (stp_odd hx H.out), rfl⟩
set_option maxRecDepth 100000 in
theorem rstep_any (x : Nat) (hx : x < 4294967296) (w : World) :
    Calls Try.prog 76 #[.int .u32 (x : Int)] w fun e w' => e = .returned (.int .u32 (stp x : Int)) ∧ w = w' := by
  rcases Nat.mod_two_eq_zero_or_one x with h | h
  · have ht : ((x : Int) % 2 == 1) = false := by rw [show (x : Int) % 2 = 0 from by omega]; rfl
    have H := hid h
    clear h
    go_enter Try.func76, Try.ntmps76
    go_wp2
    go_ret
    exact ⟨ret_u32 (stp_ev H.out), rfl⟩
  · have ht : ((x : Int) % 2 == 1) = true := by rw [show (x : Int) % 2 = 1 from by omega]; rfl
    have H := hid h
    clear h
    go_enter Try.func76, Try.ntmps76
    go_wp2
    go_ret
    exact ⟨ret_u32 (stp_odd hx H.out), rfl⟩

set_option maxRecDepth 100000 in
theorem pw_lt {f : Nat → Nat} (h : Lin f) (n x : Nat) (hx : x < 4294967296) : pw f n x < 4294967296 := (pw_lin h n).lt x hx
set_option maxRecDepth 100000 in
theorem eight_any (x : Nat) (hx : x < 4294967296) (w : World) :
    Calls Try.prog 65 #[.int .u32 (x : Int)] w fun e w' => e = .returned (.int .u32 (ei x : Int)) ∧ w = w' := by
  go_enter Try.func65, Try.ntmps65
  go_wp2_with fail
  go_loop [0, 3] (fun v i => ∃ k : Nat, k ≤ 8 ∧ i = .int .i64 k ∧ v = .int .u32 (pw stp k x : Int)) (fun _ i => 8 - (intOf i).toNat)
  case atStart => exact ⟨0, by decide, rfl, rfl⟩
  case round =>
    obtain ⟨k, hk, rfl, rfl⟩ := hrel
    have hl := pw_lt stp_lin k x hx
    by_cases hlt : k < 8
    · go_wp2_with fail
      refine (rstep_any _ hl _).mono ?_
      rintro e w' ⟨rfl, rfl⟩
      go_wp2_with fail
      go_round
      case rel => exact ⟨k + 1, by omega, by go_num, by rw [pw_succ]⟩
      case measure => simp [intOf]; omega
    · obtain rfl : k = 8 := by omega
      go_wp2_with fail
      go_ret
      exact ⟨rfl, rfl⟩
end Go.Proofs.Ytgcnbeigchppfaa.Crc
