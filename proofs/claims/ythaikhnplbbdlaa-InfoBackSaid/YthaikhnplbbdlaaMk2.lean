/- The maker's fields: numbers, signed ones, bytes, texts; its length and its bytes. Conditions: fewer than 2^40 bytes. -/
import Derived.Test.YthaikhnplbbdlaaMk
namespace Go.Proofs.Ythaikhnplbbdlaa.Fld
open Go.RowKit Gen

theorem byts_one (w : World) (x : Nat) (hx : x < 256) : Byts (w.alloc (.cells #[.int .u8 (x : Int)] 5)) (some ⟨w.heap.size, 0, none⟩) [x] :=
  ⟨fun b hb => by rw [List.mem_singleton.1 hb]; exact hx, fun j y hj => ⟨w.heap.size, 0, rfl, by
    cases j with
    | zero => simp at hj; subst hj; simp
    | succ j => simp at hj⟩⟩
theorem byts_one' (w : World) (x : Nat) : Byts (w.alloc (.cells #[.int .u8 ((x : Int) % 256)] 5)) (some ⟨w.heap.size, 0, none⟩) [x % 256] := by
  have := byts_one w (x % 256) (Nat.mod_lt _ (by decide))
  rwa [show (((x % 256 : Nat)) : Int) = (x : Int) % 256 from by omega] at this
theorem bel_alloc (w : World) (o : Obj) : Below w.heap.size w (w.alloc o) := (Below.refl _ _).alloc (Nat.le_refl _) _

theorem number_err {w : World} {B p cap F : Nat} {ao : Option Addr} {l : List Nat} (h : MkA w B p ao cap F l) (hF : F ≠ 0) (v n : Nat) (hv : v < 18446744073709551616) (hn : n ≤ 8) :
    Calls Try.prog 43 #[.pointer (some ⟨p, 0, none⟩), .int .u64 (v : Int), .int .i64 (n : Int)] w fun e w' => e = .returned (.tuple #[]) ∧ Below w.heap.size w w' := by
  have H := hid h
  have HF := hid hF
  clear h hF
  go_enter Try.func43, Try.ntmps43
  go_wp2_with fail
  go_loopw [1, 7] (fun x i wr => ∃ (k y : Nat), k ≤ n ∧ i = .int .i64 k ∧ x = .int .u64 (y : Int) ∧ y < 18446744073709551616 ∧ Below w.heap.size w wr) (fun _ i _ => n - (intOf i).toNat)
  case atStart => exact ⟨0, v, Nat.zero_le _, rfl, rfl, hv, Below.refl _ _⟩
  case round =>
    obtain ⟨k, y, hk, rfl, rfl, hy, hb⟩ := hrel
    have HB := hid hb
    clear hb
    by_cases hlt : k < n
    · go_wp2_with fail
      have HB2 := hid (HB.out.alloc HB.out.size (.cells #[.int .u8 ((y : Int) % 256)] 5))
      refine (lay_err (H.out.below HB2.out) HF.out _).mono ?_
      rintro e w1 ⟨rfl, rfl⟩
      generalize wr.alloc (.cells #[.int .u8 ((y : Int) % 256)] 5) = W at HB2 ⊢
      go_wp2_with fail
      go_roundw
      case rel => exact ⟨k + 1, y / 256, by omega, by go_num, congrArg (Value.int .u64) (by omega), by omega, HB2.out⟩
      case measure => simp [intOf]; omega
    · go_wp2_with fail
      go_end0
      exact ⟨rfl, HB.out⟩

set_option maxHeartbeats 800000 in
theorem number_ok {w : World} {B p cap : Nat} {ao : Option Addr} {l : List Nat} (h : MkA w B p ao cap 0 l) (hB : B ≤ w.heap.size) (v n : Nat) (hv : v < 18446744073709551616) (hn : n ≤ 8) (hlen : l.length ≤ 549755813888) :
    Calls Try.prog 43 #[.pointer (some ⟨p, 0, none⟩), .int .u64 (v : Int), .int .i64 (n : Int)] w fun e w' => e = .returned (.tuple #[]) ∧ ∃ ao' cap', MkA w' B p ao' cap' 0 (l ++ le v n) ∧ Psh w w' p ao ao' := by
  have H := hid h
  clear h
  go_enter Try.func43, Try.ntmps43
  go_wp2_with fail
  go_loopw [1, 7] (fun x i wr => ∃ (k : Nat) (ao' : Option Addr) (cap' : Nat), k ≤ n ∧ i = .int .i64 k ∧ x = .int .u64 ((v / 2 ^ (8 * k) : Nat) : Int) ∧ MkA wr B p ao' cap' 0 (l ++ le v k) ∧ Psh w wr p ao ao') (fun _ i _ => n - (intOf i).toNat)
  case atStart => exact ⟨0, ao, cap, Nat.zero_le _, rfl, by rw [Nat.mul_zero, Nat.pow_zero, Nat.div_one], by rw [le, List.append_nil]; exact H.out, Psh.refl _ _ _⟩
  case round =>
    obtain ⟨k, ao1, cap1, hk, rfl, rfl, hm, hP⟩ := hrel
    have HM := hid hm
    have HP := hid hP
    clear hm hP
    have hnx : v / 2 ^ (8 * k) / 256 = v / 2 ^ (8 * (k + 1)) := by rw [Nat.div_div_eq_div_mul, show 8 * (k + 1) = 8 * k + 8 from by omega, Nat.pow_add]
    have HX := hid hnx
    clear hnx
    have hle : le v (k + 1) = le v k ++ [v / 2 ^ (8 * k) % 256] := rfl
    have HL := hid hle
    clear hle
    have hxl : v / 2 ^ (8 * k) < 18446744073709551616 := Nat.lt_of_le_of_lt (Nat.div_le_self _ _) hv
    by_cases hlt : k < n
    · generalize v / 2 ^ (8 * k) = x at *
      have hll := le_len v k
      have HLL := hid hll
      clear hll
      go_wp2_with fail
      have hb := byts_one' wr x
      refine (lay_ok (HM.out.below (bel_alloc wr _)) hb (fun e => by cases e) (by have := HP.out.fr.size; simp; omega) (by rw [List.length_append, HLL.out]; simp; omega)).mono ?_
      rintro e w1 ⟨rfl, ao2, cap2, hm2, hP2⟩
      have HM2 := hid hm2
      have HP2 := hid ((HP.out.trans (Psh.new (bel_alloc wr _) p ao1)).trans hP2)
      clear hm2 hP2 hb
      go_wp2_with fail
      go_roundw
      case rel => exact ⟨k + 1, ao2, cap2, by omega, by go_num, congrArg (Value.int .u64) (by rw [← HX.out]; omega), by rw [HL.out, ← List.append_assoc]; exact HM2.out, HP2.out⟩
      case measure => simp [intOf]; omega
    · obtain rfl : k = n := by omega
      go_wp2_with fail
      go_end0
      exact ⟨rfl, ao1, cap1, HM.out, HP.out⟩
end Go.Proofs.Ythaikhnplbbdlaa.Fld
