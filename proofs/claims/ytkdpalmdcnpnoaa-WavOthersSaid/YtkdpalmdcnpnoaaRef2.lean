/- The document's own signed fields and texts. Conditions: texts of fewer than 2^38 bytes. -/
import Derived.Test.YtkdpalmdcnpnoaaRef
namespace Go.Proofs.Ytkdpalmdcnpnoaa.Fld
open Go.RowKit Gen

theorem le_congr (v u n : Nat) (h : v % 2 ^ (8 * n) = u % 2 ^ (8 * n)) : le v n = le u n := by
  induction n with
  | zero => rfl
  | succ n ih =>
    have e : 2 ^ (8 * (n + 1)) = 2 ^ (8 * n) * 256 := by rw [show 8 * (n + 1) = 8 * n + 8 from by omega, Nat.pow_add]
    rw [e] at h
    have h1 : v % 2 ^ (8 * n) = u % 2 ^ (8 * n) := by
      have := congrArg (· % 2 ^ (8 * n)) h
      simpa [Nat.mod_mul_right_mod] using this
    have h2 : v / 2 ^ (8 * n) % 256 = u / 2 ^ (8 * n) % 256 := by
      have := congrArg (· / 2 ^ (8 * n)) h
      simpa [Nat.mod_mul_right_div_self] using this
    rw [le, le, ih h1, h2]

theorem own_ret {w w' : World} {e : Nat} {m : List Nat} {n : Nat} (hn : m.length = n) (ho : w'.ownsRow w.heap.size 5 1 (.slice (some ⟨w.heap.size, 0, none⟩) n n) n (bl m)) (hb : Below w.heap.size w w') :
    RefP w e m (.returned (.tuple #[.slice (some ⟨w.heap.size, 0, none⟩) n n, .int .i64 (e : Int)])) w' := by
  subst hn
  exact ⟨_, _, rfl, ho, hb⟩

theorem neg_mod (v : Int) (k : Nat) (hk : 1 ≤ k) (hk8 : k ≤ 7) (h1 : -2 ^ (8 * k - 1) ≤ v) (h2 : v < 0) : (v + 2 ^ (8 * k)).toNat % 2 ^ (8 * k) = u64 v % 2 ^ (8 * k) := by
  unfold u64
  have hh : k = 1 ∨ k = 2 ∨ k = 3 ∨ k = 4 ∨ k = 5 ∨ k = 6 ∨ k = 7 := by omega
  rcases hh with rfl | rfl | rfl | rfl | rfl | rfl | rfl <;> simp only [Nat.reduceMul, Nat.reduceSub, Nat.reducePow, Int.reducePow] at h1 ⊢ <;> omega

set_option maxHeartbeats 1000000 in
theorem ri_any (v n : Int) (hv0 : -9223372036854775808 ≤ v) (hv1 : v ≤ 9223372036854775807) (w : World) :
    Calls Try.prog 80 #[.int .i64 v, .int .i64 n] w (RefP w (iErr v n) (ifOk (iErr v n) (le (u64 v) n.toNat))) := by
  by_cases hn : n < 1 ∨ 8 < n
  · have he : iErr v n = 1 := by unfold iErr; rw [if_pos hn]
    rw [he]
    rcases hn with hn | hn
    · go_enter Try.func80, Try.ntmps80
      go_wp2_with fail
      go_ret2
      exact refp_none w 1
    · have h1 : ¬ n < 1 := by omega
      go_enter Try.func80, Try.ntmps80
      go_wp2_with fail
      go_ret2
      exact refp_none w 1
  · obtain ⟨k, rfl⟩ : ∃ k : Nat, n = k := ⟨n.toNat, by omega⟩
    have h1 : ¬ (k : Int) < 1 := by omega
    have h8 : ¬ (8 : Int) < (k : Int) := by omega
    have hw := u64_wrap v
    have hul := u64_lt v
    by_cases hk8 : k = 8
    · subst hk8
      have he : iErr v ((8 : Nat) : Int) = 0 := by
        unfold iErr
        rw [if_neg hn, if_neg (by simp only [Int.toNat_natCast, Nat.reduceMul, Nat.reduceSub, Int.reducePow]; omega)]
      rw [he, Int.toNat_natCast]
      have hlen := le_len (u64 v) 8
      have HL := hid hlen
      clear hlen he
      go_enter Try.func80, Try.ntmps80
      go_wp2_with fail
      refine (rbytes_any (u64 v) 8 hul (by omega) _).mono ?_
      rintro e w1 ⟨rfl, hown, hb⟩
      have HH := hid (And.intro hown hb)
      clear hown hb
      go_wp2_with fail
      go_ret2
      exact own_ret HL.out HH.out.1 HH.out.2
    · have h7 : ((k : Int) == 8) = false := by rw [beq_eq_false_iff_ne]; omega
      have hpm : pw7 k = 2 * 2 ^ (8 * k - 1) := by
        unfold pw7
        rw [Nat.min_eq_left (by omega), pow256, show 8 * k = (8 * k - 1) + 1 from by omega, Nat.pow_succ, Nat.mul_comm]
        simp
      have hhf : 2 ^ (8 * k - 1) ≤ 36028797018963968 := Nat.le_trans (Nat.pow_le_pow_right (by decide) (show 8 * k - 1 ≤ 55 by omega)) (by decide)
      have hcast : ((2 : Int) ^ (8 * k - 1)) = ((2 ^ (8 * k - 1) : Nat) : Int) := by push_cast; rfl
      have hcast2 : ((2 : Int) ^ (8 * k)) = 2 * ((2 ^ (8 * k - 1) : Nat) : Int) := by
        rw [show 8 * k = (8 * k - 1) + 1 from by omega, Int.pow_succ]
        simp only [Nat.add_sub_cancel]
        push_cast; omega
      by_cases hov : v < -2 ^ (8 * k - 1) ∨ 2 ^ (8 * k - 1) ≤ v
      · have he : iErr v (k : Int) = 3 := by unfold iErr; rw [if_neg hn, Int.toNat_natCast, if_pos hov]
        rw [he]
        rw [hcast] at hov
        have HP := hid hpm
        clear hpm he hcast hcast2
        generalize 2 ^ (8 * k - 1) = hf at *
        rcases hov with hov | hov
        · go_enter Try.func80, Try.ntmps80
          go_wp2_with fail
          refine (power_any k _).mono ?_
          rintro e w1 ⟨rfl, rfl⟩
          rw [HP.out]
          have hq : ((2 * hf : Nat) : Int) / 2 = (hf : Int) := by omega
          go_wp2_with fail
          go_ret2
          exact refp_none _ 3
        · have hov2 : ¬ v < -(hf : Int) := by omega
          go_enter Try.func80, Try.ntmps80
          go_wp2_with fail
          refine (power_any k _).mono ?_
          rintro e w1 ⟨rfl, rfl⟩
          rw [HP.out]
          have hq : ((2 * hf : Nat) : Int) / 2 = (hf : Int) := by omega
          go_wp2_with fail
          go_ret2
          exact refp_none _ 3
      · have he : iErr v (k : Int) = 0 := by unfold iErr; rw [if_neg hn, Int.toNat_natCast, if_neg hov]
        rw [he, Int.toNat_natCast]
        by_cases hneg : v < 0
        · obtain ⟨x, hx⟩ : ∃ x : Nat, v + 2 ^ (8 * k) = (x : Int) := ⟨(v + 2 ^ (8 * k)).toNat, by rw [hcast] at hov; rw [hcast2]; omega⟩
          have hle : le x k = le (u64 v) k := le_congr _ _ _ (by
            have := neg_mod v k (by omega) (by omega) (by omega) hneg
            rw [hx, Int.toNat_natCast] at this
            exact this)
          have hlen := le_len x k
          rw [← hle]
          rw [hcast] at hov
          rw [hcast2] at hx
          have HP := hid hpm
          have HL := hid hlen
          clear hpm he hcast hcast2 hle hlen hw
          generalize 2 ^ (8 * k - 1) = hf at *
          have hv2 : ¬ v < -(hf : Int) := by omega
          have hv3 : ¬ (hf : Int) ≤ v := by omega
          have hxl : x < 18446744073709551616 := by omega
          have HX := hid hx
          clear hx hov
          go_enter Try.func80, Try.ntmps80
          go_wp2_with fail
          refine (power_any k _).mono ?_
          rintro e w1 ⟨rfl, rfl⟩
          rw [HP.out]
          have hq : ((2 * hf : Nat) : Int) / 2 = (hf : Int) := by omega
          have hx0 := HX.out
          have hx1 : 0 ≤ v + 2 * (hf : Int) := by omega
          have hx2 : v + 2 * (hf : Int) < 18446744073709551616 := by omega
          clear hx0
          go_wp2_with fail
          rw [HX.out]
          refine (rbytes_any x k hxl (by omega) _).mono ?_
          rintro e w2 ⟨rfl, hown, hb⟩
          have HH := hid (And.intro hown hb)
          clear hown hb
          go_wp2_with fail
          go_ret2
          exact own_ret HL.out HH.out.1 HH.out.2
        · obtain ⟨x, rfl⟩ : ∃ x : Nat, v = x := ⟨v.toNat, by omega⟩
          have hux : u64 (x : Int) = x := by unfold u64; omega
          rw [hux]
          have hlen := le_len x k
          rw [hcast] at hov
          have HP := hid hpm
          have HL := hid hlen
          clear hpm he hcast hcast2 hlen hw hux
          generalize 2 ^ (8 * k - 1) = hf at *
          have hv2 : ¬ (x : Int) < -(hf : Int) := by omega
          have hv3 : ¬ (hf : Int) ≤ (x : Int) := by omega
          have hxl : x < 18446744073709551616 := by omega
          clear hov
          go_enter Try.func80, Try.ntmps80
          go_wp2_with fail
          refine (power_any k _).mono ?_
          rintro e w1 ⟨rfl, rfl⟩
          rw [HP.out]
          have hq : ((2 * hf : Nat) : Int) / 2 = (hf : Int) := by omega
          go_wp2_with fail
          refine (rbytes_any x k hxl (by omega) _).mono ?_
          rintro e w2 ⟨rfl, hown, hb⟩
          have HH := hid (And.intro hown hb)
          clear hown hb
          go_wp2_with fail
          go_ret2
          exact own_ret HL.out HH.out.1 HH.out.2
end Go.Proofs.Ytkdpalmdcnpnoaa.Fld
