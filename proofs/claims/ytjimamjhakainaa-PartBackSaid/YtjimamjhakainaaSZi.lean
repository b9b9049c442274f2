/- PartCosts, walked: true, whatever the list and the order are. Condition: the list lies in memory. -/
import Derived.Test.YtjimamjhakainaaSZg
import Derived.Test.YtjimamjhakainaaSYp
namespace Go.Proofs.Ytjimamjhakainaa.Part
open Go.RowKit Bit Rice Runs

theorem bo_le {I : Nat → Int} {len : Nat} {p : Int} (h : ¬ lcc I len p = 0) : (bo I len).2 ≤ lcc I len p := by
  by_cases hc : cd I len ∧ ord len p
  · have e : lcc I len p = lc I len p.toNat := if_pos hc
    have e2 : bo I len = up I len (fin len) := if_pos hc.1
    obtain ⟨b1, b2, b3, b4⟩ := up_is I len (fin len)
    rw [e, e2]
    exact b3 _ (by have := hc.2.1; have := hc.2.2; omega)
  · exact absurd (lcc_no hc) h
theorem bo_raw {I : Nat → Int} {len : Nat} (h : cd I len) : (bo I len).2 ≤ 15 + len * rw_ I len := by
  have e2 : bo I len = up I len (fin len) := if_pos h
  obtain ⟨b1, b2, b3, b4⟩ := up_is I len (fin len)
  have h1 := b3 0 (Nat.zero_le _)
  have h2 := wy_le I len
  rw [lc_zero] at h1
  rw [e2, Nat.mul_comm]
  omega
theorem wr_mul (x y m m2 : Nat) (h : x * y = m) (h2 : 15 + m = m2) (hx : x ≤ 40) (hy : y ≤ 64) : wrap64 ((x : Int) * (y : Int)) = (m : Int) ∧ wrap64 (15 + (m : Int)) = (m2 : Int) := by
  have h3 : x * y ≤ 40 * 64 := Nat.mul_le_mul hx hy
  subst h2
  rw [show (x : Int) * (y : Int) = (m : Int) from by rw [← h]; push_cast; rfl]
  push_cast
  exact ⟨IntWalk.wrap64_in _ (by omega), IntWalk.wrap64_in _ (by omega)⟩

set_option maxRecDepth 100000 in
set_option maxHeartbeats 1000000 in
theorem costs_walk (w : World) (a : Option Addr) (len cap b off : Nat) (I : Nat → Int) (h : Is w a len cap b off I) (p : Int) :
    Calls Try.prog 5 #[.slice a len cap, .int .i64 p] w fun e w' => e = .returned (.bool true) ∧ Below w.heap.size w w' := by
  have HK := hid fun w' => known_true w'
  have H := hid h
  clear h
  by_cases h40 : 40 < len
  · have h6 : (40 : Int) < (len : Int) := by omega
    go_enter Try.func5, Try.ntmps5
    go_wp2_with fail
    refine (HK.out w).mono ?_
    rintro e w' ⟨rfl, hb⟩
    go_wp2_with fail
    go_ret
    exact ⟨rfl, hb⟩
  · have h6 : ¬ (40 : Int) < (len : Int) := by omega
    have HLEN : RowKit.Hid (len ≤ 40) := hid (by omega)
    have HB1 := hid fun (W : World) (hW : Below w.heap.size w W) => porder_any W a len cap b off I (is_below H.out hW) (by omega)
    have HB2 := hid fun (W : World) (hW : Below w.heap.size w W) => rleast_any W a len cap b off I (is_below H.out hW) (by omega)
    have HB3 := hid fun (W : World) (hW : Below w.heap.size w W) => pcost_any W a len cap b off I (is_below H.out hW) (by omega) p
    have HB4 := hid fun (W : World) (hW : Below w.heap.size w W) => rcost_any W a len cap b off I (is_below H.out hW) (by omega) p
    have HB5 := hid fun (W : World) (hW : Below w.heap.size w W) => rmay_any W a len cap b off I (is_below H.out hW)
    have HB6 := hid fun (W : World) (hW : Below w.heap.size w W) => rraw_any W a len cap b off I (is_below H.out hW)
    have HL1 := hid fun hx => bo_le (I := I) (len := len) (p := p) hx
    have HL2 := hid fun hx => bo_raw (I := I) (len := len) hx
    have HRW : RowKit.Hid (rw_ I len ≤ 64) := hid (rw_le64 I len (gr_64 I len fun i hi => H.out.ib i hi))
    obtain ⟨⟨x1, x2⟩, hx⟩ : ∃ x, bo I len = x := ⟨_, rfl⟩
    obtain ⟨n, hn⟩ : ∃ n, lcc I len p = n := ⟨_, rfl⟩
    rw [hx] at HB1 HB2 HL1 HL2
    rw [hn] at HB3 HB4 HL1
    have q1 : (n != n) = false := by simp
    have q2 : (x1 != x1) = false := by simp
    have q3 : (x2 != x2) = false := by simp
    clear hx hn h40
    go_enter Try.func5, Try.ntmps5
    go_wp2_with fail
    refine (HB1.out w (Below.refl _ _)).mono ?_
    rintro e w1 ⟨rfl, hb1⟩
    have HW1 := hid hb1
    clear hb1
    go_wp2_with fail
    refine (HB2.out w1 HW1.out).mono ?_
    rintro e w2 ⟨rfl, hb2⟩
    have HW2 := hid (HW1.out.trans (hb2.mono HW1.out.size))
    clear hb2
    go_wp2_with fail
    refine (HB3.out w2 HW2.out).mono ?_
    rintro e w3 ⟨rfl, hb3⟩
    have HW3 := hid (HW2.out.trans (hb3.mono HW2.out.size))
    clear hb3
    go_wp2_with fail
    refine (HB4.out w3 HW3.out).mono ?_
    rintro e w4 ⟨rfl, hb4⟩
    have HW4 := hid (HW3.out.trans (hb4.mono HW3.out.size))
    clear hb4
    by_cases hn0 : n = 0
    · have hn1 : ((n : Int) == 0) = true := by rw [hn0]; rfl
      clear hn0
      go_wp2_with fail
      refine (HB5.out w4 HW4.out).mono ?_
      rintro e w' ⟨c, rfl, rfl, hc⟩
      by_cases hcd : cd I len
      · obtain rfl : c = true := hc.2 hcd
        have hle0 : x2 ≤ 15 + len * rw_ I len := HL2.out hcd
        obtain ⟨m, hm⟩ : ∃ m, len * rw_ I len = m := ⟨_, rfl⟩
        obtain ⟨m2, hm2⟩ : ∃ m2, 15 + m = m2 := ⟨_, rfl⟩
        have hle2 : (x2 : Int) ≤ (m2 : Int) := by omega
        obtain ⟨hw1, hw2⟩ := wr_mul len (rw_ I len) m m2 hm hm2 HLEN.out HRW.out
        clear hc hcd hle0 hm hm2
        go_wp2_with fail
        refine (HB6.out w4 HW4.out).mono ?_
        rintro e w' ⟨rfl, rfl⟩
        go_wp2_with fail
        refine (HK.out w4).mono ?_
        rintro e w5 ⟨rfl, hb5⟩
        have HW5 := hid (HW4.out.trans (hb5.mono HW4.out.size))
        clear hb5
        go_wp2_with fail
        go_ret
        exact ⟨rfl, HW5.out⟩
      · obtain rfl : c = false := by
          cases c with
          | false => rfl
          | true => exact absurd (hc.1 rfl) hcd
        clear hc hcd
        go_wp2_with fail
        refine (HK.out w4).mono ?_
        rintro e w5 ⟨rfl, hb5⟩
        have HW5 := hid (HW4.out.trans (hb5.mono HW4.out.size))
        clear hb5
        go_wp2_with fail
        go_ret
        exact ⟨rfl, HW5.out⟩
    · have hn1 : ((n : Int) == 0) = false := beq_eq_false_iff_ne.2 (by omega)
      have hle : (x2 : Int) ≤ (n : Int) := by exact Int.ofNat_le.2 (HL1.out hn0)
      clear hn0
      go_wp2_with fail
      refine (HB5.out w4 HW4.out).mono ?_
      rintro e w' ⟨c, rfl, rfl, hc⟩
      by_cases hcd : cd I len
      · obtain rfl : c = true := hc.2 hcd
        have hle0 : x2 ≤ 15 + len * rw_ I len := HL2.out hcd
        obtain ⟨m, hm⟩ : ∃ m, len * rw_ I len = m := ⟨_, rfl⟩
        obtain ⟨m2, hm2⟩ : ∃ m2, 15 + m = m2 := ⟨_, rfl⟩
        have hle2 : (x2 : Int) ≤ (m2 : Int) := by omega
        obtain ⟨hw1, hw2⟩ := wr_mul len (rw_ I len) m m2 hm hm2 HLEN.out HRW.out
        clear hc hcd hle0 hm hm2
        go_wp2_with fail
        refine (HB6.out w4 HW4.out).mono ?_
        rintro e w' ⟨rfl, rfl⟩
        go_wp2_with fail
        refine (HK.out w4).mono ?_
        rintro e w5 ⟨rfl, hb5⟩
        have HW5 := hid (HW4.out.trans (hb5.mono HW4.out.size))
        clear hb5
        go_wp2_with fail
        go_ret
        exact ⟨rfl, HW5.out⟩
      · obtain rfl : c = false := by
          cases c with
          | false => rfl
          | true => exact absurd (hc.1 rfl) hcd
        clear hc hcd
        go_wp2_with fail
        refine (HK.out w4).mono ?_
        rintro e w5 ⟨rfl, hb5⟩
        have HW5 := hid (HW4.out.trans (hb5.mono HW4.out.size))
        clear hb5
        go_wp2_with fail
        go_ret
        exact ⟨rfl, HW5.out⟩
end Go.Proofs.Ytjimamjhakainaa.Part
