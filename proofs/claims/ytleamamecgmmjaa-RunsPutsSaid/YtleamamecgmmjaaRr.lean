/- RunsPuts' walk. Conditions: those of the memory's own form alone. -/
import Derived.Test.YtleamamecgmmjaaRq
namespace Go.Proofs.Ytleamamecgmmjaa.Runs
open Go.RowKit Bit Rice

set_option maxHeartbeats 3200000 in
set_option maxRecDepth 100000 in
theorem puts_walk (w : World) (a : Option Addr) (len cap b off : Nat) (I : Nat → Int) (h : Is w a len cap b off I) (k : Int) :
    Calls Try.prog 5 #[.slice a len cap, .int .i64 k] w fun e w' => e = .returned (.bool true) ∧ Below w.heap.size w w' := by
  by_cases h2 : 200 < len
  · have h1 : (200 : Int) < (len : Int) := by omega
    go_enter Try.func5, Try.ntmps5
    go_wp2_with fail
    refine (known_true _).mono ?_
    rintro e w' ⟨rfl, hb⟩
    go_wp2_with fail
    go_ret
    exact ⟨rfl, hb⟩
  · have h1 : ¬ (200 : Int) < (len : Int) := by omega
    have H := hid h
    have hw0 := new_writer' w 26 _ (Nat.le_refl _)
    have hb0 : Below w.heap.size w (w.alloc (.cells #[.slice none 0 0, .int .u64 0, .int .i64 0] 26)) := (Below.refl _ _).alloc (Nat.le_refl _) _
    have HB0 := hid hb0
    have HLT := hid h.lt
    clear h hb0
    go_enter Try.func5, Try.ntmps5
    go_wp2_with fail
    generalize hW : (w.alloc (.cells #[.slice none 0 0, .int .u64 0, .int .i64 0] 26)) = W at *
    clear hW
    by_cases hk : okK k
    · have hd0 := decide_eq_true hk
      by_cases hal : allZ I len
      · obtain ⟨kk, rfl⟩ := Int.eq_ofNat_of_zero_le hk.1
        have hkk : kk ≤ 30 := by have := hk.2; omega
        refine Calls.mono (rp_ok w.heap.size w.heap.size 0 a len cap b off I kk hkk none 0 0 0 W hw0 (H.out.below HB0.out H.out.lt) (fun h0 => ⟨by have := HLT.out h0; omega, by simp [blk]⟩) hal (by decide) (by omega)) ?_
        rintro e w1 ⟨rfl, ao1, cap1, hw1, hp1⟩
        have hb1 : Below w.heap.size w w1 := HB0.out.trans (pushed_below hp1 (Nat.le_refl _) (fun g hg => by simp [blk] at hg) HB0.out.size)
        have HB1 := hid hb1
        clear hw0 hp1 HB0 hb1
        go_wp2_with fail
        refine (rparam _ _).mono ?_
        rintro e w' ⟨rfl, rfl⟩
        rw [hd0]
        go_wp2_with fail
        refine Calls.mono (rcoded_any w1 a len cap b off I (H.out.below HB1.out H.out.lt)) ?_
        rintro e w' ⟨x, rfl, rfl, hx⟩
        obtain rfl : x = true := hx.2 hal
        clear hx
        go_wp2_with fail
        refine Calls.mono (rrcode_any w1 a len cap b off I (H.out.below HB1.out H.out.lt) (by omega) kk hkk hal) ?_
        rintro e w2 ⟨lo, lcap, rfl, hnw⟩
        have hlst : Lst w2 w.heap.size lo lcap (cfin I kk (0, 0) len).1 (cfin I kk (0, 0) len).2 := Lst.base_le hnw.lst HB1.out.size
        have hs : Dw w w2 (.slice lo (cfin I kk (0, 0) len).2 lcap) (cfin I kk (0, 0) len) (cfin I kk (0, 0) len) := ⟨ao1, cap1, lo, lcap, rfl, WrN.upto hw1 hnw.below, hlst, HB1.out.trans (hnw.below.mono HB1.out.size)⟩
        have hcl := (cfin_le I kk (0, 0) len).2
        simp only at hcl
        clear hw1 HB1 hnw hlst hal hk
        generalize cfin I kk (0, 0) len = cj at *
        go_wp2_with fail
        have hs6 := hs.drew
        clear hs
        go_region_with (first
          | (go_at_call 13; (with_reducible refine (dlen ‹Dw w _ _ _ _› (by first | omega | (simp only []; omega))).mono ?_); rintro e w5 ⟨rfl, hs5⟩)
          | (go_at_call 14; (with_reducible refine (dbytes ‹Dw w _ _ _ _› (by first | omega | (simp only []; omega))).mono ?_); rintro e w9 ⟨rfl, hs9, hr9, hb9⟩; have hc9 := hr9.conv)
          | (go_at_call 15; (with_reducible refine (dbytes_l ‹Dw w _ _ _ _› (by first | omega | (simp only []; omega))).mono ?_); rintro e w8 ⟨g8, rfl, hs8, hr8, hb8⟩; have hc8 := hr8.conv; have hc7 := (hr9.upto hb8).conv)
          | (go_at_call 16; (with_reducible refine (dknown ‹Dw w _ _ _ _›).mono ?_); rintro e w2 ⟨rfl, hs2⟩))
        all_goals
          have hfin := hs2.below
          clear hc9 hc8 hc7 hr9 hr8 hb9 hb8 hs9 hs8 hs6 hs5 hs2
          go_wp2_with fail
          go_ret
          exact ⟨rfl, hfin⟩
      · refine Calls.mono (rp_range _ a len cap b off I k hk W (H.out.below HB0.out H.out.lt) (by omega) hal) ?_
        rintro e w1 ⟨rfl, b1⟩
        have hw1 := WrN.upto hw0 b1
        have HB1 := hid (HB0.out.trans (b1.mono HB0.out.size))
        clear hw0 b1 HB0
        go_wp2_with fail
        refine (rparam _ _).mono ?_
        rintro e w' ⟨rfl, rfl⟩
        rw [hd0]
        go_wp2_with fail
        refine Calls.mono (rcoded_any w1 a len cap b off I (H.out.below HB1.out H.out.lt)) ?_
        rintro e w' ⟨x, rfl, rfl, hx⟩
        obtain rfl : x = false := by
          cases x with
          | false => rfl
          | true => exact absurd (hx.1 rfl) hal
        clear hx
        go_wp2_with fail
        refine (len_any hw1 (by decide)).mono ?_
        rintro e w2 ⟨rfl, nq, rfl⟩
        have HB2 : Hid (Below w.heap.size w (w1.drewN nq)) := hid (HB1.out.trans ⟨rfl, rfl, rfl, Nat.le_refl _, fun _ _ => rfl⟩)
        clear hw1 HB1
        generalize w1.drewN nq = w2 at *
        go_wp2_with fail
        refine (known_true _).mono ?_
        rintro e w6 ⟨rfl, hb6⟩
        have hfin := HB2.out.trans (hb6.mono HB2.out.size)
        clear hb6
        go_wp2_with fail
        go_ret
        exact ⟨rfl, hfin⟩
    · have hd0 := decide_eq_false hk
      refine Calls.mono (rp_arg _ _ k hk W) ?_
      rintro e w1 ⟨rfl, b1⟩
      have hw1 := WrN.upto hw0 b1
      have HB1 := hid (HB0.out.trans (b1.mono HB0.out.size))
      clear hw0 b1 HB0
      go_wp2_with fail
      refine (rparam _ _).mono ?_
      rintro e w' ⟨rfl, rfl⟩
      rw [hd0]
      go_wp2_with fail
      refine (len_any hw1 (by decide)).mono ?_
      rintro e w2 ⟨rfl, nq, rfl⟩
      have HB2 : Hid (Below w.heap.size w (w1.drewN nq)) := hid (HB1.out.trans ⟨rfl, rfl, rfl, Nat.le_refl _, fun _ _ => rfl⟩)
      clear hw1 HB1
      generalize w1.drewN nq = w2 at *
      go_wp2_with fail
      refine (known_true _).mono ?_
      rintro e w6 ⟨rfl, hb6⟩
      have hfin := HB2.out.trans (hb6.mono HB2.out.size)
      clear hb6
      go_wp2_with fail
      go_ret
      exact ⟨rfl, hfin⟩
end Go.Proofs.Ytleamamecgmmjaa.Runs
