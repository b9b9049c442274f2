/- InfoPuts' walk: whether any info may be, and its bytes. No condition. -/
import Derived.Test.YthaikhnplbbdlaaNq
import Derived.Deep.RegionHeld3
import Derived.Deep.RegionWith
namespace Go.Proofs.Ythaikhnplbbdlaa.Inf
open Go.RowKit Gen Fld
open Crc hiding hid

set_option maxHeartbeats 4000000 in
theorem puts_walk (w : World) (h : If) : Calls Try.prog 3 #[iv h] w fun e w' => e = .returned (.bool true) ∧ Below w.heap.size w w' := by
  have HK := hid known_true
  have HRR := hid fun w => (show Calls Try.prog 11 #[.agg #[.int .i64 h.k, .int .i64 h.f.ch, .int .i64 h.f.bits, .int .i64 h.f.rate, .int .i64 h.bk, .int .i64 h.sh]] w _ from right_any h w)
  have HRF := hid fun w => (show Calls Try.prog 12 #[.agg #[.int .i64 h.k, .int .i64 h.f.ch, .int .i64 h.f.bits, .int .i64 h.f.rate, .int .i64 h.bk, .int .i64 h.sh]] w _ from rright_any h w)
  have hbx := Bx.new w h
  have HB0 := hid (below_new w (.cells (ivl h) 25))
  have hS : ∀ w', Below (w.alloc (.cells (ivl h) 25)).heap.size (w.alloc (.cells (ivl h) 25)) w' → (w'.cell? ⟨w.heap.size, 0, none⟩ = some (.int .i64 h.k) ∧ w'.cell? ⟨w.heap.size, 1, none⟩ = some (.int .i64 h.f.ch) ∧ w'.cell? ⟨w.heap.size, 2, none⟩ = some (.int .i64 h.f.bits) ∧ w'.cell? ⟨w.heap.size, 3, none⟩ = some (.int .i64 h.f.rate) ∧ w'.cell? ⟨w.heap.size, 4, none⟩ = some (.int .i64 h.bk) ∧ w'.cell? ⟨w.heap.size, 5, none⟩ = some (.int .i64 h.sh)) := fun w' hb => (hbx.below hb hbx.lt).c6
  have HS := hid hS
  have bd : Below (w.alloc (.cells (ivl h) 25)).heap.size (w.alloc (.cells (ivl h) 25)) (w.alloc (.cells (ivl h) 25)).drew := ⟨rfl, rfl, rfl, Nat.le_refl _, fun _ _ => rfl⟩
  have HBD := hid bd
  clear hbx hS bd
  change Calls Try.prog 3 #[.agg #[.int .i64 h.k, .int .i64 h.f.ch, .int .i64 h.f.bits, .int .i64 h.f.rate, .int .i64 h.bk, .int .i64 h.sh]] w _
  by_cases hr : Rt h
  · have HPT := hid fun (w' : World) (g : Nat) (ht : Tab w' g) => (show Calls Try.prog 9 #[.pointer (some ⟨g, 0, none⟩), .agg #[.int .i64 h.k, .int .i64 h.f.ch, .int .i64 h.f.bits, .int .i64 h.f.rate, .int .i64 h.bk, .int .i64 h.sh]] w' _ from put_ok ht h hr)
    have HPF := hid fun w => (show Calls Try.prog 14 #[.agg #[.int .i64 h.k, .int .i64 h.f.ch, .int .i64 h.f.bits, .int .i64 h.f.rate, .int .i64 h.bk, .int .i64 h.sh]] w _ from rput_ok h hr w)
    have HL := hid (iby_lt h)
    rw [decide_eq_true hr] at HRR HRF
    clear hr
    go_enter Try.func3, Try.ntmps3
    go_wp2_with fail
    change Code.wp _ _ _ _ (w.alloc (.cells (ivl h) 25))
    generalize w.alloc (.cells (ivl h) 25) = W at *
    have bd := HBD.out
    have S1 := HS.out _ bd
    go_region_held3 (fun w' => w'.cell? ⟨w.heap.size, 0, none⟩ = some (.int .i64 h.k) ∧ w'.cell? ⟨w.heap.size, 1, none⟩ = some (.int .i64 h.f.ch) ∧ w'.cell? ⟨w.heap.size, 2, none⟩ = some (.int .i64 h.f.bits) ∧ w'.cell? ⟨w.heap.size, 3, none⟩ = some (.int .i64 h.f.rate) ∧ w'.cell? ⟨w.heap.size, 4, none⟩ = some (.int .i64 h.bk) ∧ w'.cell? ⟨w.heap.size, 5, none⟩ = some (.int .i64 h.sh))
      (first | with_reducible exact S1 | with_reducible exact S2 | with_reducible exact S3 | go_keep)
      ((first
        | (go_at_call 10; (with_reducible refine (make_any _).mono ?_); rintro e w1 ⟨rfl, ht1, hb1⟩; have b1 := bd.trans hb1; have S2 := HS.out _ b1)
        | (go_at_call 9; (refine (HPT.out _ _ ht1).mono ?_); rintro e w2 ⟨ao, c, rfl, hl⟩; have b2 := b1.trans (hl.bel.mono b1.size); have S3 := HS.out _ b2)))
    have HB2 := hid b2
    have HY2 := hid hl.byts
    clear b1 b2 hb1 ht1 hl S1 S2 bd S3
    go_wp2_with fail
    have cc : ∀ p : Kp w2, (fun w' => w'.cell? ⟨w.heap.size, 0, none⟩ = some (.int .i64 h.k) ∧ w'.cell? ⟨w.heap.size, 1, none⟩ = some (.int .i64 h.f.ch) ∧ w'.cell? ⟨w.heap.size, 2, none⟩ = some (.int .i64 h.f.bits) ∧ w'.cell? ⟨w.heap.size, 3, none⟩ = some (.int .i64 h.f.rate) ∧ w'.cell? ⟨w.heap.size, 4, none⟩ = some (.int .i64 h.bk) ∧ w'.cell? ⟨w.heap.size, 5, none⟩ = some (.int .i64 h.sh)) p.w' := fun p => HS.out _ (HB2.out.trans ((below_of_fr p.h).mono HB2.out.size))
    have k0 := fun p => (cc p).1
    have k1 := fun p => (cc p).2.1
    have k2 := fun p => (cc p).2.2.1
    have k3 := fun p => (cc p).2.2.2.1
    have k4 := fun p => (cc p).2.2.2.2.1
    have k5 := fun p => (cc p).2.2.2.2.2
    clear cc
    refine wp_region_quiet_kp (by kernel_rfl) (by kernel_rfl) ?_
    repeat (first | go_big_quiet_step ((first | (go_at_call 11; exact kp_below (HRR.out _)) | (go_at_call 12; exact kp_below (HRF.out _)))) | fail)
    refine wpQuiet_nil ?_
    intro _ hw'
    obtain ⟨⟨wq, hq⟩, hw''⟩ := hw'
    subst hw''
    have bq := HB2.out.trans ((below_of_fr hq).mono HB2.out.size)
    have HBQ := hid bq
    have HYQ := hid (HY2.out.keep (below_of_fr hq))
    clear hq bq k0 k1 k2 k3 k4 k5
    obtain ⟨d0, d1, d2, d3, d4, d5⟩ := HS.out _ HBQ.out
    go_wp2_with fail
    refine (HRF.out _).mono ?_
    rintro e w3 ⟨rfl, hb3⟩
    have HB3 := hid (HBQ.out.trans (hb3.mono HBQ.out.size))
    have HY3 := hid (HYQ.out.keep hb3)
    clear hb3 d0 d1 d2 d3 d4 d5 HB2 HY2 HBQ HYQ
    go_wp2_with fail
    have bd3 : Below w3.heap.size w3 w3.drew := ⟨rfl, rfl, rfl, Nat.le_refl _, fun _ _ => rfl⟩
    have b3 := HB3.out.trans (bd3.mono HB3.out.size)
    have y3 := HY3.out.keep bd3
    have cv3 := y3.conv c
    obtain ⟨d0, d1, d2, d3, d4, d5⟩ := HS.out _ HB3.out
    go_region_with (first
      | (go_at_call 14; (with_reducible refine (HPF.out _).mono ?_); rintro e w4 ⟨a4, c4, rfl, hl4⟩; have b4 := b3.trans (hl4.bel.mono b3.size); have y4 := y3.keep hl4.bel; have cv4 := y4.conv c; have dv4 := hl4.byts.conv c4)
      | (go_at_call 13; (with_reducible refine (HK.out _).mono ?_); rintro e w5 ⟨rfl, hb5⟩; have b5 := b4.trans (hb5.mono b4.size)))
    all_goals
      have hfin := HB0.out.trans (b5.mono HB0.out.size)
      clear b3 b4 b5 y3 y4 cv3 cv4 dv4 hl4 hb5 bd3 d0 d1 d2 d3 d4 d5
      go_wp2_with fail
      go_ret
      exact ⟨rfl, hfin⟩
  · have HPT := hid fun (w' : World) (g : Nat) (_ : Tab w' g) => (show Calls Try.prog 9 #[.pointer (some ⟨g, 0, none⟩), .agg #[.int .i64 h.k, .int .i64 h.f.ch, .int .i64 h.f.bits, .int .i64 h.f.rate, .int .i64 h.bk, .int .i64 h.sh]] w' _ from put_bad (w := w') (g := g) h hr)
    rw [decide_eq_false hr] at HRR HRF
    clear hr
    go_enter Try.func3, Try.ntmps3
    go_wp2_with fail
    change Code.wp _ _ _ _ (w.alloc (.cells (ivl h) 25))
    generalize w.alloc (.cells (ivl h) 25) = W at *
    have bd := HBD.out
    have S1 := HS.out _ bd
    go_region_held3 (fun w' => w'.cell? ⟨w.heap.size, 0, none⟩ = some (.int .i64 h.k) ∧ w'.cell? ⟨w.heap.size, 1, none⟩ = some (.int .i64 h.f.ch) ∧ w'.cell? ⟨w.heap.size, 2, none⟩ = some (.int .i64 h.f.bits) ∧ w'.cell? ⟨w.heap.size, 3, none⟩ = some (.int .i64 h.f.rate) ∧ w'.cell? ⟨w.heap.size, 4, none⟩ = some (.int .i64 h.bk) ∧ w'.cell? ⟨w.heap.size, 5, none⟩ = some (.int .i64 h.sh))
      (first | with_reducible exact S1 | with_reducible exact S2 | with_reducible exact S3 | go_keep)
      ((first
        | (go_at_call 10; (with_reducible refine (make_any _).mono ?_); rintro e w1 ⟨rfl, ht1, hb1⟩; have b1 := bd.trans hb1; have S2 := HS.out _ b1)
        | (go_at_call 9; (refine (HPT.out _ _ ht1).mono ?_); rintro e w2 ⟨ao, c, rfl, hl⟩; have b2 := b1.trans (hl.bel.mono b1.size); have S3 := HS.out _ b2)))
    have HB2 := hid b2
    have HY2 := hid hl.byts
    clear b1 b2 hb1 ht1 hl S1 S2 bd S3
    go_wp2_with fail
    have cc : ∀ p : Kp w2, (fun w' => w'.cell? ⟨w.heap.size, 0, none⟩ = some (.int .i64 h.k) ∧ w'.cell? ⟨w.heap.size, 1, none⟩ = some (.int .i64 h.f.ch) ∧ w'.cell? ⟨w.heap.size, 2, none⟩ = some (.int .i64 h.f.bits) ∧ w'.cell? ⟨w.heap.size, 3, none⟩ = some (.int .i64 h.f.rate) ∧ w'.cell? ⟨w.heap.size, 4, none⟩ = some (.int .i64 h.bk) ∧ w'.cell? ⟨w.heap.size, 5, none⟩ = some (.int .i64 h.sh)) p.w' := fun p => HS.out _ (HB2.out.trans ((below_of_fr p.h).mono HB2.out.size))
    have k0 := fun p => (cc p).1
    have k1 := fun p => (cc p).2.1
    have k2 := fun p => (cc p).2.2.1
    have k3 := fun p => (cc p).2.2.2.1
    have k4 := fun p => (cc p).2.2.2.2.1
    have k5 := fun p => (cc p).2.2.2.2.2
    clear cc
    refine wp_region_quiet_kp (by kernel_rfl) (by kernel_rfl) ?_
    repeat (first | go_big_quiet_step ((first | (go_at_call 11; exact kp_below (HRR.out _)) | (go_at_call 12; exact kp_below (HRF.out _)))) | fail)
    refine wpQuiet_nil ?_
    intro _ hw'
    obtain ⟨⟨wq, hq⟩, hw''⟩ := hw'
    subst hw''
    have bq := HB2.out.trans ((below_of_fr hq).mono HB2.out.size)
    have HBQ := hid bq
    have HYQ := hid (HY2.out.keep (below_of_fr hq))
    clear hq bq k0 k1 k2 k3 k4 k5
    obtain ⟨d0, d1, d2, d3, d4, d5⟩ := HS.out _ HBQ.out
    go_wp2_with fail
    refine (HRF.out _).mono ?_
    rintro e w3 ⟨rfl, hb3⟩
    have HB3 := hid (HBQ.out.trans (hb3.mono HBQ.out.size))
    have HY3 := hid (HYQ.out.keep hb3)
    clear hb3 d0 d1 d2 d3 d4 d5 HB2 HY2 HBQ HYQ
    go_wp2_with fail
    refine (HK.out _).mono ?_
    rintro e w4 ⟨rfl, hb4⟩
    have hfin := HB0.out.trans ((HB3.out.trans (hb4.mono HB3.out.size)).mono HB0.out.size)
    clear hb4
    go_wp2_with fail
    go_ret
    exact ⟨rfl, hfin⟩
end Go.Proofs.Ythaikhnplbbdlaa.Inf
