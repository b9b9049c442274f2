/- PcmChecks, walked: true, whatever the sound is. Conditions: sound lies in memory as its lists. -/
import Derived.Test.YtbegkdedaifnhaaSm
namespace Go.Proofs.Ytbegkdedaifnhaa.Pcm
open Go.RowKit Gen

set_option maxHeartbeats 3200000 in
set_option maxRecDepth 100000 in
theorem checks_walk (w : World) (d : Dat) (h : Snd w d) : Calls Try.prog 3 #[d.v] w fun e w' => e = .returned (.bool true) ∧ Below w.heap.size w w' := by
  have HB0 := hid (below_new w (.cells #[.int .i64 d.f.ch, .int .i64 d.f.bits, .int .i64 d.f.rate, .slice d.a d.n d.cap] 26))
  have HX0 := hid (bx_new w d)
  have H := hid h
  have HSM := hid fun w' (hb : Below w.heap.size w w') => small_any w' d (h.below hb) 400
  have HCK := hid fun w' (hb : Below w.heap.size w w') => check_any w' d (h.below hb)
  have HRK := hid fun w' (hb : Below w.heap.size w w') => rcheck_any w' d (h.below hb)
  have HCT := hid fun w' (hb : Below w.heap.size w w') => count_any w' d (h.below hb)
  have HRC := hid fun w' (hb : Below w.heap.size w w') => rcount_any w' d (h.below hb)
  have HRT := hid fun w' => right_any d.f w'
  have HRR := hid fun w' => rright_any d.f w'
  clear h
  unfold Dat.v at HSM HCK HRK HCT HRC
  unfold Fmt.v at HRT HRR
  generalize hchk : d.chk = chk at *
  generalize hcnt : (d.cnt : Int) = cnt at *
  generalize hrt : decide d.f.right = rt at *
  show Calls Try.prog 3 #[.agg #[.int .i64 d.f.ch, .int .i64 d.f.bits, .int .i64 d.f.rate, .slice d.a d.n d.cap]] w _
  go_enter Try.func3, Try.ntmps3
  go_wp2_with fail
  refine (HSM.out _ HB0.out).mono ?_
  rintro e w1 ⟨b, rfl, _, hb1⟩
  have HB1 := hid (HB0.out.trans (hb1.mono HB0.out.size))
  have HX1 := hid (HX0.out.below hb1)
  clear hb1
  cases b with
  | false =>
    go_wp2_with fail
    refine (known_true w1).mono ?_
    rintro e w2 ⟨rfl, hb2⟩
    have HB2 := hid (HB1.out.trans (hb2.mono HB1.out.size))
    clear hb2
    go_wp2_with fail
    go_ret
    exact ⟨rfl, HB2.out⟩
  | true =>
    go_wp2_with fail
    have c0 : ∀ p : Kp w1, p.w'.cell? ⟨w.heap.size, 0, none⟩ = some (.int .i64 d.f.ch) := fun p => (HX1.out.fr p.h).c0
    have c1 : ∀ p : Kp w1, p.w'.cell? ⟨w.heap.size, 1, none⟩ = some (.int .i64 d.f.bits) := fun p => (HX1.out.fr p.h).c1
    have c2 : ∀ p : Kp w1, p.w'.cell? ⟨w.heap.size, 2, none⟩ = some (.int .i64 d.f.rate) := fun p => (HX1.out.fr p.h).c2
    have c3 : ∀ p : Kp w1, p.w'.cell? ⟨w.heap.size, 3, none⟩ = some (.slice d.a d.n d.cap) := fun p => (HX1.out.fr p.h).c3
    have HCKp := hid fun p : Kp w1 => HCK.out p.w' (below_fr HB1.out p.h)
    have HRKp := hid fun p : Kp w1 => HRK.out p.w' (below_fr HB1.out p.h)
    have HCTp := hid fun p : Kp w1 => HCT.out p.w' (below_fr HB1.out p.h)
    have HRCp := hid fun p : Kp w1 => HRC.out p.w' (below_fr HB1.out p.h)
    refine wp_region_quiet_kp (by kernel_rfl) (by kernel_rfl) ?_
    repeat (first | go_big_quiet_step ((first | (go_at_call 10; exact kp_below (HRT.out _)) | (go_at_call 11; exact kp_below (HRR.out _)) | (go_at_call 12; exact kp_below (HCKp.out _)) | (go_at_call 13; exact kp_below (HRKp.out _)) | (go_at_call 14; exact kp_below (HCTp.out _)) | (go_at_call 15; exact kp_below (HRCp.out _)) | (go_at_call 9; exact kp_below (known_true _)))) | fail)
    refine wpQuiet_nil ?_
    intro _ hw'
    obtain ⟨⟨wq, hq⟩, hw''⟩ := hw'
    subst hw''
    have HBQ := hid (below_fr HB1.out hq)
    clear hq c0 c1 c2 c3
    go_wp2_with fail
    go_ret
    exact ⟨rfl, HBQ.out⟩
end Go.Proofs.Ytbegkdedaifnhaa.Pcm
