/- InfoMates' walk: whether any two files may belong together. No condition. -/
import Derived.Test.YthaikhnplbbdlaaNq
import Derived.Test.YthaikhnplbbdlaaNr
namespace Go.Proofs.Ythaikhnplbbdlaa.Inf
open Go.RowKit Gen Fld
open Crc hiding hid

def corr (a : If) : If := ⟨2, a.f, a.bk, a.sh⟩
theorem mt_corr (a : If) : decide (Mt a (corr a)) = (a.k == 1) := by
  rw [Bool.eq_iff_iff, decide_eq_true_eq, beq_iff_eq]
  exact ⟨fun h => h.1, fun h => ⟨h, rfl, rfl, rfl, rfl, rfl, rfl⟩⟩
set_option maxHeartbeats 4000000 in
theorem mates_walk (w : World) (a b : If) : Calls Try.prog 6 #[iv a, iv b] w fun e w' => e = .returned (.bool true) ∧ Below w.heap.size w w' := by
  have HK := hid known_true
  have HMA := hid fun w => (show Calls Try.prog 17 #[.agg #[.int .i64 a.k, .int .i64 a.f.ch, .int .i64 a.f.bits, .int .i64 a.f.rate, .int .i64 a.bk, .int .i64 a.sh], .agg #[.int .i64 b.k, .int .i64 b.f.ch, .int .i64 b.f.bits, .int .i64 b.f.rate, .int .i64 b.bk, .int .i64 b.sh]] w _ from mates_any a b w)
  have HMR := hid fun w => (show Calls Try.prog 18 #[.agg #[.int .i64 a.k, .int .i64 a.f.ch, .int .i64 a.f.bits, .int .i64 a.f.rate, .int .i64 a.bk, .int .i64 a.sh], .agg #[.int .i64 b.k, .int .i64 b.f.ch, .int .i64 b.f.bits, .int .i64 b.f.rate, .int .i64 b.bk, .int .i64 b.sh]] w _ from rmates_any a b w)
  have HMC := hid fun w => (show Calls Try.prog 17 #[.agg #[.int .i64 a.k, .int .i64 a.f.ch, .int .i64 a.f.bits, .int .i64 a.f.rate, .int .i64 a.bk, .int .i64 a.sh], .agg #[.int .i64 2, .int .i64 a.f.ch, .int .i64 a.f.bits, .int .i64 a.f.rate, .int .i64 a.bk, .int .i64 a.sh]] w _ from mates_any a (corr a) w)
  rw [mt_corr] at HMC
  have x1 := Bx.new w a
  have b1 := below_new w (.cells (ivl a) 25)
  have x2 := Bx.new (w.alloc (.cells (ivl a) 25)) b
  have b2 := below_new (w.alloc (.cells (ivl a) 25)) (.cells (ivl b) 25)
  have x3 := Bx.new ((w.alloc (.cells (ivl a) 25)).alloc (.cells (ivl b) 25)) (corr a)
  have b3 := below_new ((w.alloc (.cells (ivl a) 25)).alloc (.cells (ivl b) 25)) (.cells (ivl (corr a)) 25)
  have y1 := (x1.below b2 x1.lt).below b3 (x1.below b2 x1.lt).lt
  have y2 := x2.below b3 x2.lt
  have HB3 := hid ((b1.trans (b2.mono b1.size)).trans (b3.mono (b1.trans (b2.mono b1.size)).size))
  rw [show (w.alloc (.cells (ivl a) 25)).heap.size = w.heap.size + 1 from Deep.nblk_alloc _ _] at y2
  rw [show ((w.alloc (.cells (ivl a) 25)).alloc (.cells (ivl b) 25)).heap.size = w.heap.size + 1 + 1 from by rw [Deep.nblk_alloc, Deep.nblk_alloc]] at x3
  have HY1 := hid y1; have HY2 := hid y2; have HX3 := hid x3
  clear x1 x2 x3 y1 y2 b1 b2 b3
  generalize decide (Mt a b) = r at *
  change Calls Try.prog 6 #[.agg #[.int .i64 a.k, .int .i64 a.f.ch, .int .i64 a.f.bits, .int .i64 a.f.rate, .int .i64 a.bk, .int .i64 a.sh], .agg #[.int .i64 b.k, .int .i64 b.f.ch, .int .i64 b.f.bits, .int .i64 b.f.rate, .int .i64 b.bk, .int .i64 b.sh]] w _
  go_enter Try.func6, Try.ntmps6
  go_wp2_with fail
  change Code.wp _ _ _ _ (((w.alloc (.cells (ivl a) 25)).alloc (.cells (ivl b) 25)).alloc (.cells (ivl (corr a)) 25))
  generalize ((w.alloc (.cells (ivl a) 25)).alloc (.cells (ivl b) 25)).alloc (.cells (ivl (corr a)) 25) = W at *
  have y0 := fun p : Kp W => (HY1.out.below (below_of_fr p.h) HY1.out.lt).c0
  have y1 := fun p : Kp W => (HY1.out.below (below_of_fr p.h) HY1.out.lt).c1
  have y2 := fun p : Kp W => (HY1.out.below (below_of_fr p.h) HY1.out.lt).c2
  have y3 := fun p : Kp W => (HY1.out.below (below_of_fr p.h) HY1.out.lt).c3
  have y4 := fun p : Kp W => (HY1.out.below (below_of_fr p.h) HY1.out.lt).c4
  have y5 := fun p : Kp W => (HY1.out.below (below_of_fr p.h) HY1.out.lt).c5
  have z0 := fun p : Kp W => (HY2.out.below (below_of_fr p.h) HY2.out.lt).c0
  have z1 := fun p : Kp W => (HY2.out.below (below_of_fr p.h) HY2.out.lt).c1
  have z2 := fun p : Kp W => (HY2.out.below (below_of_fr p.h) HY2.out.lt).c2
  have z3 := fun p : Kp W => (HY2.out.below (below_of_fr p.h) HY2.out.lt).c3
  have z4 := fun p : Kp W => (HY2.out.below (below_of_fr p.h) HY2.out.lt).c4
  have z5 := fun p : Kp W => (HY2.out.below (below_of_fr p.h) HY2.out.lt).c5
  have x0 : ∀ p : Kp W, p.w'.cell? ⟨w.heap.size + 1 + 1, 0, none⟩ = some (.int .i64 2) := fun p => (HX3.out.below (below_of_fr p.h) HX3.out.lt).c0
  have x1 : ∀ p : Kp W, p.w'.cell? ⟨w.heap.size + 1 + 1, 1, none⟩ = some (.int .i64 a.f.ch) := fun p => (HX3.out.below (below_of_fr p.h) HX3.out.lt).c1
  have x2 : ∀ p : Kp W, p.w'.cell? ⟨w.heap.size + 1 + 1, 2, none⟩ = some (.int .i64 a.f.bits) := fun p => (HX3.out.below (below_of_fr p.h) HX3.out.lt).c2
  have x3 : ∀ p : Kp W, p.w'.cell? ⟨w.heap.size + 1 + 1, 3, none⟩ = some (.int .i64 a.f.rate) := fun p => (HX3.out.below (below_of_fr p.h) HX3.out.lt).c3
  have x4 : ∀ p : Kp W, p.w'.cell? ⟨w.heap.size + 1 + 1, 4, none⟩ = some (.int .i64 a.bk) := fun p => (HX3.out.below (below_of_fr p.h) HX3.out.lt).c4
  have x5 : ∀ p : Kp W, p.w'.cell? ⟨w.heap.size + 1 + 1, 5, none⟩ = some (.int .i64 a.sh) := fun p => (HX3.out.below (below_of_fr p.h) HX3.out.lt).c5
  have hrr : (r == r) = true := beq_self_eq_true r
  have hkk : ((a.k == 1) == (a.k == 1)) = true := beq_self_eq_true _
  refine wp_region_quiet_kp (by kernel_rfl) (by kernel_rfl) ?_
  repeat (first | go_big_quiet_step ((first | (go_at_call 17; with_reducible exact kp_below (HMA.out _)) | (go_at_call 18; with_reducible exact kp_below (HMR.out _)) | (go_at_call 17; with_reducible exact kp_below (HMC.out _)) | (go_at_call 13; with_reducible exact kp_below (HK.out _)))) | fail)
  refine wpQuiet_nil ?_
  intro _ hw'
  obtain ⟨⟨wq, hq⟩, hw''⟩ := hw'
  subst hw''
  have hfin := HB3.out.trans ((below_of_fr hq).mono HB3.out.size)
  clear hq y0 y1 y2 y3 y4 y5 z0 z1 z2 z3 z4 z5 x0 x1 x2 x3 x4 x5
  go_wp2_with fail
  go_ret
  exact ⟨rfl, hfin⟩
end Go.Proofs.Ythaikhnplbbdlaa.Inf
