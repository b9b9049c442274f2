/- Join of pcm. No condition. -/
import Derived.Test.YtfidnklppbdebaaJc
namespace Go.Proofs.Ytfidnklppbdebaa.Pcm
open Go.RowKit Gen

def jcode (a b : Dat) : Int := if both a b ≠ 0 then both a b else if 4294967295 < a.cnt + b.cnt then 22 else 0
theorem jcode_1 {a b : Dat} (h : ¬ both a b = 0) : jcode a b = both a b := if_pos h
theorem jcode_2 {a b : Dat} (h : both a b = 0) (h2 : 4294967295 < a.cnt + b.cnt) : jcode a b = 22 := by unfold jcode; rw [if_neg (fun x => x h), if_pos h2]
theorem jcode_3 {a b : Dat} (h : both a b = 0) (h2 : ¬ 4294967295 < a.cnt + b.cnt) : jcode a b = 0 := by unfold jcode; rw [if_neg (fun x => x h), if_neg h2]
/-- What one sound behind another one is. -/
def Joined (a b d : Dat) : Prop := d.f = a.f ∧ d.n = a.n ∧ ∀ i, i < d.n → d.ln i = a.ln i + b.ln i ∧ d.X i = cat (a.X i) (b.X i) (a.ln i)
/-- What stands while Join goes on. -/
structure Jn (w wr : World) (a b : Dat) : Prop where
  x : Bx wr w.heap.size a
  y : Bx wr (w.heap.size + 1) b
  r : ∀ i v, (#[.int .i64 0, .int .i64 0, .int .i64 0, .slice none 0 0] : Array Value)[i]? = some v → wr.cell? ⟨w.heap.size + 1 + 1, i, none⟩ = some v
  z : ∀ i, wr.frozen? ⟨w.heap.size + 1 + 1, i, none⟩ = false
  below : Below w.heap.size w wr
  lt : w.heap.size + 3 ≤ wr.heap.size
theorem Jn.upto {w w1 w2 : World} {a b : Dat} (h : Jn w w1 a b) (hb : Below w1.heap.size w1 w2) : Jn w w2 a b := by
  have hlt := h.lt
  exact ⟨h.x.below hb, h.y.below hb, fun i v hv => (hb.cell (p := ⟨w.heap.size + 1 + 1, i, none⟩) (show w.heap.size + 1 + 1 < _ by omega)).trans (h.r i v hv),
    fun i => (hb.frozen (p := ⟨w.heap.size + 1 + 1, i, none⟩) (show w.heap.size + 1 + 1 < _ by omega)).trans (h.z i), h.below.trans (hb.mono h.below.size), Nat.le_trans hlt hb.size⟩
theorem jn_new (w : World) (a b : Dat) : Jn w (((w.alloc (.cells #[.int .i64 a.f.ch, .int .i64 a.f.bits, .int .i64 a.f.rate, .slice a.a a.n a.cap] 26)).alloc (.cells #[.int .i64 b.f.ch, .int .i64 b.f.bits, .int .i64 b.f.rate, .slice b.a b.n b.cap] 26)).alloc (.cells #[.int .i64 0, .int .i64 0, .int .i64 0, .slice none 0 0] 26)) a b := by
  obtain ⟨hb0, hx0, hy0⟩ := boxes w a b
  generalize hW : ((w.alloc (.cells #[.int .i64 a.f.ch, .int .i64 a.f.bits, .int .i64 a.f.rate, .slice a.a a.n a.cap] 26)).alloc (.cells #[.int .i64 b.f.ch, .int .i64 b.f.bits, .int .i64 b.f.rate, .slice b.a b.n b.cap] 26)) = W at *
  have hz : W.heap.size = w.heap.size + 1 + 1 := by rw [← hW]; simp
  have hbn := below_new W (.cells #[.int .i64 0, .int .i64 0, .int .i64 0, .slice none 0 0] 26)
  refine ⟨hx0.below hbn, hy0.below hbn, fun i v hv => ?_, fun i => fz_new _ _ _ _ _ hz.symm, hb0.trans (hbn.mono hb0.size), by simp [hz]⟩
  rw [World.cell?_alloc_at _ _ _ _ hz.symm]; exact hv
theorem Jn.four {w wr : World} {a b : Dat} (h : Jn w wr a b) : ∀ i, i < 4 → ∃ v, wr.cell? ⟨w.heap.size + 1 + 1, i, none⟩ = some v := fun i hi => by
  match i, hi with
  | 0, _ => exact ⟨_, h.r 0 _ rfl⟩
  | 1, _ => exact ⟨_, h.r 1 _ rfl⟩
  | 2, _ => exact ⟨_, h.r 2 _ rfl⟩
  | 3, _ => exact ⟨_, h.r 3 _ rfl⟩

set_option maxHeartbeats 3200000 in
set_option maxRecDepth 100000 in
theorem join_any (w : World) (a b : Dat) (ha : Snd w a) (hb : Snd w b) : Calls Try.prog 19 #[a.v, b.v] w (SndPost w (jcode a b) (Joined a b)) := by
  have HBO := hid fun w' (hw : Below w.heap.size w w') => both_any w' a b (ha.below hw) (hb.below hw)
  have HCA := hid fun w' (hw : Below w.heap.size w w') => count_any w' a (ha.below hw)
  have HCB := hid fun w' (hw : Below w.heap.size w w') => count_any w' b (hb.below hw)
  have HJ0 := hid (jn_new w a b)
  have HA := hid ha
  have HB := hid hb
  clear ha hb
  unfold Dat.v at HBO HCA HCB
  show Calls Try.prog 19 #[.agg #[.int .i64 a.f.ch, .int .i64 a.f.bits, .int .i64 a.f.rate, .slice a.a a.n a.cap], .agg #[.int .i64 b.f.ch, .int .i64 b.f.bits, .int .i64 b.f.rate, .slice b.a b.n b.cap]] w _
  go_enter Try.func19, Try.ntmps19
  go_wp2_with fail
  refine (HBO.out _ HJ0.out.below).mono ?_
  rintro e w1 ⟨rfl, hb1⟩
  have HJ1 := hid (HJ0.out.upto hb1)
  clear hb1
  have r0 := HJ1.out.r 0 _ rfl
  have r1 := HJ1.out.r 1 _ rfl
  have r2 := HJ1.out.r 2 _ rfl
  have r3 := HJ1.out.r 3 _ rfl
  have z0 := HJ1.out.z 0
  have z1 := HJ1.out.z 1
  have z2 := HJ1.out.z 2
  have z3 := HJ1.out.z 3
  by_cases hbo : both a b = 0
  · have e0 : (both a b != 0) = false := by rw [hbo]; rfl
    obtain ⟨ok1, ok2, hff⟩ := both_ok hbo
    have HO1 := hid (chk_ok ok1)
    have HO2 := hid (chk_ok ok2)
    have HNN : Hid (a.n = b.n) := hid (by have h1 := HO1.out.2.1; have h2 := HO2.out.2.1; rw [hff] at h1; omega)
    have HBZ := hid hbo
    clear hbo hff ok1 ok2 r0 r1 r2 r3 z0 z1 z2 z3
    go_wp2_with fail
    have c0 : ∀ p : Kp w1, p.w'.cell? ⟨w.heap.size, 0, none⟩ = some (.int .i64 a.f.ch) := fun p => (HJ1.out.x.fr p.h).c0
    have c1 : ∀ p : Kp w1, p.w'.cell? ⟨w.heap.size, 1, none⟩ = some (.int .i64 a.f.bits) := fun p => (HJ1.out.x.fr p.h).c1
    have c2 : ∀ p : Kp w1, p.w'.cell? ⟨w.heap.size, 2, none⟩ = some (.int .i64 a.f.rate) := fun p => (HJ1.out.x.fr p.h).c2
    have c3 : ∀ p : Kp w1, p.w'.cell? ⟨w.heap.size, 3, none⟩ = some (.slice a.a a.n a.cap) := fun p => (HJ1.out.x.fr p.h).c3
    have d0 : ∀ p : Kp w1, p.w'.cell? ⟨w.heap.size + 1, 0, none⟩ = some (.int .i64 b.f.ch) := fun p => (HJ1.out.y.fr p.h).c0
    have d1 : ∀ p : Kp w1, p.w'.cell? ⟨w.heap.size + 1, 1, none⟩ = some (.int .i64 b.f.bits) := fun p => (HJ1.out.y.fr p.h).c1
    have d2 : ∀ p : Kp w1, p.w'.cell? ⟨w.heap.size + 1, 2, none⟩ = some (.int .i64 b.f.rate) := fun p => (HJ1.out.y.fr p.h).c2
    have d3 : ∀ p : Kp w1, p.w'.cell? ⟨w.heap.size + 1, 3, none⟩ = some (.slice b.a b.n b.cap) := fun p => (HJ1.out.y.fr p.h).c3
    have HCAp := hid fun p : Kp w1 => HCA.out p.w' (below_fr HJ1.out.below p.h)
    have HCBp := hid fun p : Kp w1 => HCB.out p.w' (below_fr HJ1.out.below p.h)
    have HCL1 := HO1.out.2.2.2.2.1
    have HCL2 := HO2.out.2.2.2.2.1
    refine wp_region_quiet_kp (by kernel_rfl) (by kernel_rfl) ?_
    repeat (first | go_big_quiet_step ((first | (go_at_call 14; with_reducible exact kp_below (HCAp.out _)) | (go_at_call 14; with_reducible exact kp_below (HCBp.out _)))) | fail)
    refine wpQuiet_nil ?_
    intro wz hw'
    obtain ⟨⟨wq, hq⟩, hw''⟩ := hw'
    subst hw''
    have HJ2 := hid (HJ1.out.upto (Below.of_fr hq))
    clear hq c0 c1 c2 c3 d0 d1 d2 d3 e0
    have r0 := HJ2.out.r 0 _ rfl
    have r1 := HJ2.out.r 1 _ rfl
    have r2 := HJ2.out.r 2 _ rfl
    have r3 := HJ2.out.r 3 _ rfl
    have z0 := HJ2.out.z 0
    have z1 := HJ2.out.z 1
    have z2 := HJ2.out.z 2
    have z3 := HJ2.out.z 3
    by_cases hbig : 4294967295 < a.cnt + b.cnt
    · have g1 : (4294967295 : Int) < (a.cnt : Int) + (b.cnt : Int) := by omega
      have HE := hid (jcode_2 HBZ.out hbig)
      have hfs := four_set wz (w.heap.size + 1 + 1) (.int .i64 0) (.int .i64 0) (.int .i64 0) (.slice none 0 0) HJ2.out.four
      obtain ⟨y0, y1, y2, y3, _⟩ := hfs
      clear hbig HCL1 HCL2
      go_wp2_with fail
      refine bodyPost_ret (v := .tuple #[.agg #[.int .i64 0, .int .i64 0, .int .i64 0, .slice none 0 0], .int .i64 22]) ?_ rfl ?_
      · rw [results_cell_tmp (p := 4) (u := 5) (ty := 26) (by kernel_rfl)]
        go_simp
      · exact ⟨Dat.nil, by rw [HE.out]; rfl, nil_snd _, set4_below HJ2.out.below (by omega) _ _ _ _, fun h => absurd h (by rw [HE.out]; decide), fun _ => rfl⟩
    · have g1 : ¬ (4294967295 : Int) < (a.cnt : Int) + (b.cnt : Int) := by omega
      have HE := hid (jcode_3 HBZ.out hbig)
      have HLA : Hid (∀ i, i < a.n → a.ln i ≤ 4294967296 ∧ b.ln i ≤ 4294967296) := hid fun i hi => by
        have h1 := HO1.out.2.2.2.2.2.1 i hi
        have h2 := HO2.out.2.2.2.2.2.1 i (by have := HNN.out; omega)
        omega
      have HBU := hid (build_any 41 #[.pointer (some ⟨w.heap.size, 0, none⟩), .pointer (some ⟨w.heap.size + 1, 0, none⟩)] (fun args w => Try.call41 args w) wz a.f a.n HO1.out.2.1.symm HO1.out.2.2.1 HO1.out.2.2.2.1 (fun i => a.ln i + b.ln i) (fun i => cat (a.X i) (b.X i) (a.ln i))
        (fun i hi w' hw' => join1_any w' i w.heap.size (w.heap.size + 1) a b (HJ2.out.x.below hw') (HJ2.out.y.below hw') (HA.out.below (HJ2.out.below.trans (hw'.mono HJ2.out.below.size))) (HB.out.below (HJ2.out.below.trans (hw'.mono HJ2.out.below.size))) hi (by have := HNN.out; omega) (HLA.out i hi).1 (HLA.out i hi).2))
      unfold Fmt.v at HBU
      have k0 := HJ2.out.x.c0
      have k1 := HJ2.out.x.c1
      have k2 := HJ2.out.x.c2
      clear hbig HCL1 HCL2
      go_wp2_with fail
      refine HBU.out.mono ?_
      rintro e w3 ⟨d, rfl, hdf, hdn, hdl, hdx, hds, hdw, hb3⟩
      have HJ3 := hid (HJ2.out.upto hb3)
      have HD := hid hds
      have HW := hid hdw
      have HOK : Hid (Joined a b d) := hid ⟨hdf, hdn, fun i hi => ⟨hdl i (by omega), hdx i (by omega)⟩⟩
      have hfs := four_set w3 (w.heap.size + 1 + 1) (.int .i64 d.f.ch) (.int .i64 d.f.bits) (.int .i64 d.f.rate) (.slice d.a d.n d.cap) HJ3.out.four
      obtain ⟨y0, y1, y2, y3, _⟩ := hfs
      clear r0 r1 r2 r3 z0 z1 z2 z3 k0 k1 k2 hb3 hds hdw hdf hdn hdl hdx
      have r0 := HJ3.out.r 0 _ rfl
      have r1 := HJ3.out.r 1 _ rfl
      have r2 := HJ3.out.r 2 _ rfl
      have r3 := HJ3.out.r 3 _ rfl
      have z0 := HJ3.out.z 0
      have z1 := HJ3.out.z 1
      have z2 := HJ3.out.z 2
      have z3 := HJ3.out.z 3
      unfold Dat.v
      go_wp2_with fail
      refine bodyPost_ret (v := .tuple #[.agg #[.int .i64 d.f.ch, .int .i64 d.f.bits, .int .i64 d.f.rate, .slice d.a d.n d.cap], .int .i64 0]) ?_ rfl ?_
      · rw [results_cell_tmp (p := 4) (u := 5) (ty := 26) (by kernel_rfl)]
        go_simp
      · exact ⟨d, by rw [HE.out]; rfl, HD.out.set4 HW.out (by have := HJ2.out.lt; omega) HJ3.out.four _ _ _ _, set4_below HJ3.out.below (by omega) _ _ _ _, fun _ => HOK.out, fun h => absurd HE.out h⟩
  · have e0 : (both a b != 0) = true := bne_iff_ne.2 hbo
    have HE := hid (jcode_1 hbo)
    have HBN := hid hbo
    clear hbo
    have hfs := four_set w1 (w.heap.size + 1 + 1) (.int .i64 0) (.int .i64 0) (.int .i64 0) (.slice none 0 0) HJ1.out.four
    obtain ⟨y0, y1, y2, y3, _⟩ := hfs
    go_wp2_with fail
    refine bodyPost_ret (v := .tuple #[.agg #[.int .i64 0, .int .i64 0, .int .i64 0, .slice none 0 0], .int .i64 (both a b)]) ?_ rfl ?_
    · rw [results_cell_tmp (p := 4) (u := 5) (ty := 26) (by kernel_rfl)]
      go_simp
    · exact ⟨Dat.nil, by rw [HE.out]; rfl, nil_snd _, set4_below HJ1.out.below (by omega) _ _ _ _, fun h => absurd (HE.out.symm.trans h) HBN.out, fun _ => rfl⟩
end Go.Proofs.Ytfidnklppbdebaa.Pcm
