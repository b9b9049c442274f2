/- Cut of pcm: its part lies in new memory. Condition: the sound's lists lie in their room. -/
import Derived.Test.YtfidnklppbdebaaKc
import Derived.Test.YtfidnklppbdebaaJf
namespace Go.Proofs.Ytfidnklppbdebaa.Pcm
open Go.RowKit Gen

/-- What Cut answers: the part in new memory, or none. -/
def SndNew (w : World) (code : Int) (ok : Dat → Prop) (e : Ending) (w' : World) : Prop := ∃ d : Dat, e = .returned (.tuple #[d.v, .int .i64 code]) ∧ Snd w' d ∧ Below w.heap.size w w' ∧ (code = 0 → ok d ∧ NewSnd w.heap.size w' d) ∧ (code ≠ 0 → d = Dat.nil)

set_option maxHeartbeats 3200000 in
set_option maxRecDepth 100000 in
theorem cut_new (w : World) (d : Dat) (hd : Snd w d) (hcp : ∀ k, k < d.n → d.ln k ≤ d.lc k) (i j : Int) : Calls Try.prog 16 #[d.v, .int .i64 i, .int .i64 j] w (SndNew w (ccode d i j) (CutOk d i j)) := by
  have HCH := hid fun w' (hw : Below w.heap.size w w') => check_any w' d (hd.below hw)
  have HCA := hid fun w' (hw : Below w.heap.size w w') => count_any w' d (hd.below hw)
  have HJ0 := hid (cn_new w d i j)
  have HD := hid hd
  have HCP := hid hcp
  clear hd hcp
  unfold Dat.v at HCH HCA
  show Calls Try.prog 16 #[.agg #[.int .i64 d.f.ch, .int .i64 d.f.bits, .int .i64 d.f.rate, .slice d.a d.n d.cap], .int .i64 i, .int .i64 j] w _
  go_enter Try.func16, Try.ntmps16
  go_wp2_with fail
  refine (HCH.out _ HJ0.out.below).mono ?_
  rintro e w1 ⟨rfl, hb1⟩
  have HJ1 := hid (HJ0.out.upto hb1)
  clear hb1
  by_cases hck : d.chk = 0
  · have e0 : (d.chk != 0) = false := by rw [hck]; rfl
    have HO := hid (chk_ok hck)
    have HCZ := hid hck
    clear hck
    go_wp2_with fail
    have hcl := HO.out.2.2.2.2.1
    by_cases hA : i < 0
    · skip
      have c0 : ∀ p : Kp w1, p.w'.cell? ⟨w.heap.size, 0, none⟩ = some (.int .i64 d.f.ch) := fun p => (HJ1.out.x.fr p.h).c0
      have c1 : ∀ p : Kp w1, p.w'.cell? ⟨w.heap.size, 1, none⟩ = some (.int .i64 d.f.bits) := fun p => (HJ1.out.x.fr p.h).c1
      have c2 : ∀ p : Kp w1, p.w'.cell? ⟨w.heap.size, 2, none⟩ = some (.int .i64 d.f.rate) := fun p => (HJ1.out.x.fr p.h).c2
      have c3 : ∀ p : Kp w1, p.w'.cell? ⟨w.heap.size, 3, none⟩ = some (.slice d.a d.n d.cap) := fun p => (HJ1.out.x.fr p.h).c3
      have d0 : ∀ p : Kp w1, p.w'.cell? ⟨w.heap.size + 1, 0, none⟩ = some (.int .i64 i) := fun p => (HJ1.out.upto (below_fr (Below.refl _ _) p.h)).p
      have d1 : ∀ p : Kp w1, p.w'.cell? ⟨w.heap.size + 1 + 1, 0, none⟩ = some (.int .i64 j) := fun p => (HJ1.out.upto (below_fr (Below.refl _ _) p.h)).q
      have HCAp := hid fun p : Kp w1 => HCA.out p.w' (below_fr HJ1.out.below p.h)
      refine wp_region_quiet_kp (by kernel_rfl) (by kernel_rfl) ?_
      repeat (first | go_big_quiet_step ((first | (go_at_call 14; with_reducible exact kp_below (HCAp.out _)))) | fail)
      refine wpQuiet_nil ?_
      intro wz hw'
      obtain ⟨⟨wq, hq⟩, hw''⟩ := hw'
      subst hw''
      have HJ2 := hid (HJ1.out.upto (Below.of_fr hq))
      clear hq c0 c1 c2 c3 d0 d1
      have HE := hid (show ccode d i j = 1 from ccode_2 HCZ.out (.inl hA))
      have r0 := HJ2.out.r 0 _ rfl
      have r1 := HJ2.out.r 1 _ rfl
      have r2 := HJ2.out.r 2 _ rfl
      have r3 := HJ2.out.r 3 _ rfl
      have z0 := HJ2.out.z 0
      have z1 := HJ2.out.z 1
      have z2 := HJ2.out.z 2
      have z3 := HJ2.out.z 3
      have hfs := four_set wz (w.heap.size + 1 + 1 + 1) (.int .i64 0) (.int .i64 0) (.int .i64 0) (.slice none 0 0) HJ2.out.four
      obtain ⟨y0, y1, y2, y3, _⟩ := hfs
      go_wp2_with fail
      refine bodyPost_ret (v := .tuple #[.agg #[.int .i64 0, .int .i64 0, .int .i64 0, .slice none 0 0], .int .i64 1]) ?_ rfl ?_
      · rw [results_cell_tmp (p := 6) (u := 7) (ty := 26) (by kernel_rfl)]
        go_simp
      · exact ⟨Dat.nil, by rw [HE.out]; rfl, nil_snd _, set4_below HJ2.out.below (by omega) _ _ _ _, fun h => absurd h (by rw [HE.out]; decide), fun _ => rfl⟩
    · by_cases hB : j < i
      · skip
        have c0 : ∀ p : Kp w1, p.w'.cell? ⟨w.heap.size, 0, none⟩ = some (.int .i64 d.f.ch) := fun p => (HJ1.out.x.fr p.h).c0
        have c1 : ∀ p : Kp w1, p.w'.cell? ⟨w.heap.size, 1, none⟩ = some (.int .i64 d.f.bits) := fun p => (HJ1.out.x.fr p.h).c1
        have c2 : ∀ p : Kp w1, p.w'.cell? ⟨w.heap.size, 2, none⟩ = some (.int .i64 d.f.rate) := fun p => (HJ1.out.x.fr p.h).c2
        have c3 : ∀ p : Kp w1, p.w'.cell? ⟨w.heap.size, 3, none⟩ = some (.slice d.a d.n d.cap) := fun p => (HJ1.out.x.fr p.h).c3
        have d0 : ∀ p : Kp w1, p.w'.cell? ⟨w.heap.size + 1, 0, none⟩ = some (.int .i64 i) := fun p => (HJ1.out.upto (below_fr (Below.refl _ _) p.h)).p
        have d1 : ∀ p : Kp w1, p.w'.cell? ⟨w.heap.size + 1 + 1, 0, none⟩ = some (.int .i64 j) := fun p => (HJ1.out.upto (below_fr (Below.refl _ _) p.h)).q
        have HCAp := hid fun p : Kp w1 => HCA.out p.w' (below_fr HJ1.out.below p.h)
        refine wp_region_quiet_kp (by kernel_rfl) (by kernel_rfl) ?_
        repeat (first | go_big_quiet_step ((first | (go_at_call 14; with_reducible exact kp_below (HCAp.out _)))) | fail)
        refine wpQuiet_nil ?_
        intro wz hw'
        obtain ⟨⟨wq, hq⟩, hw''⟩ := hw'
        subst hw''
        have HJ2 := hid (HJ1.out.upto (Below.of_fr hq))
        clear hq c0 c1 c2 c3 d0 d1
        have HE := hid (show ccode d i j = 1 from ccode_2 HCZ.out (.inr (.inl hB)))
        have r0 := HJ2.out.r 0 _ rfl
        have r1 := HJ2.out.r 1 _ rfl
        have r2 := HJ2.out.r 2 _ rfl
        have r3 := HJ2.out.r 3 _ rfl
        have z0 := HJ2.out.z 0
        have z1 := HJ2.out.z 1
        have z2 := HJ2.out.z 2
        have z3 := HJ2.out.z 3
        have hfs := four_set wz (w.heap.size + 1 + 1 + 1) (.int .i64 0) (.int .i64 0) (.int .i64 0) (.slice none 0 0) HJ2.out.four
        obtain ⟨y0, y1, y2, y3, _⟩ := hfs
        go_wp2_with fail
        refine bodyPost_ret (v := .tuple #[.agg #[.int .i64 0, .int .i64 0, .int .i64 0, .slice none 0 0], .int .i64 1]) ?_ rfl ?_
        · rw [results_cell_tmp (p := 6) (u := 7) (ty := 26) (by kernel_rfl)]
          go_simp
        · exact ⟨Dat.nil, by rw [HE.out]; rfl, nil_snd _, set4_below HJ2.out.below (by omega) _ _ _ _, fun h => absurd h (by rw [HE.out]; decide), fun _ => rfl⟩
      · by_cases hC : (d.cnt : Int) < j
        · skip
          have c0 : ∀ p : Kp w1, p.w'.cell? ⟨w.heap.size, 0, none⟩ = some (.int .i64 d.f.ch) := fun p => (HJ1.out.x.fr p.h).c0
          have c1 : ∀ p : Kp w1, p.w'.cell? ⟨w.heap.size, 1, none⟩ = some (.int .i64 d.f.bits) := fun p => (HJ1.out.x.fr p.h).c1
          have c2 : ∀ p : Kp w1, p.w'.cell? ⟨w.heap.size, 2, none⟩ = some (.int .i64 d.f.rate) := fun p => (HJ1.out.x.fr p.h).c2
          have c3 : ∀ p : Kp w1, p.w'.cell? ⟨w.heap.size, 3, none⟩ = some (.slice d.a d.n d.cap) := fun p => (HJ1.out.x.fr p.h).c3
          have d0 : ∀ p : Kp w1, p.w'.cell? ⟨w.heap.size + 1, 0, none⟩ = some (.int .i64 i) := fun p => (HJ1.out.upto (below_fr (Below.refl _ _) p.h)).p
          have d1 : ∀ p : Kp w1, p.w'.cell? ⟨w.heap.size + 1 + 1, 0, none⟩ = some (.int .i64 j) := fun p => (HJ1.out.upto (below_fr (Below.refl _ _) p.h)).q
          have HCAp := hid fun p : Kp w1 => HCA.out p.w' (below_fr HJ1.out.below p.h)
          refine wp_region_quiet_kp (by kernel_rfl) (by kernel_rfl) ?_
          repeat (first | go_big_quiet_step ((first | (go_at_call 14; with_reducible exact kp_below (HCAp.out _)))) | fail)
          refine wpQuiet_nil ?_
          intro wz hw'
          obtain ⟨⟨wq, hq⟩, hw''⟩ := hw'
          subst hw''
          have HJ2 := hid (HJ1.out.upto (Below.of_fr hq))
          clear hq c0 c1 c2 c3 d0 d1
          have HE := hid (show ccode d i j = 1 from ccode_2 HCZ.out (.inr (.inr hC)))
          have r0 := HJ2.out.r 0 _ rfl
          have r1 := HJ2.out.r 1 _ rfl
          have r2 := HJ2.out.r 2 _ rfl
          have r3 := HJ2.out.r 3 _ rfl
          have z0 := HJ2.out.z 0
          have z1 := HJ2.out.z 1
          have z2 := HJ2.out.z 2
          have z3 := HJ2.out.z 3
          have hfs := four_set wz (w.heap.size + 1 + 1 + 1) (.int .i64 0) (.int .i64 0) (.int .i64 0) (.slice none 0 0) HJ2.out.four
          obtain ⟨y0, y1, y2, y3, _⟩ := hfs
          go_wp2_with fail
          refine bodyPost_ret (v := .tuple #[.agg #[.int .i64 0, .int .i64 0, .int .i64 0, .slice none 0 0], .int .i64 1]) ?_ rfl ?_
          · rw [results_cell_tmp (p := 6) (u := 7) (ty := 26) (by kernel_rfl)]
            go_simp
          · exact ⟨Dat.nil, by rw [HE.out]; rfl, nil_snd _, set4_below HJ2.out.below (by omega) _ _ _ _, fun h => absurd h (by rw [HE.out]; decide), fun _ => rfl⟩
        · skip
          have c0 : ∀ p : Kp w1, p.w'.cell? ⟨w.heap.size, 0, none⟩ = some (.int .i64 d.f.ch) := fun p => (HJ1.out.x.fr p.h).c0
          have c1 : ∀ p : Kp w1, p.w'.cell? ⟨w.heap.size, 1, none⟩ = some (.int .i64 d.f.bits) := fun p => (HJ1.out.x.fr p.h).c1
          have c2 : ∀ p : Kp w1, p.w'.cell? ⟨w.heap.size, 2, none⟩ = some (.int .i64 d.f.rate) := fun p => (HJ1.out.x.fr p.h).c2
          have c3 : ∀ p : Kp w1, p.w'.cell? ⟨w.heap.size, 3, none⟩ = some (.slice d.a d.n d.cap) := fun p => (HJ1.out.x.fr p.h).c3
          have d0 : ∀ p : Kp w1, p.w'.cell? ⟨w.heap.size + 1, 0, none⟩ = some (.int .i64 i) := fun p => (HJ1.out.upto (below_fr (Below.refl _ _) p.h)).p
          have d1 : ∀ p : Kp w1, p.w'.cell? ⟨w.heap.size + 1 + 1, 0, none⟩ = some (.int .i64 j) := fun p => (HJ1.out.upto (below_fr (Below.refl _ _) p.h)).q
          have HCAp := hid fun p : Kp w1 => HCA.out p.w' (below_fr HJ1.out.below p.h)
          refine wp_region_quiet_kp (by kernel_rfl) (by kernel_rfl) ?_
          repeat (first | go_big_quiet_step ((first | (go_at_call 14; with_reducible exact kp_below (HCAp.out _)))) | fail)
          refine wpQuiet_nil ?_
          intro wz hw'
          obtain ⟨⟨wq, hq⟩, hw''⟩ := hw'
          subst hw''
          have HJ2 := hid (HJ1.out.upto (Below.of_fr hq))
          clear hq c0 c1 c2 c3 d0 d1
          have HE := hid (ccode_3 HCZ.out (show ¬ (i < 0 ∨ j < i ∨ (d.cnt : Int) < j) by omega))
          have r0 := HJ2.out.r 0 _ rfl
          have r1 := HJ2.out.r 1 _ rfl
          have r2 := HJ2.out.r 2 _ rfl
          have r3 := HJ2.out.r 3 _ rfl
          have z0 := HJ2.out.z 0
          have z1 := HJ2.out.z 1
          have z2 := HJ2.out.z 2
          have z3 := HJ2.out.z 3
          obtain ⟨f, rfl⟩ := Int.eq_ofNat_of_zero_le (show 0 ≤ i by omega)
          obtain ⟨t, rfl⟩ := Int.eq_ofNat_of_zero_le (show 0 ≤ j by omega)
          have HFT : Hid (f ≤ t ∧ t ≤ d.cnt) := hid ⟨by omega, by omega⟩
          have HBU := hid (build_any 38 #[.pointer (some ⟨w.heap.size, 0, none⟩), .pointer (some ⟨w.heap.size + 1, 0, none⟩), .pointer (some ⟨w.heap.size + 1 + 1, 0, none⟩)] (fun args w => Try.call38 args w) wz d.f d.n HO.out.2.1.symm HO.out.2.2.1 HO.out.2.2.2.1 (fun _ => t - f) (fun k m => d.X k (f + m))
            (fun k hk w' hw' => cut1_any w' k w.heap.size (w.heap.size + 1) (w.heap.size + 1 + 1) f t d (HJ2.out.x.below hw') (HD.out.below (HJ2.out.below.trans (hw'.mono HJ2.out.below.size))) hk (HJ2.out.upto hw').p (HJ2.out.upto hw').q HFT.out.1 (by have h1 := HO.out.2.2.2.2.2.1 k hk; have h2 := HFT.out.2; omega) (HCP.out k hk) (by have h1 := HO.out.2.2.2.2.1; have h2 := HFT.out.2; omega)))
          unfold Fmt.v at HBU
          have k0 := HJ2.out.x.c0
          have k1 := HJ2.out.x.c1
          have k2 := HJ2.out.x.c2
          go_wp2_with fail
          refine HBU.out.mono ?_
          rintro e w3 ⟨s, rfl, hdf, hdn, hdl, hdx, hds, hdw, hb3⟩
          have HJ3 := hid (HJ2.out.upto hb3)
          have HDS := hid hds
          have HW := hid hdw
          have HOK : Hid (CutOk d (f : Int) (t : Int) s) := hid ⟨hdf, hdn, fun k hk => ⟨hdl k (by omega), hdx k (by omega)⟩⟩
          have hfs := four_set w3 (w.heap.size + 1 + 1 + 1) (.int .i64 s.f.ch) (.int .i64 s.f.bits) (.int .i64 s.f.rate) (.slice s.a s.n s.cap) HJ3.out.four
          obtain ⟨y0, y1, y2, y3, _⟩ := hfs
          clear r0 r1 r2 r3 z0 z1 z2 z3 k0 k1 k2 hb3 hds hdw hdf hdn hdl hdx
          have r0 := HJ3.out.r 0 _ rfl
          have r1 := HJ3.out.r 1 _ rfl
          have r2 := HJ3.out.r 2 _ rfl
          have r3 := HJ3.out.r 3 _ rfl
          have z0 := HJ3.out.z 0
          have z1 := HJ3.out.z 1
          have z2 := HJ3.out.z 2
          have z3 := HJ3.out.z 3
          unfold Dat.v
          go_wp2_with fail
          refine bodyPost_ret (v := .tuple #[.agg #[.int .i64 s.f.ch, .int .i64 s.f.bits, .int .i64 s.f.rate, .slice s.a s.n s.cap], .int .i64 0]) ?_ rfl ?_
          · rw [results_cell_tmp (p := 6) (u := 7) (ty := 26) (by kernel_rfl)]
            go_simp
          · exact ⟨s, by rw [HE.out]; rfl, HDS.out.set4 HW.out (by have := HJ2.out.lt; omega) HJ3.out.four _ _ _ _, set4_below HJ3.out.below (by omega) _ _ _ _, fun _ => ⟨HOK.out, HW.out.set4 (by have := HJ2.out.lt; omega) (by have := HJ2.out.lt; omega) _ _ _ _⟩, fun h => absurd HE.out h⟩
  · have e0 : (d.chk != 0) = true := bne_iff_ne.2 hck
    have HBN := hid hck
    have hck' := hid hck
    clear hck
    have HE := hid (show ccode d i j = d.chk from ccode_1 hck'.out)
    have r0 := HJ1.out.r 0 _ rfl
    have r1 := HJ1.out.r 1 _ rfl
    have r2 := HJ1.out.r 2 _ rfl
    have r3 := HJ1.out.r 3 _ rfl
    have z0 := HJ1.out.z 0
    have z1 := HJ1.out.z 1
    have z2 := HJ1.out.z 2
    have z3 := HJ1.out.z 3
    have hfs := four_set w1 (w.heap.size + 1 + 1 + 1) (.int .i64 0) (.int .i64 0) (.int .i64 0) (.slice none 0 0) HJ1.out.four
    obtain ⟨y0, y1, y2, y3, _⟩ := hfs
    go_wp2_with fail
    refine bodyPost_ret (v := .tuple #[.agg #[.int .i64 0, .int .i64 0, .int .i64 0, .slice none 0 0], .int .i64 d.chk]) ?_ rfl ?_
    · rw [results_cell_tmp (p := 6) (u := 7) (ty := 26) (by kernel_rfl)]
      go_simp
    · exact ⟨Dat.nil, by rw [HE.out]; rfl, nil_snd _, set4_below HJ1.out.below (by omega) _ _ _ _, fun h => absurd (HE.out.symm.trans h) HBN.out, fun _ => rfl⟩
end Go.Proofs.Ytfidnklppbdebaa.Pcm
