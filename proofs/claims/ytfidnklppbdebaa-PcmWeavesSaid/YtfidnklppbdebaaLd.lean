/- Part of pcm: its answer. Condition: the list lies in memory, of at most 2^32 numbers. -/
import Derived.Test.YtfidnklppbdebaaLc
namespace Go.Proofs.Ytfidnklppbdebaa.Pcm
open Go.RowKit Gen

set_option maxHeartbeats 3200000 in
set_option maxRecDepth 100000 in
theorem part_any (w : World) (f : Fmt) (a : Option Addr) (L cap b o : Nat) (X : Nat → Int) (hl : Isb w a L b o X) (hL : L ≤ 4294967296) : Calls Try.prog 25 #[f.v, .slice a L cap] w (SndNew w (pcode f L X) (PartOk f L X)) := by
  have HRT := hid fun w' => right_any f w'
  have HRE : Hid (f.right → ∀ w', Below w.heap.size w w' → Calls Try.prog 34 #[.slice a L cap, .int .i64 f.bits] w' fun e w'' => e = .returned (.bool (pfar f L X)) ∧ Below w'.heap.size w' w'') := hid fun hr w' hb => by
    obtain ⟨m, hm⟩ := Int.eq_ofNat_of_zero_le (show 0 ≤ f.bits - 1 by have := hr.2.1.1; omega)
    have e1 : f.bits = ((m + 1 : Nat) : Int) := by push_cast; omega
    have e2 : f.bits.toNat - 1 = m := by omega
    unfold pfar
    rw [e2, e1]
    exact reach_any w' a L cap X ⟨b, o, hl.below hb hl.lt⟩ m (2 ^ m) (by have := hr.2.1.2; omega) rfl
  have HJ0 := hid (pn_new w f a L cap)
  have HI := hid hl
  clear hl
  unfold Fmt.v at HRT
  show Calls Try.prog 25 #[.agg #[.int .i64 f.ch, .int .i64 f.bits, .int .i64 f.rate], .slice a L cap] w _
  go_enter Try.func25, Try.ntmps25
  go_wp2_with fail
  refine (HRT.out _).mono ?_
  rintro e w1 ⟨rfl, hb1⟩
  have HJ1 := hid (HJ0.out.upto hb1)
  clear hb1
  by_cases hR : f.right
  · rw [decide_eq_true hR]
    have hch1 := hR.1.1
    have hch8 := hR.1.2
    have hch0 : ¬ f.ch = 0 := by omega
    have HRR := hid hR
    have k0 := HJ1.out.f0
    have k1 := HJ1.out.f1
    have kl := HJ1.out.l
    by_cases hM : (L : Int) % f.ch = 0
    · have HM := hid hM
      have e1 : ((L : Int) % f.ch != 0) = false := by rw [hM]; rfl
      clear hR hM
      go_wp2_with fail
      refine (HRE.out HRR.out _ HJ1.out.below).mono ?_
      rintro e w2 ⟨rfl, hb2⟩
      have HJ2 := hid (HJ1.out.upto hb2)
      clear hb2 k0 k1 kl e1
      cases hF : pfar f L X with
      | true =>
        have HF := hid hF
        clear hF
        have HE := hid (show pcode f L X = 21 from by unfold pcode; rw [if_neg (fun g => g HRR.out), if_neg (fun g => g HM.out), if_pos HF.out])
        have r0 := HJ2.out.r 0 _ rfl
        have r1 := HJ2.out.r 1 _ rfl
        have r2 := HJ2.out.r 2 _ rfl
        have r3 := HJ2.out.r 3 _ rfl
        have z0 := HJ2.out.z 0
        have z1 := HJ2.out.z 1
        have z2 := HJ2.out.z 2
        have z3 := HJ2.out.z 3
        have hfs := four_set w2 (w.heap.size + 1 + 1) (.int .i64 0) (.int .i64 0) (.int .i64 0) (.slice none 0 0) HJ2.out.four
        obtain ⟨y0, y1, y2, y3, _⟩ := hfs
        go_wp2_with fail
        refine bodyPost_ret (v := .tuple #[.agg #[.int .i64 0, .int .i64 0, .int .i64 0, .slice none 0 0], .int .i64 21]) ?_ rfl ?_
        · rw [results_cell_tmp (p := 4) (u := 5) (ty := 26) (by kernel_rfl)]
          go_simp
        · exact ⟨Dat.nil, by rw [HE.out]; rfl, nil_snd _, set4_below HJ2.out.below (by omega) _ _ _ _, fun h => absurd h (by rw [HE.out]; decide), fun _ => rfl⟩
      | false =>
        have HF := hid hF
        clear hF
        have HE := hid (show pcode f L X = 0 from by unfold pcode; rw [if_neg (fun g => g HRR.out), if_neg (fun g => g HM.out), if_neg (by rw [HF.out]; decide)])
        obtain ⟨n, hn⟩ := Int.eq_ofNat_of_zero_le (show 0 ≤ f.ch by omega)
        have HN := hid hn
        have HLK : Hid (L = n * (L / n)) := hid (by
          have h1 := HM.out
          rw [HN.out] at h1
          have h2 : ((L % n : Nat) : Int) = 0 := by rw [← h1]; exact Int.natCast_emod L n
          have h3 := Nat.div_add_mod L n
          omega)
        have HBU := hid (build_any 45 #[.pointer (some ⟨w.heap.size + 1, 0, none⟩), .pointer (some ⟨w.heap.size, 0, none⟩)] (fun args w => Try.call45 args w) w2 f n HN.out (by omega) (by omega) (fun _ => L / n) (fun k m => X (n * m + k))
          (fun k hk w' hw' => part1_any w' k n (L / n) L (w.heap.size + 1) w.heap.size a cap b o X (by omega) hk (by have := Nat.div_le_self L n; omega) HLK.out (HJ2.out.upto hw').l (by rw [← HN.out]; exact (HJ2.out.upto hw').f0) (HI.out.below (HJ2.out.below.trans (hw'.mono HJ2.out.below.size)) HI.out.lt)))
        unfold Fmt.v at HBU
        have r0 := HJ2.out.r 0 _ rfl
        have r1 := HJ2.out.r 1 _ rfl
        have r2 := HJ2.out.r 2 _ rfl
        have r3 := HJ2.out.r 3 _ rfl
        have z0 := HJ2.out.z 0
        have z1 := HJ2.out.z 1
        have z2 := HJ2.out.z 2
        have z3 := HJ2.out.z 3
        have k0 := HJ2.out.f0
        have k1 := HJ2.out.f1
        have k2 := HJ2.out.f2
        clear hn hch1 hch8 hch0
        go_wp2_with fail
        refine HBU.out.mono ?_
        rintro e w3 ⟨s, rfl, hdf, hdn, hdl, hdx, hds, hdw, hb3⟩
        have HJ3 := hid (HJ2.out.upto hb3)
        have HDS := hid hds
        have HW := hid hdw
        have HOK : Hid (PartOk f L X s) := hid ⟨hdf, by rw [hdn, HN.out], fun k hk => ⟨by rw [hdl k (by omega), hdn], by rw [hdx k (by omega), hdn]⟩⟩
        have hfs := four_set w3 (w.heap.size + 1 + 1) (.int .i64 s.f.ch) (.int .i64 s.f.bits) (.int .i64 s.f.rate) (.slice s.a s.n s.cap) HJ3.out.four
        obtain ⟨y0, y1, y2, y3, _⟩ := hfs
        clear r0 r1 r2 r3 z0 z1 z2 z3 k0 k1 k2 hb3 hds hdw hdf hdn hdl hdx
        have r0 := HJ3.out.r 0 _ rfl
        have r1 := HJ3.out.r 1 _ rfl
        have r2 := HJ3.out.r 2 _ rfl
        have r3 := HJ3.out.r 3 _ rfl
        have z0 := HJ3.out.z 0
        have z1 := HJ3.out.z 1
        have z2 := HJ3.out.z 2
        have z3 := HJ3.out.z 3
        unfold Dat.v
        go_wp2_with fail
        refine bodyPost_ret (v := .tuple #[.agg #[.int .i64 s.f.ch, .int .i64 s.f.bits, .int .i64 s.f.rate, .slice s.a s.n s.cap], .int .i64 0]) ?_ rfl ?_
        · rw [results_cell_tmp (p := 4) (u := 5) (ty := 26) (by kernel_rfl)]
          go_simp
        · exact ⟨s, by rw [HE.out]; rfl, HDS.out.set4 HW.out (by have := HJ2.out.lt; omega) HJ3.out.four _ _ _ _, set4_below HJ3.out.below (by omega) _ _ _ _, fun _ => ⟨HOK.out, HW.out.set4 (by have := HJ2.out.lt; omega) (by have := HJ2.out.lt; omega) _ _ _ _⟩, fun h => absurd HE.out h⟩
    · have HM := hid hM
      have e1 : ((L : Int) % f.ch != 0) = true := bne_iff_ne.2 hM
      clear hR hM
      have HE := hid (show pcode f L X = 22 from by unfold pcode; rw [if_neg (fun g => g HRR.out), if_pos HM.out])
      have r0 := HJ1.out.r 0 _ rfl
      have r1 := HJ1.out.r 1 _ rfl
      have r2 := HJ1.out.r 2 _ rfl
      have r3 := HJ1.out.r 3 _ rfl
      have z0 := HJ1.out.z 0
      have z1 := HJ1.out.z 1
      have z2 := HJ1.out.z 2
      have z3 := HJ1.out.z 3
      have hfs := four_set w1 (w.heap.size + 1 + 1) (.int .i64 0) (.int .i64 0) (.int .i64 0) (.slice none 0 0) HJ1.out.four
      obtain ⟨y0, y1, y2, y3, _⟩ := hfs
      go_wp2_with fail
      refine bodyPost_ret (v := .tuple #[.agg #[.int .i64 0, .int .i64 0, .int .i64 0, .slice none 0 0], .int .i64 22]) ?_ rfl ?_
      · rw [results_cell_tmp (p := 4) (u := 5) (ty := 26) (by kernel_rfl)]
        go_simp
      · exact ⟨Dat.nil, by rw [HE.out]; rfl, nil_snd _, set4_below HJ1.out.below (by omega) _ _ _ _, fun h => absurd h (by rw [HE.out]; decide), fun _ => rfl⟩
  · rw [decide_eq_false hR]
    have HRR := hid hR
    clear hR
    have HE := hid (show pcode f L X = 20 from by unfold pcode; rw [if_pos HRR.out])
    have r0 := HJ1.out.r 0 _ rfl
    have r1 := HJ1.out.r 1 _ rfl
    have r2 := HJ1.out.r 2 _ rfl
    have r3 := HJ1.out.r 3 _ rfl
    have z0 := HJ1.out.z 0
    have z1 := HJ1.out.z 1
    have z2 := HJ1.out.z 2
    have z3 := HJ1.out.z 3
    have hfs := four_set w1 (w.heap.size + 1 + 1) (.int .i64 0) (.int .i64 0) (.int .i64 0) (.slice none 0 0) HJ1.out.four
    obtain ⟨y0, y1, y2, y3, _⟩ := hfs
    go_wp2_with fail
    refine bodyPost_ret (v := .tuple #[.agg #[.int .i64 0, .int .i64 0, .int .i64 0, .slice none 0 0], .int .i64 20]) ?_ rfl ?_
    · rw [results_cell_tmp (p := 4) (u := 5) (ty := 26) (by kernel_rfl)]
      go_simp
    · exact ⟨Dat.nil, by rw [HE.out]; rfl, nil_snd _, set4_below HJ1.out.below (by omega) _ _ _ _, fun h => absurd h (by rw [HE.out]; decide), fun _ => rfl⟩
end Go.Proofs.Ytfidnklppbdebaa.Pcm
