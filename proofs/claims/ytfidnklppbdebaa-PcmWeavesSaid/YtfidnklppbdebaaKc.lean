/- Cut of pcm. Condition: the sound's lists lie in their room. -/
import Derived.Test.YtfidnklppbdebaaKb
import Derived.Test.YtfidnklppbdebaaJd
namespace Go.Proofs.Ytfidnklppbdebaa.Pcm
open Go.RowKit Gen

def ccode (d : Dat) (i j : Int) : Int := if d.chk ≠ 0 then d.chk else if i < 0 ∨ j < i ∨ (d.cnt : Int) < j then 1 else 0
theorem ccode_1 {d : Dat} {i j : Int} (h : ¬ d.chk = 0) : ccode d i j = d.chk := if_pos h
theorem ccode_2 {d : Dat} {i j : Int} (h : d.chk = 0) (h2 : i < 0 ∨ j < i ∨ (d.cnt : Int) < j) : ccode d i j = 1 := by unfold ccode; rw [if_neg (fun x => x h), if_pos h2]
theorem ccode_3 {d : Dat} {i j : Int} (h : d.chk = 0) (h2 : ¬ (i < 0 ∨ j < i ∨ (d.cnt : Int) < j)) : ccode d i j = 0 := by unfold ccode; rw [if_neg (fun x => x h), if_neg h2]
/-- What a part of a sound is. -/
def CutOk (d : Dat) (i j : Int) (d' : Dat) : Prop := d'.f = d.f ∧ d'.n = d.n ∧ ∀ k, k < d'.n → d'.ln k = j.toNat - i.toNat ∧ d'.X k = fun m => d.X k (i.toNat + m)
/-- What stands while Cut goes on. -/
structure Cn (w wr : World) (d : Dat) (i j : Int) : Prop where
  x : Bx wr w.heap.size d
  p : wr.cell? ⟨w.heap.size + 1, 0, none⟩ = some (.int .i64 i)
  q : wr.cell? ⟨w.heap.size + 1 + 1, 0, none⟩ = some (.int .i64 j)
  r : ∀ i v, (#[.int .i64 0, .int .i64 0, .int .i64 0, .slice none 0 0] : Array Value)[i]? = some v → wr.cell? ⟨w.heap.size + 1 + 1 + 1, i, none⟩ = some v
  z : ∀ i, wr.frozen? ⟨w.heap.size + 1 + 1 + 1, i, none⟩ = false
  below : Below w.heap.size w wr
  lt : w.heap.size + 4 ≤ wr.heap.size
theorem Cn.upto {w w1 w2 : World} {d : Dat} {i j : Int} (h : Cn w w1 d i j) (hb : Below w1.heap.size w1 w2) : Cn w w2 d i j := by
  have hlt := h.lt
  exact ⟨h.x.below hb, (hb.cell (p := ⟨w.heap.size + 1, 0, none⟩) (show w.heap.size + 1 < _ by omega)).trans h.p, (hb.cell (p := ⟨w.heap.size + 1 + 1, 0, none⟩) (show w.heap.size + 1 + 1 < _ by omega)).trans h.q,
    fun i v hv => (hb.cell (p := ⟨w.heap.size + 1 + 1 + 1, i, none⟩) (show w.heap.size + 1 + 1 + 1 < _ by omega)).trans (h.r i v hv),
    fun i => (hb.frozen (p := ⟨w.heap.size + 1 + 1 + 1, i, none⟩) (show w.heap.size + 1 + 1 + 1 < _ by omega)).trans (h.z i), h.below.trans (hb.mono h.below.size), Nat.le_trans hlt hb.size⟩
theorem cn_new (w : World) (d : Dat) (i j : Int) : Cn w ((((w.alloc (.cells #[.int .i64 d.f.ch, .int .i64 d.f.bits, .int .i64 d.f.rate, .slice d.a d.n d.cap] 26)).alloc (.cells #[.int .i64 i] 3)).alloc (.cells #[.int .i64 j] 3)).alloc (.cells #[.int .i64 0, .int .i64 0, .int .i64 0, .slice none 0 0] 26)) d i j := by
  have hx := bx_new w d
  have hb := below_new w (.cells #[.int .i64 d.f.ch, .int .i64 d.f.bits, .int .i64 d.f.rate, .slice d.a d.n d.cap] 26)
  generalize hW : w.alloc (.cells #[.int .i64 d.f.ch, .int .i64 d.f.bits, .int .i64 d.f.rate, .slice d.a d.n d.cap] 26) = W at *
  have hz : W.heap.size = w.heap.size + 1 := by rw [← hW]; simp
  have hb3 : Below W.heap.size W (((W.alloc (.cells #[.int .i64 i] 3)).alloc (.cells #[.int .i64 j] 3)).alloc (.cells #[.int .i64 0, .int .i64 0, .int .i64 0, .slice none 0 0] 26)) := ((below_new W _).alloc (by simp) _).alloc (by simp <;> omega) _
  refine ⟨hx.below hb3, ?_, ?_, fun i v hv => ?_, fun i => fz_new _ _ _ _ _ (by simp [hz]), hb.trans (hb3.mono (by omega)), by simp [hz]⟩
  · rw [cell_old _ _ _ _ (by simp [hz] <;> omega), cell_old _ _ _ _ (by simp [hz]), World.cell?_alloc_at _ _ _ _ (by simp [hz])]; rfl
  · rw [cell_old _ _ _ _ (by simp [hz]), World.cell?_alloc_at _ _ _ _ (by simp [hz])]; rfl
  · rw [World.cell?_alloc_at _ _ _ _ (by simp [hz])]; exact hv
theorem Cn.four {w wr : World} {d : Dat} {i j : Int} (h : Cn w wr d i j) : ∀ i, i < 4 → ∃ v, wr.cell? ⟨w.heap.size + 1 + 1 + 1, i, none⟩ = some v := fun i hi => by
  match i, hi with
  | 0, _ => exact ⟨_, h.r 0 _ rfl⟩
  | 1, _ => exact ⟨_, h.r 1 _ rfl⟩
  | 2, _ => exact ⟨_, h.r 2 _ rfl⟩
  | 3, _ => exact ⟨_, h.r 3 _ rfl⟩

set_option maxHeartbeats 3200000 in
set_option maxRecDepth 100000 in
theorem cut_any (w : World) (d : Dat) (hd : Snd w d) (hcp : ∀ k, k < d.n → d.ln k ≤ d.lc k) (i j : Int) : Calls Try.prog 16 #[d.v, .int .i64 i, .int .i64 j] w (SndPost w (ccode d i j) (CutOk d i j)) := by
  have HCH := hid fun w' (hw : Below w.heap.size w w') => check_any w' d (hd.below hw)
  have HCA := hid fun w' (hw : Below w.heap.size w w') => count_any w' d (hd.below hw)
  have HJ0 := hid (cn_new w d i j)
  have HD := hid hd
  have HCP := hid hcp
  clear hd hcp
  unfold Dat.v at HCH HCA
  show Calls Try.prog 16 #[.agg #[.int .i64 d.f.ch, .int .i64 d.f.bits, .int .i64 d.f.rate, .slice d.a d.n d.cap], .int .i64 i, .int .i64 j] w _
  go_enter Try.func16, Try.ntmps16
  go_wp2_with fail
  refine (HCH.out _ HJ0.out.below).mono ?_
  rintro e w1 ⟨rfl, hb1⟩
  have HJ1 := hid (HJ0.out.upto hb1)
  clear hb1
  by_cases hck : d.chk = 0
  · have e0 : (d.chk != 0) = false := by rw [hck]; rfl
    have HO := hid (chk_ok hck)
    have HCZ := hid hck
    clear hck
    go_wp2_with fail
    have hcl := HO.out.2.2.2.2.1
    by_cases hA : i < 0
    · skip
      have c0 : ∀ p : Kp w1, p.w'.cell? ⟨w.heap.size, 0, none⟩ = some (.int .i64 d.f.ch) := fun p => (HJ1.out.x.fr p.h).c0
      have c1 : ∀ p : Kp w1, p.w'.cell? ⟨w.heap.size, 1, none⟩ = some (.int .i64 d.f.bits) := fun p => (HJ1.out.x.fr p.h).c1
      have c2 : ∀ p : Kp w1, p.w'.cell? ⟨w.heap.size, 2, none⟩ = some (.int .i64 d.f.rate) := fun p => (HJ1.out.x.fr p.h).c2
      have c3 : ∀ p : Kp w1, p.w'.cell? ⟨w.heap.size, 3, none⟩ = some (.slice d.a d.n d.cap) := fun p => (HJ1.out.x.fr p.h).c3
      have d0 : ∀ p : Kp w1, p.w'.cell? ⟨w.heap.size + 1, 0, none⟩ = some (.int .i64 i) := fun p => (HJ1.out.upto (below_fr (Below.refl _ _) p.h)).p
      have d1 : ∀ p : Kp w1, p.w'.cell? ⟨w.heap.size + 1 + 1, 0, none⟩ = some (.int .i64 j) := fun p => (HJ1.out.upto (below_fr (Below.refl _ _) p.h)).q
      have HCAp := hid fun p : Kp w1 => HCA.out p.w' (below_fr HJ1.out.below p.h)
      refine wp_region_quiet_kp (by kernel_rfl) (by kernel_rfl) ?_
      repeat (first | go_big_quiet_step ((first | (go_at_call 14; with_reducible exact kp_below (HCAp.out _)))) | fail)
      refine wpQuiet_nil ?_
      intro wz hw'
      obtain ⟨⟨wq, hq⟩, hw''⟩ := hw'
      subst hw''
      have HJ2 := hid (HJ1.out.upto (Below.of_fr hq))
      clear hq c0 c1 c2 c3 d0 d1
      have HE := hid (show ccode d i j = 1 from ccode_2 HCZ.out (.inl hA))
      have r0 := HJ2.out.r 0 _ rfl
      have r1 := HJ2.out.r 1 _ rfl
      have r2 := HJ2.out.r 2 _ rfl
      have r3 := HJ2.out.r 3 _ rfl
      have z0 := HJ2.out.z 0
      have z1 := HJ2.out.z 1
      have z2 := HJ2.out.z 2
      have z3 := HJ2.out.z 3
      have hfs := four_set wz (w.heap.size + 1 + 1 + 1) (.int .i64 0) (.int .i64 0) (.int .i64 0) (.slice none 0 0) HJ2.out.four
      obtain ⟨y0, y1, y2, y3, _⟩ := hfs
      go_wp2_with fail
      refine bodyPost_ret (v := .tuple #[.agg #[.int .i64 0, .int .i64 0, .int .i64 0, .slice none 0 0], .int .i64 1]) ?_ rfl ?_
      · rw [results_cell_tmp (p := 6) (u := 7) (ty := 26) (by kernel_rfl)]
        go_simp
      · exact ⟨Dat.nil, by rw [HE.out]; rfl, nil_snd _, set4_below HJ2.out.below (by omega) _ _ _ _, fun h => absurd h (by rw [HE.out]; decide), fun _ => rfl⟩
    · by_cases hB : j < i
      · skip
        have c0 : ∀ p : Kp w1, p.w'.cell? ⟨w.heap.size, 0, none⟩ = some (.int .i64 d.f.ch) := fun p => (HJ1.out.x.fr p.h).c0
        have c1 : ∀ p : Kp w1, p.w'.cell? ⟨w.heap.size, 1, none⟩ = some (.int .i64 d.f.bits) := fun p => (HJ1.out.x.fr p.h).c1
        have c2 : ∀ p : Kp w1, p.w'.cell? ⟨w.heap.size, 2, none⟩ = some (.int .i64 d.f.rate) := fun p => (HJ1.out.x.fr p.h).c2
        have c3 : ∀ p : Kp w1, p.w'.cell? ⟨w.heap.size, 3, none⟩ = some (.slice d.a d.n d.cap) := fun p => (HJ1.out.x.fr p.h).c3
        have d0 : ∀ p : Kp w1, p.w'.cell? ⟨w.heap.size + 1, 0, none⟩ = some (.int .i64 i) := fun p => (HJ1.out.upto (below_fr (Below.refl _ _) p.h)).p
        have d1 : ∀ p : Kp w1, p.w'.cell? ⟨w.heap.size + 1 + 1, 0, none⟩ = some (.int .i64 j) := fun p => (HJ1.out.upto (below_fr (Below.refl _ _) p.h)).q
        have HCAp := hid fun p : Kp w1 => HCA.out p.w' (below_fr HJ1.out.below p.h)
        refine wp_region_quiet_kp (by kernel_rfl) (by kernel_rfl) ?_
        repeat (first | go_big_quiet_step ((first | (go_at_call 14; with_reducible exact kp_below (HCAp.out _)))) | fail)
        refine wpQuiet_nil ?_
        intro wz hw'
        obtain ⟨⟨wq, hq⟩, hw''⟩ := hw'
        subst hw''
        have HJ2 := hid (HJ1.out.upto (Below.of_fr hq))
        clear hq c0 c1 c2 c3 d0 d1
        have HE := hid (show ccode d i j = 1 from ccode_2 HCZ.out (.inr (.inl hB)))
        have r0 := HJ2.out.r 0 _ rfl
        have r1 := HJ2.out.r 1 _ rfl
        have r2 := HJ2.out.r 2 _ rfl
        have r3 := HJ2.out.r 3 _ rfl
        have z0 := HJ2.out.z 0
        have z1 := HJ2.out.z 1
        have z2 := HJ2.out.z 2
        have z3 := HJ2.out.z 3
        have hfs := four_set wz (w.heap.size + 1 + 1 + 1) (.int .i64 0) (.int .i64 0) (.int .i64 0) (.slice none 0 0) HJ2.out.four
        obtain ⟨y0, y1, y2, y3, _⟩ := hfs
        go_wp2_with fail
        refine bodyPost_ret (v := .tuple #[.agg #[.int .i64 0, .int .i64 0, .int .i64 0, .slice none 0 0], .int .i64 1]) ?_ rfl ?_
        · rw [results_cell_tmp (p := 6) (u := 7) (ty := 26) (by kernel_rfl)]
          go_simp
        · exact ⟨Dat.nil, by rw [HE.out]; rfl, nil_snd _, set4_below HJ2.out.below (by omega) _ _ _ _, fun h => absurd h (by rw [HE.out]; decide), fun _ => rfl⟩
      · by_cases hC : (d.cnt : Int) < j
        · skip
          have c0 : ∀ p : Kp w1, p.w'.cell? ⟨w.heap.size, 0, none⟩ = some (.int .i64 d.f.ch) := fun p => (HJ1.out.x.fr p.h).c0
          have c1 : ∀ p : Kp w1, p.w'.cell? ⟨w.heap.size, 1, none⟩ = some (.int .i64 d.f.bits) := fun p => (HJ1.out.x.fr p.h).c1
          have c2 : ∀ p : Kp w1, p.w'.cell? ⟨w.heap.size, 2, none⟩ = some (.int .i64 d.f.rate) := fun p => (HJ1.out.x.fr p.h).c2
          have c3 : ∀ p : Kp w1, p.w'.cell? ⟨w.heap.size, 3, none⟩ = some (.slice d.a d.n d.cap) := fun p => (HJ1.out.x.fr p.h).c3
          have d0 : ∀ p : Kp w1, p.w'.cell? ⟨w.heap.size + 1, 0, none⟩ = some (.int .i64 i) := fun p => (HJ1.out.upto (below_fr (Below.refl _ _) p.h)).p
          have d1 : ∀ p : Kp w1, p.w'.cell? ⟨w.heap.size + 1 + 1, 0, none⟩ = some (.int .i64 j) := fun p => (HJ1.out.upto (below_fr (Below.refl _ _) p.h)).q
          have HCAp := hid fun p : Kp w1 => HCA.out p.w' (below_fr HJ1.out.below p.h)
          refine wp_region_quiet_kp (by kernel_rfl) (by kernel_rfl) ?_
          repeat (first | go_big_quiet_step ((first | (go_at_call 14; with_reducible exact kp_below (HCAp.out _)))) | fail)
          refine wpQuiet_nil ?_
          intro wz hw'
          obtain ⟨⟨wq, hq⟩, hw''⟩ := hw'
          subst hw''
          have HJ2 := hid (HJ1.out.upto (Below.of_fr hq))
          clear hq c0 c1 c2 c3 d0 d1
          have HE := hid (show ccode d i j = 1 from ccode_2 HCZ.out (.inr (.inr hC)))
          have r0 := HJ2.out.r 0 _ rfl
          have r1 := HJ2.out.r 1 _ rfl
          have r2 := HJ2.out.r 2 _ rfl
          have r3 := HJ2.out.r 3 _ rfl
          have z0 := HJ2.out.z 0
          have z1 := HJ2.out.z 1
          have z2 := HJ2.out.z 2
          have z3 := HJ2.out.z 3
          have hfs := four_set wz (w.heap.size + 1 + 1 + 1) (.int .i64 0) (.int .i64 0) (.int .i64 0) (.slice none 0 0) HJ2.out.four
          obtain ⟨y0, y1, y2, y3, _⟩ := hfs
          go_wp2_with fail
          refine bodyPost_ret (v := .tuple #[.agg #[.int .i64 0, .int .i64 0, .int .i64 0, .slice none 0 0], .int .i64 1]) ?_ rfl ?_
          · rw [results_cell_tmp (p := 6) (u := 7) (ty := 26) (by kernel_rfl)]
            go_simp
          · exact ⟨Dat.nil, by rw [HE.out]; rfl, nil_snd _, set4_below HJ2.out.below (by omega) _ _ _ _, fun h => absurd h (by rw [HE.out]; decide), fun _ => rfl⟩
        · skip
          have c0 : ∀ p : Kp w1, p.w'.cell? ⟨w.heap.size, 0, none⟩ = some (.int .i64 d.f.ch) := fun p => (HJ1.out.x.fr p.h).c0
          have c1 : ∀ p : Kp w1, p.w'.cell? ⟨w.heap.size, 1, none⟩ = some (.int .i64 d.f.bits) := fun p => (HJ1.out.x.fr p.h).c1
          have c2 : ∀ p : Kp w1, p.w'.cell? ⟨w.heap.size, 2, none⟩ = some (.int .i64 d.f.rate) := fun p => (HJ1.out.x.fr p.h).c2
          have c3 : ∀ p : Kp w1, p.w'.cell? ⟨w.heap.size, 3, none⟩ = some (.slice d.a d.n d.cap) := fun p => (HJ1.out.x.fr p.h).c3
          have d0 : ∀ p : Kp w1, p.w'.cell? ⟨w.heap.size + 1, 0, none⟩ = some (.int .i64 i) := fun p => (HJ1.out.upto (below_fr (Below.refl _ _) p.h)).p
          have d1 : ∀ p : Kp w1, p.w'.cell? ⟨w.heap.size + 1 + 1, 0, none⟩ = some (.int .i64 j) := fun p => (HJ1.out.upto (below_fr (Below.refl _ _) p.h)).q
          have HCAp := hid fun p : Kp w1 => HCA.out p.w' (below_fr HJ1.out.below p.h)
          refine wp_region_quiet_kp (by kernel_rfl) (by kernel_rfl) ?_
          repeat (first | go_big_quiet_step ((first | (go_at_call 14; with_reducible exact kp_below (HCAp.out _)))) | fail)
          refine wpQuiet_nil ?_
          intro wz hw'
          obtain ⟨⟨wq, hq⟩, hw''⟩ := hw'
          subst hw''
          have HJ2 := hid (HJ1.out.upto (Below.of_fr hq))
          clear hq c0 c1 c2 c3 d0 d1
          have HE := hid (ccode_3 HCZ.out (show ¬ (i < 0 ∨ j < i ∨ (d.cnt : Int) < j) by omega))
          have r0 := HJ2.out.r 0 _ rfl
          have r1 := HJ2.out.r 1 _ rfl
          have r2 := HJ2.out.r 2 _ rfl
          have r3 := HJ2.out.r 3 _ rfl
          have z0 := HJ2.out.z 0
          have z1 := HJ2.out.z 1
          have z2 := HJ2.out.z 2
          have z3 := HJ2.out.z 3
          obtain ⟨f, rfl⟩ := Int.eq_ofNat_of_zero_le (show 0 ≤ i by omega)
          obtain ⟨t, rfl⟩ := Int.eq_ofNat_of_zero_le (show 0 ≤ j by omega)
          have HFT : Hid (f ≤ t ∧ t ≤ d.cnt) := hid ⟨by omega, by omega⟩
          have HBU := hid (build_any 38 #[.pointer (some ⟨w.heap.size, 0, none⟩), .pointer (some ⟨w.heap.size + 1, 0, none⟩), .pointer (some ⟨w.heap.size + 1 + 1, 0, none⟩)] (fun args w => Try.call38 args w) wz d.f d.n HO.out.2.1.symm HO.out.2.2.1 HO.out.2.2.2.1 (fun _ => t - f) (fun k m => d.X k (f + m))
            (fun k hk w' hw' => cut1_any w' k w.heap.size (w.heap.size + 1) (w.heap.size + 1 + 1) f t d (HJ2.out.x.below hw') (HD.out.below (HJ2.out.below.trans (hw'.mono HJ2.out.below.size))) hk (HJ2.out.upto hw').p (HJ2.out.upto hw').q HFT.out.1 (by have h1 := HO.out.2.2.2.2.2.1 k hk; have h2 := HFT.out.2; omega) (HCP.out k hk) (by have h1 := HO.out.2.2.2.2.1; have h2 := HFT.out.2; omega)))
          unfold Fmt.v at HBU
          have k0 := HJ2.out.x.c0
          have k1 := HJ2.out.x.c1
          have k2 := HJ2.out.x.c2
          go_wp2_with fail
          refine HBU.out.mono ?_
          rintro e w3 ⟨s, rfl, hdf, hdn, hdl, hdx, hds, hdw, hb3⟩
          have HJ3 := hid (HJ2.out.upto hb3)
          have HDS := hid hds
          have HW := hid hdw
          have HOK : Hid (CutOk d (f : Int) (t : Int) s) := hid ⟨hdf, hdn, fun k hk => ⟨hdl k (by omega), hdx k (by omega)⟩⟩
          have hfs := four_set w3 (w.heap.size + 1 + 1 + 1) (.int .i64 s.f.ch) (.int .i64 s.f.bits) (.int .i64 s.f.rate) (.slice s.a s.n s.cap) HJ3.out.four
          obtain ⟨y0, y1, y2, y3, _⟩ := hfs
          clear r0 r1 r2 r3 z0 z1 z2 z3 k0 k1 k2 hb3 hds hdw hdf hdn hdl hdx
          have r0 := HJ3.out.r 0 _ rfl
          have r1 := HJ3.out.r 1 _ rfl
          have r2 := HJ3.out.r 2 _ rfl
          have r3 := HJ3.out.r 3 _ rfl
          have z0 := HJ3.out.z 0
          have z1 := HJ3.out.z 1
          have z2 := HJ3.out.z 2
          have z3 := HJ3.out.z 3
          unfold Dat.v
          go_wp2_with fail
          refine bodyPost_ret (v := .tuple #[.agg #[.int .i64 s.f.ch, .int .i64 s.f.bits, .int .i64 s.f.rate, .slice s.a s.n s.cap], .int .i64 0]) ?_ rfl ?_
          · rw [results_cell_tmp (p := 6) (u := 7) (ty := 26) (by kernel_rfl)]
            go_simp
          · exact ⟨s, by rw [HE.out]; rfl, HDS.out.set4 HW.out (by have := HJ2.out.lt; omega) HJ3.out.four _ _ _ _, set4_below HJ3.out.below (by omega) _ _ _ _, fun _ => HOK.out, fun h => absurd HE.out h⟩
  · have e0 : (d.chk != 0) = true := bne_iff_ne.2 hck
    have HBN := hid hck
    have hck' := hid hck
    clear hck
    have HE := hid (show ccode d i j = d.chk from ccode_1 hck'.out)
    have r0 := HJ1.out.r 0 _ rfl
    have r1 := HJ1.out.r 1 _ rfl
    have r2 := HJ1.out.r 2 _ rfl
    have r3 := HJ1.out.r 3 _ rfl
    have z0 := HJ1.out.z 0
    have z1 := HJ1.out.z 1
    have z2 := HJ1.out.z 2
    have z3 := HJ1.out.z 3
    have hfs := four_set w1 (w.heap.size + 1 + 1 + 1) (.int .i64 0) (.int .i64 0) (.int .i64 0) (.slice none 0 0) HJ1.out.four
    obtain ⟨y0, y1, y2, y3, _⟩ := hfs
    go_wp2_with fail
    refine bodyPost_ret (v := .tuple #[.agg #[.int .i64 0, .int .i64 0, .int .i64 0, .slice none 0 0], .int .i64 d.chk]) ?_ rfl ?_
    · rw [results_cell_tmp (p := 6) (u := 7) (ty := 26) (by kernel_rfl)]
      go_simp
    · exact ⟨Dat.nil, by rw [HE.out]; rfl, nil_snd _, set4_below HJ1.out.below (by omega) _ _ _ _, fun h => absurd (HE.out.symm.trans h) HBN.out, fun _ => rfl⟩
end Go.Proofs.Ytfidnklppbdebaa.Pcm
