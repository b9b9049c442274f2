/- PcmCuts, walked: true, whatever the sound and the two numbers are. Conditions: the sound lies in memory as its lists, which lie in their room. -/
import Derived.Test.YtfidnklppbdebaaKe
import Derived.Test.YtfidnklppbdebaaKg
import Derived.Test.YtfidnklppbdebaaKn
import Derived.Test.YtfidnklppbdebaaSm
import Derived.Deep.RegionHeld3
namespace Go.Proofs.Ytfidnklppbdebaa.Pcm
open Go.RowKit Gen

theorem cnil : same Dat.nil Dat.nil = true := by rw [same_yes rfl]; exact eqS_all rfl fun i hi => absurd hi (Nat.not_lt_zero i)

theorem way_set {w8 w10 : World} {q B : Nat} {y : Dat} (hb : Below w8.heap.size w8 w10) (h8 : w8.heap.size ≤ q) (hy : Snd w10 y) (hn : NewSnd B w10 y) (hq : q < B) (hex : ∀ i, i < 4 → ∃ v, w10.cell? ⟨q, i, none⟩ = some v) :
    Below w8.heap.size w8 ((((w10.setCell ⟨q, 0, none⟩ (.int .i64 y.f.ch)).setCell ⟨q, 1, none⟩ (.int .i64 y.f.bits)).setCell ⟨q, 2, none⟩ (.int .i64 y.f.rate)).setCell ⟨q, 3, none⟩ (.slice y.a y.n y.cap)) ∧
    Bx ((((w10.setCell ⟨q, 0, none⟩ (.int .i64 y.f.ch)).setCell ⟨q, 1, none⟩ (.int .i64 y.f.bits)).setCell ⟨q, 2, none⟩ (.int .i64 y.f.rate)).setCell ⟨q, 3, none⟩ (.slice y.a y.n y.cap)) q y ∧
    Snd ((((w10.setCell ⟨q, 0, none⟩ (.int .i64 y.f.ch)).setCell ⟨q, 1, none⟩ (.int .i64 y.f.bits)).setCell ⟨q, 2, none⟩ (.int .i64 y.f.rate)).setCell ⟨q, 3, none⟩ (.slice y.a y.n y.cap)) y := by
  obtain ⟨y0, y1, y2, y3, _⟩ := four_set w10 q (.int .i64 y.f.ch) (.int .i64 y.f.bits) (.int .i64 y.f.rate) (.slice y.a y.n y.cap) hex
  exact ⟨set4_below hb h8 _ _ _ _, ⟨y0, y1, y2, y3⟩, hy.set4 hn hq hex _ _ _ _⟩
theorem four_ex {W : World} {q : Nat} {v0 v1 v2 v3 : Value} (h0 : W.cell? ⟨q, 0, none⟩ = some v0) (h1 : W.cell? ⟨q, 1, none⟩ = some v1) (h2 : W.cell? ⟨q, 2, none⟩ = some v2) (h3 : W.cell? ⟨q, 3, none⟩ = some v3) : ∀ i, i < 4 → ∃ v, W.cell? ⟨q, i, none⟩ = some v := fun i hi => by
  match i, hi with
  | 0, _ => exact ⟨_, h0⟩
  | 1, _ => exact ⟨_, h1⟩
  | 2, _ => exact ⟨_, h2⟩
  | 3, _ => exact ⟨_, h3⟩

set_option maxHeartbeats 3200000 in
set_option maxRecDepth 100000 in
theorem cuts_walk (w : World) (d : Dat) (hd : Snd w d) (hcp : ∀ k, k < d.n → d.ln k ≤ d.lc k) (i j : Int) : Calls Try.prog 4 #[d.v, .int .i64 i, .int .i64 j] w fun e w' => e = .returned (.bool true) ∧ Below w.heap.size w w' := by
  have HSM := hid fun w' (hw : Below w.heap.size w w') => small_any w' d (hd.below hw) 400
  have HCU := hid fun w' (hw : Below w.heap.size w w') i j => cut_new w' d (hd.below hw) hcp i j
  have HRC := hid fun w' (hw : Below w.heap.size w w') i j => rcut_any w' d (hd.below hw) hcp i j
  have HCN := hid fun w' (hw : Below w.heap.size w w') => count_any w' d (hd.below hw)
  have HRS := hid fun (w' : World) (x y : Dat) (h : Snd w' x) (h' : Snd w' y) => rsame_any w' x y h h'
  have HJN := hid fun (w' : World) (x y : Dat) (h : Snd w' x) (h' : Snd w' y) => join_any w' x y h h'
  have HEND : Hid (∀ w', Below w.heap.size w w' → Calls Try.prog 9 #[] w' fun e w'' => e = .returned (.bool true) ∧ Below w.heap.size w w'') := hid fun w' hw' => (known_true w').mono fun e w'' h => ⟨h.1, hw'.trans (h.2.mono hw'.size)⟩
  have HB0 := hid (below_new w (.cells #[.int .i64 d.f.ch, .int .i64 d.f.bits, .int .i64 d.f.rate, .slice d.a d.n d.cap] 26))
  have HX0 := hid (bx_new w d)
  have HD0 := hid hd
  clear hd hcp
  unfold Dat.v at HSM HCU HRC HCN HRS HJN
  show Calls Try.prog 4 #[.agg #[.int .i64 d.f.ch, .int .i64 d.f.bits, .int .i64 d.f.rate, .slice d.a d.n d.cap], .int .i64 i, .int .i64 j] w _
  go_enter Try.func4, Try.ntmps4
  go_wp2_with fail
  refine (HSM.out _ HB0.out).mono ?_
  rintro e w1 ⟨s1, rfl, _, hb1⟩
  have HB1 := hid (HB0.out.trans (hb1.mono HB0.out.size))
  have HX1 := hid (HX0.out.below hb1)
  clear hb1
  cases s1 with
  | false =>
    go_wp2_with fail
    refine (HEND.out _ HB1.out).mono ?_
    rintro e wk ⟨rfl, hbk⟩
    have HBK := hid hbk
    clear hbk
    go_wp2_with fail
    go_ret
    exact ⟨rfl, HBK.out⟩
  | true =>
    obtain ⟨a0, a1, a2, a3⟩ := HX1.out
    go_wp2_with fail
    refine (HCU.out _ HB1.out i j).mono ?_
    rintro e w2 ⟨s, rfl, hs, hb2, hok, hno⟩
    have HB2 := hid (HB1.out.trans (hb2.mono HB1.out.size))
    have HX2 := hid (HX1.out.below hb2)
    have hw3 := below_new w2 (.cells #[.int .i64 s.f.ch, .int .i64 s.f.bits, .int .i64 s.f.rate, .slice s.a s.n s.cap] 26)
    have HB3 := hid (HB2.out.trans (hw3.mono HB2.out.size))
    have HX3 := hid (HX2.out.below hw3)
    have HZ3 := hid (bx_new w2 s)
    have HS3 := hid (hs.below hw3)
    have HOK := hid hok
    have HNO := hid hno
    clear hb2 hs hw3 hok hno
    clear a0 a1 a2 a3
    obtain ⟨a0, a1, a2, a3⟩ := HX3.out
    unfold Dat.v
    go_wp2_with fail
    refine (HRC.out _ HB3.out i j).mono ?_
    rintro e w4 ⟨s', rfl, hs', hb4, hok', hno'⟩
    have HB4 := hid (HB3.out.trans (hb4.mono HB3.out.size))
    have hw5 := below_new w4 (.cells #[.int .i64 s'.f.ch, .int .i64 s'.f.bits, .int .i64 s'.f.rate, .slice s'.a s'.n s'.cap] 26)
    have HB5 := hid (HB4.out.trans (hw5.mono HB4.out.size))
    have HX5 := hid ((HX3.out.below hb4).below hw5)
    have HZ5 := hid ((HZ3.out.below hb4).below hw5)
    have HY5 := hid (bx_new w4 s')
    have HS5 := hid ((HS3.out.below hb4).below hw5)
    have HT5 := hid (hs'.below hw5)
    have HSAME : Hid (same s s' = true) := hid (by
      by_cases hq : ccode d i j = 0
      · exact cuts_same (HOK.out hq).1 (hok' hq)
      · rw [HNO.out hq, hno' hq]; exact cnil)
    generalize hcg : ccode d i j = c at *
    have HCG := hid hcg
    have hcc : (c != c) = false := by simp
    clear hb4 hw5 hs' hok' hno' hcg
    clear a0 a1 a2 a3
    obtain ⟨b0, b1, b2, b3⟩ := HZ5.out
    obtain ⟨e0, e1, e2, e3⟩ := HY5.out
    unfold Dat.v
    go_wp2_with fail
    refine (HRS.out _ s s' HS5.out HT5.out).mono ?_
    rintro e w6 ⟨rfl, hb6⟩
    rw [HSAME.out]
    have HB6 := hid (HB5.out.trans (hb6.mono HB5.out.size))
    have HX6 := hid (HX5.out.below hb6)
    have HZ6 := hid (HZ5.out.below hb6)
    have HS6 := hid (HS5.out.below hb6)
    clear hb6 hcc HSAME HT5 HY5 HNO
    clear b0 b1 b2 b3 e0 e1 e2 e3
    by_cases h0 : c = 0
    · have e0 : (c != 0) = false := by rw [h0]; rfl
      obtain ⟨hck, hi0, hij, hjc⟩ := ccode_ok (HCG.out.trans h0)
      obtain ⟨f, rfl⟩ := Int.eq_ofNat_of_zero_le hi0
      obtain ⟨t, rfl⟩ := Int.eq_ofNat_of_zero_le (show 0 ≤ j by omega)
      have HIN : Hid (d.chk = 0 ∧ f ≤ t ∧ t ≤ d.cnt) := hid ⟨hck, by omega, by omega⟩
      have HSC := hid (HOK.out h0).1
      have HCX := hid (ccode_3 (i := 0) (j := (f : Int)) hck (by omega))
      have HCY := hid (ccode_3 (i := (t : Int)) (j := (d.cnt : Int)) hck (by omega))
      clear hck hi0 hij hjc h0
      obtain ⟨a0, a1, a2, a3⟩ := HX6.out
      go_wp2_with fail
      refine (HCU.out _ HB6.out 0 (f : Int)).mono ?_
      rintro e w7 ⟨x, rfl, hx, hb7, hokx, _⟩
      rw [HCX.out] at hokx ⊢
      have HB7 := hid (HB6.out.trans (hb7.mono HB6.out.size))
      have hw8 := below_new w7 (.cells #[.int .i64 x.f.ch, .int .i64 x.f.bits, .int .i64 x.f.rate, .slice x.a x.n x.cap] 26)
      have HB8 := hid (HB7.out.trans (hw8.mono HB7.out.size))
      have HX8 := hid ((HX6.out.below hb7).below hw8)
      have HZ8 := hid ((HZ6.out.below hb7).below hw8)
      have HY8 := hid (bx_new w7 x)
      have HS8 := hid ((HS6.out.below hb7).below hw8)
      have HT8 := hid (hx.below hw8)
      have HXC := hid (hokx rfl).1
      clear hb7 hw8 hx hokx e0
      clear a0 a1 a2 a3
      unfold Dat.v
      go_wp2_with fail
      generalize hW8 : w7.alloc (.cells #[.int .i64 x.f.ch, .int .i64 x.f.bits, .int .i64 x.f.rate, .slice x.a x.n x.cap] 26) = w8 at *
      go_cut [13, 14] (fun p c wx => ∃ (q : Nat) (y : Dat), p = .pointer (some ⟨q, 0, none⟩) ∧ c = .int .i64 0 ∧ Below w8.heap.size w8 wx ∧ Bx wx q y ∧ Snd wx y ∧ CutOk d (t : Int) (d.cnt : Int) y)
      case first =>
        have HS : Hid (∀ w', Below w8.heap.size w8 w' → (fun w' => w'.cell? ⟨w.heap.size, 0, none⟩ = some (.int .i64 d.f.ch) ∧ w'.cell? ⟨w.heap.size, 1, none⟩ = some (.int .i64 d.f.bits) ∧ w'.cell? ⟨w.heap.size, 2, none⟩ = some (.int .i64 d.f.rate) ∧ w'.cell? ⟨w.heap.size, 3, none⟩ = some (.slice d.a d.n d.cap)) w') := hid fun w' hw' => ⟨(HX8.out.below hw').c0, (HX8.out.below hw').c1, (HX8.out.below hw').c2, (HX8.out.below hw').c3⟩
        have bd : Below w8.heap.size w8 w8.drew := ⟨rfl, rfl, rfl, Nat.le_refl _, fun _ _ => rfl⟩
        have bda : Below w8.heap.size w8 ((w8.alloc (.cells #[.int .i64 0, .int .i64 0, .int .i64 0, .slice none 0 0] 26)).drew) := (below_new w8 _).drew
        have S1 := HS.out _ bd
        have S1a := HS.out _ bda
        dsimp only at S1
        have p0 : ((w8.alloc (.cells #[.int .i64 0, .int .i64 0, .int .i64 0, .slice none 0 0] 26)).drew).cell? ⟨w8.heap.size, 0, none⟩ = some (.int .i64 0) := ((World.cell?_alloc_at _ _ _ _ rfl).trans rfl)
        have m0 : ((w8.alloc (.cells #[.int .i64 0, .int .i64 0, .int .i64 0, .slice none 0 0] 26)).drew).frozen? ⟨w8.heap.size, 0, none⟩ = false := fz_new _ _ _ _ _ rfl
        have p1 : ((w8.alloc (.cells #[.int .i64 0, .int .i64 0, .int .i64 0, .slice none 0 0] 26)).drew).cell? ⟨w8.heap.size, 1, none⟩ = some (.int .i64 0) := ((World.cell?_alloc_at _ _ _ _ rfl).trans rfl)
        have m1 : ((w8.alloc (.cells #[.int .i64 0, .int .i64 0, .int .i64 0, .slice none 0 0] 26)).drew).frozen? ⟨w8.heap.size, 1, none⟩ = false := fz_new _ _ _ _ _ rfl
        have p2 : ((w8.alloc (.cells #[.int .i64 0, .int .i64 0, .int .i64 0, .slice none 0 0] 26)).drew).cell? ⟨w8.heap.size, 2, none⟩ = some (.int .i64 0) := ((World.cell?_alloc_at _ _ _ _ rfl).trans rfl)
        have m2 : ((w8.alloc (.cells #[.int .i64 0, .int .i64 0, .int .i64 0, .slice none 0 0] 26)).drew).frozen? ⟨w8.heap.size, 2, none⟩ = false := fz_new _ _ _ _ _ rfl
        have p3 : ((w8.alloc (.cells #[.int .i64 0, .int .i64 0, .int .i64 0, .slice none 0 0] 26)).drew).cell? ⟨w8.heap.size, 3, none⟩ = some (.slice none 0 0) := ((World.cell?_alloc_at _ _ _ _ rfl).trans rfl)
        have m3 : ((w8.alloc (.cells #[.int .i64 0, .int .i64 0, .int .i64 0, .slice none 0 0] 26)).drew).frozen? ⟨w8.heap.size, 3, none⟩ = false := fz_new _ _ _ _ _ rfl
        go_region_held3 (fun w' => w'.cell? ⟨w.heap.size, 0, none⟩ = some (.int .i64 d.f.ch) ∧ w'.cell? ⟨w.heap.size, 1, none⟩ = some (.int .i64 d.f.bits) ∧ w'.cell? ⟨w.heap.size, 2, none⟩ = some (.int .i64 d.f.rate) ∧ w'.cell? ⟨w.heap.size, 3, none⟩ = some (.slice d.a d.n d.cap))
          (first | with_reducible exact S1 | with_reducible exact S1a | with_reducible exact S2 | with_reducible exact S2a | with_reducible exact S3 | with_reducible exact S3a | with_reducible exact S3b | with_reducible exact HS.out _ (set4_below b10 (Nat.le_refl _) _ _ _ _) | with_reducible exact HS.out _ (set4_below b10 b9.size _ _ _ _) | with_reducible exact HS.out _ (set4_below b10 b10.size _ _ _ _) | go_keep)
          ((first
            | (go_at_call 14; (with_reducible refine (HCN.out w8.drew (HB8.out.trans (bd.mono HB8.out.size))).mono ?_); rintro e w9 ⟨rfl, hb9⟩; have b9 := bd.trans hb9; have b9a := b9.alloc b9.size (.cells #[.int .i64 0, .int .i64 0, .int .i64 0, .slice none 0 0] 26); have S2 := HS.out _ b9; have S2a := HS.out _ b9a)
            | (go_at_call 14; (with_reducible refine (HCN.out ((w8.alloc (.cells #[.int .i64 0, .int .i64 0, .int .i64 0, .slice none 0 0] 26)).drew) (HB8.out.trans (bda.mono HB8.out.size))).mono ?_); rintro e w9 ⟨rfl, hb9⟩; have b9 := bda.trans (hb9.mono bda.size); have S2 := HS.out _ b9; have q0 : w9.cell? ⟨w8.heap.size, 0, none⟩ = some (.int .i64 0) := (hb9.cell (p := ⟨w8.heap.size, 0, none⟩) (World.block_lt_of_cell? _ _ p0)).trans p0; have g0 : w9.frozen? ⟨w8.heap.size, 0, none⟩ = false := (hb9.frozen (p := ⟨w8.heap.size, 0, none⟩) (World.block_lt_of_cell? _ _ p0)).trans m0; have q1 : w9.cell? ⟨w8.heap.size, 1, none⟩ = some (.int .i64 0) := (hb9.cell (p := ⟨w8.heap.size, 1, none⟩) (World.block_lt_of_cell? _ _ p1)).trans p1; have g1 : w9.frozen? ⟨w8.heap.size, 1, none⟩ = false := (hb9.frozen (p := ⟨w8.heap.size, 1, none⟩) (World.block_lt_of_cell? _ _ p1)).trans m1; have q2 : w9.cell? ⟨w8.heap.size, 2, none⟩ = some (.int .i64 0) := (hb9.cell (p := ⟨w8.heap.size, 2, none⟩) (World.block_lt_of_cell? _ _ p2)).trans p2; have g2 : w9.frozen? ⟨w8.heap.size, 2, none⟩ = false := (hb9.frozen (p := ⟨w8.heap.size, 2, none⟩) (World.block_lt_of_cell? _ _ p2)).trans m2; have q3 : w9.cell? ⟨w8.heap.size, 3, none⟩ = some (.slice none 0 0) := (hb9.cell (p := ⟨w8.heap.size, 3, none⟩) (World.block_lt_of_cell? _ _ p3)).trans p3; have g3 : w9.frozen? ⟨w8.heap.size, 3, none⟩ = false := (hb9.frozen (p := ⟨w8.heap.size, 3, none⟩) (World.block_lt_of_cell? _ _ p3)).trans m3; have hi := q0)
            | (go_at_call 16; (fail_if_success have := q0); (with_reducible refine (HCU.out w9 (HB8.out.trans (b9.mono HB8.out.size)) (t : Int) (d.cnt : Int)).mono ?_); rintro e w10 ⟨y, rfl, hy, hb10, hoky, hnoy⟩; have b10 := b9.trans (hb10.mono b9.size); rw [HCY.out] at hoky ⊢; clear hnoy; have HOY := hid (hoky rfl); have HYS := hid hy; clear hoky hy; have S3 := HS.out _ b10; have b10a := b10.alloc b10.size (.cells #[.int .i64 0, .int .i64 0, .int .i64 0, .slice none 0 0] 26); have S3a := HS.out _ b10a; have b10b := b10.alloc b10.size (.cells #[.int .i64 y.f.ch, .int .i64 y.f.bits, .int .i64 y.f.rate, .slice y.a y.n y.cap] 26); have S3b := HS.out _ b10b; (unfold Dat.v))
            | (go_at_call 16; (with_reducible refine (HCU.out (w9.alloc (.cells #[.int .i64 0, .int .i64 0, .int .i64 0, .slice none 0 0] 26)) (HB8.out.trans (b9a.mono HB8.out.size)) (t : Int) (d.cnt : Int)).mono ?_); rintro e w10 ⟨y, rfl, hy, hb10, hoky, hnoy⟩; have b10 := b9a.trans (hb10.mono b9a.size); rw [HCY.out] at hoky ⊢; clear hnoy; have HOY := hid (hoky rfl); have HYS := hid hy; clear hoky hy; have S3 := HS.out _ b10; have b10a := b10.alloc b10.size (.cells #[.int .i64 0, .int .i64 0, .int .i64 0, .slice none 0 0] 26); have S3a := HS.out _ b10a; have b10b := b10.alloc b10.size (.cells #[.int .i64 y.f.ch, .int .i64 y.f.bits, .int .i64 y.f.rate, .slice y.a y.n y.cap] 26); have S3b := HS.out _ b10b; have hz9 : w9.heap.size < (w9.alloc (.cells #[.int .i64 0, .int .i64 0, .int .i64 0, .slice none 0 0] 26)).heap.size := (by simp); have u0 : w10.cell? ⟨w9.heap.size, 0, none⟩ = some (.int .i64 0) := (hb10.cell (p := ⟨w9.heap.size, 0, none⟩) hz9).trans ((World.cell?_alloc_at _ _ _ _ rfl).trans rfl); have o0 : w10.frozen? ⟨w9.heap.size, 0, none⟩ = false := (hb10.frozen (p := ⟨w9.heap.size, 0, none⟩) hz9).trans (fz_new _ _ _ _ _ rfl); have u1 : w10.cell? ⟨w9.heap.size, 1, none⟩ = some (.int .i64 0) := (hb10.cell (p := ⟨w9.heap.size, 1, none⟩) hz9).trans ((World.cell?_alloc_at _ _ _ _ rfl).trans rfl); have o1 : w10.frozen? ⟨w9.heap.size, 1, none⟩ = false := (hb10.frozen (p := ⟨w9.heap.size, 1, none⟩) hz9).trans (fz_new _ _ _ _ _ rfl); have u2 : w10.cell? ⟨w9.heap.size, 2, none⟩ = some (.int .i64 0) := (hb10.cell (p := ⟨w9.heap.size, 2, none⟩) hz9).trans ((World.cell?_alloc_at _ _ _ _ rfl).trans rfl); have o2 : w10.frozen? ⟨w9.heap.size, 2, none⟩ = false := (hb10.frozen (p := ⟨w9.heap.size, 2, none⟩) hz9).trans (fz_new _ _ _ _ _ rfl); have u3 : w10.cell? ⟨w9.heap.size, 3, none⟩ = some (.slice none 0 0) := (hb10.cell (p := ⟨w9.heap.size, 3, none⟩) hz9).trans ((World.cell?_alloc_at _ _ _ _ rfl).trans rfl); have o3 : w10.frozen? ⟨w9.heap.size, 3, none⟩ = false := (hb10.frozen (p := ⟨w9.heap.size, 3, none⟩) hz9).trans (fz_new _ _ _ _ _ rfl); (unfold Dat.v))
            | (go_at_call 16; (with_reducible refine (HCU.out w9 (HB8.out.trans (b9.mono HB8.out.size)) (t : Int) (d.cnt : Int)).mono ?_); rintro e w10 ⟨y, rfl, hy, hb10, hoky, hnoy⟩; have b10 := b9.trans (hb10.mono b9.size); rw [HCY.out] at hoky ⊢; clear hnoy; have HOY := hid (hoky rfl); have HYS := hid hy; clear hoky hy; have S3 := HS.out _ b10; have b10a := b10.alloc b10.size (.cells #[.int .i64 0, .int .i64 0, .int .i64 0, .slice none 0 0] 26); have S3a := HS.out _ b10a; have b10b := b10.alloc b10.size (.cells #[.int .i64 y.f.ch, .int .i64 y.f.bits, .int .i64 y.f.rate, .slice y.a y.n y.cap] 26); have S3b := HS.out _ b10b; have u0 : w10.cell? ⟨w8.heap.size, 0, none⟩ = some (.int .i64 0) := (hb10.cell (p := ⟨w8.heap.size, 0, none⟩) (World.block_lt_of_cell? _ _ q0)).trans q0; have o0 : w10.frozen? ⟨w8.heap.size, 0, none⟩ = false := (hb10.frozen (p := ⟨w8.heap.size, 0, none⟩) (World.block_lt_of_cell? _ _ q0)).trans g0; have u1 : w10.cell? ⟨w8.heap.size, 1, none⟩ = some (.int .i64 0) := (hb10.cell (p := ⟨w8.heap.size, 1, none⟩) (World.block_lt_of_cell? _ _ q1)).trans q1; have o1 : w10.frozen? ⟨w8.heap.size, 1, none⟩ = false := (hb10.frozen (p := ⟨w8.heap.size, 1, none⟩) (World.block_lt_of_cell? _ _ q1)).trans g1; have u2 : w10.cell? ⟨w8.heap.size, 2, none⟩ = some (.int .i64 0) := (hb10.cell (p := ⟨w8.heap.size, 2, none⟩) (World.block_lt_of_cell? _ _ q2)).trans q2; have o2 : w10.frozen? ⟨w8.heap.size, 2, none⟩ = false := (hb10.frozen (p := ⟨w8.heap.size, 2, none⟩) (World.block_lt_of_cell? _ _ q2)).trans g2; have u3 : w10.cell? ⟨w8.heap.size, 3, none⟩ = some (.slice none 0 0) := (hb10.cell (p := ⟨w8.heap.size, 3, none⟩) (World.block_lt_of_cell? _ _ q3)).trans q3; have o3 : w10.frozen? ⟨w8.heap.size, 3, none⟩ = false := (hb10.frozen (p := ⟨w8.heap.size, 3, none⟩) (World.block_lt_of_cell? _ _ q3)).trans g3; (unfold Dat.v))))
        · go_wp2_with fail
          go_meet
          exact ⟨w10.heap.size, y, rfl, rfl, b10b, bx_new w10 y, HYS.out.below (below_new _ _), HOY.out.1⟩
        · have hf := way_set b10 b9.size HYS.out HOY.out.2 (by simp) (four_ex u0 u1 u2 u3)
          have HF := hid hf
          clear hf
          go_wp2_with fail
          go_meet
          exact ⟨w9.heap.size, y, rfl, rfl, HF.out.1, HF.out.2.1, HF.out.2.2, HOY.out.1⟩
        · have hf := way_set b10 (Nat.le_refl _) HYS.out HOY.out.2 (by have h1 := hb9.size; simp at h1; omega) (four_ex u0 u1 u2 u3)
          have HF := hid hf
          clear hf
          go_wp2_with fail
          go_meet
          exact ⟨w8.heap.size, y, rfl, rfl, HF.out.1, HF.out.2.1, HF.out.2.2, HOY.out.1⟩
      case rest =>
        obtain ⟨q, y, rfl, rfl, hb11, hby, hsy, hoy⟩ := hcut
        have HB11 := hid (HB8.out.trans (hb11.mono HB8.out.size))
        have HX11 := hid (HX8.out.below hb11)
        have HZ11 := hid (HZ8.out.below hb11)
        have HY11 := hid (HY8.out.below hb11)
        have HS11 := hid (HS8.out.below hb11)
        have HT11 := hid (HT8.out.below hb11)
        have HQ11 := hid hby
        have HU11 := hid hsy
        have HPS := hid (parts_same HIN.out.1 HIN.out.2.1 HIN.out.2.2 HXC.out HSC.out hoy)
        clear hb11 hby hsy hoy
        obtain ⟨a0, a1, a2, a3⟩ := HY11.out
        obtain ⟨b0, b1, b2, b3⟩ := HZ11.out
        go_wp2_with fail
        refine (HJN.out _ x s HT11.out HS11.out).mono ?_
        rintro e w12 ⟨z, rfl, hz, hb12, hokz, _⟩
        rw [HPS.out.1] at hokz ⊢
        have HB12 := hid (HB11.out.trans (hb12.mono HB11.out.size))
        have hw13 := below_new w12 (.cells #[.int .i64 z.f.ch, .int .i64 z.f.bits, .int .i64 z.f.rate, .slice z.a z.n z.cap] 26)
        have HB13 := hid (HB12.out.trans (hw13.mono HB12.out.size))
        have HX13 := hid ((HX11.out.below hb12).below hw13)
        have HQ13 := hid ((HQ11.out.below hb12).below hw13)
        have HU13 := hid ((HU11.out.below hb12).below hw13)
        have HV13 := hid (bx_new w12 z)
        have HZS := hid (hz.below hw13)
        have HP2 := hid (HPS.out.2 z (hokz rfl))
        clear hb12 hw13 hz hokz
        clear a0 a1 a2 a3 b0 b1 b2 b3
        obtain ⟨a0, a1, a2, a3⟩ := HV13.out
        obtain ⟨b0, b1, b2, b3⟩ := HQ13.out
        unfold Dat.v
        go_wp2_with fail
        refine (HJN.out _ z y HZS.out HU13.out).mono ?_
        rintro e w14 ⟨v, rfl, hv, hb14, hokv, _⟩
        rw [HP2.out.1] at hokv ⊢
        have HB14 := hid (HB13.out.trans (hb14.mono HB13.out.size))
        have hw15 := below_new w14 (.cells #[.int .i64 v.f.ch, .int .i64 v.f.bits, .int .i64 v.f.rate, .slice v.a v.n v.cap] 26)
        have HB15 := hid (HB14.out.trans (hw15.mono HB14.out.size))
        have HX15 := hid ((HX13.out.below hb14).below hw15)
        have HV15 := hid (bx_new w14 v)
        have HVS := hid (hv.below hw15)
        have HSM2 := hid (HP2.out.2 v (hokv rfl))
        clear hb14 hw15 hv hokv
        clear a0 a1 a2 a3 b0 b1 b2 b3
        obtain ⟨a0, a1, a2, a3⟩ := HX15.out
        obtain ⟨b0, b1, b2, b3⟩ := HV15.out
        unfold Dat.v
        go_wp2_with fail
        refine (HRS.out _ v d HVS.out (HD0.out.below HB15.out)).mono ?_
        rintro e w16 ⟨rfl, hb16⟩
        rw [HSM2.out]
        have HB16 := hid (HB15.out.trans (hb16.mono HB15.out.size))
        clear hb16
        clear a0 a1 a2 a3 b0 b1 b2 b3
        go_wp2_with fail
        refine (HEND.out _ HB16.out).mono ?_
        rintro e wk ⟨rfl, hbk⟩
        have HBK := hid hbk
        clear hbk
        go_wp2_with fail
        go_ret
        exact ⟨rfl, HBK.out⟩
    · have e0 : (c != 0) = true := bne_iff_ne.2 h0
      clear h0
      go_wp2_with fail
      refine (HEND.out _ HB6.out).mono ?_
      rintro e wk ⟨rfl, hbk⟩
      have HBK := hid hbk
      clear hbk
      go_wp2_with fail
      go_ret
      exact ⟨rfl, HBK.out⟩
end Go.Proofs.Ytfidnklppbdebaa.Pcm
