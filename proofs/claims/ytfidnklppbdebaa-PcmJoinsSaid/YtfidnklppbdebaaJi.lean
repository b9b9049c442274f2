/- PcmJoins, walked: true, whatever the two sounds and the number are. Conditions: both lie in memory as their lists. -/
import Derived.Test.YtfidnklppbdebaaJg
import Derived.Deep.RegionHeld3
import Derived.Test.YtfidnklppbdebaaKn
import Derived.Test.YtfidnklppbdebaaSm
namespace Go.Proofs.Ytfidnklppbdebaa.Pcm
open Go.RowKit Gen

theorem same_nil : same Dat.nil Dat.nil = true := by rw [same_yes rfl]; exact eqS_all rfl fun i hi => absurd hi (Nat.not_lt_zero i)
theorem joined_same {a b d d' : Dat} (h : Joined a b d) (h' : Joined a b d') : same d d' = true := by
  rw [same_yes (h.1.trans h'.1.symm)]
  refine eqS_all (h.2.1.trans h'.2.1.symm) fun i hi => ?_
  obtain ⟨l, x⟩ := h.2.2 i hi
  obtain ⟨l', x'⟩ := h'.2.2 i (by rw [h'.2.1, ← h.2.1]; exact hi)
  unfold eqL
  rw [l, x, l', x']
  exact eqI_all fun _ _ => rfl
theorem nought_same {f : Fmt} {m : Nat} {d d' : Dat} (h : d.f = f ∧ (d.n : Int) = f.ch ∧ ∀ i, i < d.n → d.ln i = m ∧ d.X i = fun _ => 0) (h' : d'.f = f ∧ (d'.n : Int) = f.ch ∧ ∀ i, i < d'.n → d'.ln i = m ∧ d'.X i = fun _ => 0) : same d d' = true := by
  rw [same_yes (h.1.trans h'.1.symm)]
  have hn : d.n = d'.n := by have := h.2.1; have := h'.2.1; omega
  refine eqS_all hn fun i hi => ?_
  obtain ⟨l, x⟩ := h.2.2 i hi
  obtain ⟨l', x'⟩ := h'.2.2 i (by omega)
  unfold eqL
  rw [l, x, l', x']
  exact eqI_all fun _ _ => rfl
theorem cnt_small {d : Dat} (h : d.n ≤ 9 ∧ ∀ i, i < d.n → d.ln i ≤ 300) : d.cnt ≤ 300 := by
  unfold Dat.cnt
  split
  · omega
  · exact h.2 0 (by omega)
theorem jcode_small {a b : Dat} (h : a.cnt ≤ 300) (h' : b.cnt ≤ 300) : jcode a b = both a b := by
  by_cases hb : both a b = 0
  · rw [jcode_3 hb (by omega), hb]
  · exact jcode_1 hb
/-- The document's Silence once more. -/
theorem rsil (w : World) (f : Fmt) (n : Int) (hr : f.right) (h0 : 0 ≤ n) (h1 : n ≤ 1048576) : Calls Try.prog 22 #[f.v, .int .i64 n] w fun e w' => ∃ d : Dat, e = .returned d.v ∧ Snd w' d ∧ Below w.heap.size w w' ∧ (d.f = f ∧ (d.n : Int) = f.ch ∧ ∀ i, i < d.n → d.ln i = n.toNat ∧ d.X i = fun _ => 0) := by
  obtain ⟨c, hc⟩ := Int.eq_ofNat_of_zero_le (show 0 ≤ f.ch from by have := hr.1.1; omega)
  obtain ⟨m, rfl⟩ := Int.eq_ofNat_of_zero_le h0
  have h8 := hr.1.2
  refine (rsilence_any w f c m hc (by omega) (by omega)).mono ?_
  rintro e w' ⟨d, rfl, hs, _, hb, hf, hn, hl⟩
  exact ⟨d, rfl, hs, hb, hf, by rw [hn, hc], fun i hi => by rw [Int.toNat_natCast]; exact hl i hi⟩

set_option maxHeartbeats 3200000 in
set_option maxRecDepth 100000 in
theorem joins_walk (w : World) (a b : Dat) (ha : Snd w a) (hb : Snd w b) (n : Int) (HRJ0 : ∀ w', Snd w' a → Snd w' b → Calls Try.prog 20 #[a.v, b.v] w' (SndPost w' (both a b) (Joined a b))) : Calls Try.prog 5 #[a.v, b.v, .int .i64 n] w fun e w' => e = .returned (.bool true) ∧ Below w.heap.size w w' := by
  have HSM := hid fun w' (hw : Below w.heap.size w w') => small_any w' a (ha.below hw) 300
  have HSN := hid fun w' (hw : Below w.heap.size w w') => small_any w' b (hb.below hw) 300
  have HJO := hid fun w' (hw : Below w.heap.size w w') => join_any w' a b (ha.below hw) (hb.below hw)
  have HRJ := hid fun w' (hw : Below w.heap.size w w') => HRJ0 w' (ha.below hw) (hb.below hw)
  have HSI := hid fun w' => silence_any w' a.f n
  have HRR := hid fun w' => rright_any a.f w'
  have HRS := hid fun (w' : World) (d d' : Dat) (h : Snd w' d) (h' : Snd w' d') => rsame_any w' d d' h h'
  have HLI := hid fun w' => rsil w' a.f n
  obtain ⟨hb0, hx0, hy0⟩ := boxes w a b
  have HB0 := hid hb0
  have HX0 := hid hx0
  have HY0 := hid hy0
  clear hb0 hx0 hy0 ha hb HRJ0
  unfold Dat.v at HSM HSN HJO HRJ HRS
  unfold Fmt.v at HSI HRR HLI
  show Calls Try.prog 5 #[.agg #[.int .i64 a.f.ch, .int .i64 a.f.bits, .int .i64 a.f.rate, .slice a.a a.n a.cap], .agg #[.int .i64 b.f.ch, .int .i64 b.f.bits, .int .i64 b.f.rate, .slice b.a b.n b.cap], .int .i64 n] w _
  go_enter Try.func5, Try.ntmps5
  go_wp2_with fail
  refine (HSM.out _ HB0.out).mono ?_
  rintro e w1 ⟨s1, rfl, hs1, hb1⟩
  have HB1 := hid (HB0.out.trans (hb1.mono HB0.out.size))
  have HX1 := hid (HX0.out.below hb1)
  have HY1 := hid (HY0.out.below hb1)
  have HS1 := hid hs1
  clear hb1 hs1
  cases s1 with
  | false =>
    go_wp2_with fail
    refine (known_true w1).mono ?_
    rintro e w2 ⟨rfl, hb2⟩
    have HB2 := hid (HB1.out.trans (hb2.mono HB1.out.size))
    clear hb2
    go_wp2_with fail
    go_ret
    exact ⟨rfl, HB2.out⟩
  | true =>
    obtain ⟨b0, b1, b2, b3⟩ := HY1.out
    go_wp2_with fail
    refine (HSN.out _ HB1.out).mono ?_
    rintro e w2 ⟨s2, rfl, hs2, hb2⟩
    have HB2 := hid (HB1.out.trans (hb2.mono HB1.out.size))
    have HX2 := hid (HX1.out.below hb2)
    have HY2 := hid (HY1.out.below hb2)
    have HS2 := hid hs2
    clear hb2 b0 b1 b2 b3 hs2
    cases s2 with
    | false =>
      go_wp2_with fail
      refine (known_true w2).mono ?_
      rintro e w3 ⟨rfl, hb3⟩
      have HB3 := hid (HB2.out.trans (hb3.mono HB2.out.size))
      clear hb3
      go_wp2_with fail
      go_ret
      exact ⟨rfl, HB3.out⟩
    | true =>
      have HJC := hid (jcode_small (cnt_small (HS1.out trivial)) (cnt_small (HS2.out rfl)))
      clear HS1 HS2
      rw [HJC.out] at HJO
      obtain ⟨a0, a1, a2, a3⟩ := HX2.out
      obtain ⟨b0, b1, b2, b3⟩ := HY2.out
      go_wp2_with fail
      refine (HJO.out _ HB2.out).mono ?_
      rintro e w3 ⟨d, rfl, hd, hb3, hok, hno⟩
      have HB3 := hid (HB2.out.trans (hb3.mono HB2.out.size))
      have HX3 := hid (HX2.out.below hb3)
      have HY3 := hid (HY2.out.below hb3)
      have HB4 := hid (HB3.out.trans ((below_new w3 (.cells #[.int .i64 d.f.ch, .int .i64 d.f.bits, .int .i64 d.f.rate, .slice d.a d.n d.cap] 26)).mono HB3.out.size))
      have HX4 := hid (HX3.out.below (below_new w3 (.cells #[.int .i64 d.f.ch, .int .i64 d.f.bits, .int .i64 d.f.rate, .slice d.a d.n d.cap] 26)))
      have HY4 := hid (HY3.out.below (below_new w3 (.cells #[.int .i64 d.f.ch, .int .i64 d.f.bits, .int .i64 d.f.rate, .slice d.a d.n d.cap] 26)))
      have HZ4 := hid (bx_new w3 d)
      have HD := hid (hd.below (below_new w3 (.cells #[.int .i64 d.f.ch, .int .i64 d.f.bits, .int .i64 d.f.rate, .slice d.a d.n d.cap] 26)))
      have HOK := hid hok
      have HNO := hid hno
      clear hb3 hok hno hd a0 a1 a2 a3 b0 b1 b2 b3
      obtain ⟨a0, a1, a2, a3⟩ := HX4.out
      obtain ⟨b0, b1, b2, b3⟩ := HY4.out
      unfold Dat.v
      go_wp2_with fail
      refine (HRJ.out _ HB4.out).mono ?_
      rintro e w5 ⟨d', rfl, hd', hb5, hok', hno'⟩
      have HB5 := hid (HB4.out.trans (hb5.mono HB4.out.size))
      have HX5 := hid (HX4.out.below hb5)
      have HZ5 := hid (HZ4.out.below hb5)
      have HSAME : Hid (same d d' = true) := hid (by
        by_cases hq : both a b = 0
        · exact joined_same (HOK.out hq) (hok' hq)
        · rw [HNO.out hq, hno' hq]; exact same_nil)
      have hw6 := below_new w5 (.cells #[.int .i64 d'.f.ch, .int .i64 d'.f.bits, .int .i64 d'.f.rate, .slice d'.a d'.n d'.cap] 26)
      have HB6 := hid (HB5.out.trans (hw6.mono HB5.out.size))
      have HX6 := hid (HX5.out.below hw6)
      have HZ6 := hid (HZ5.out.below hw6)
      have HY6 := hid (bx_new w5 d')
      have HD6 := hid ((HD.out.below hb5).below hw6)
      have HE6 := hid (hd'.below hw6)
      generalize both a b = q at *
      have hqq : (q != q) = false := by simp
      clear hb5 hok' hno' hd' hw6 a0 a1 a2 a3 b0 b1 b2 b3 HOK HNO
      obtain ⟨d0, d1, d2, d3⟩ := HZ6.out
      obtain ⟨e0, e1, e2, e3⟩ := HY6.out
      unfold Dat.v
      go_wp2_with fail
      refine (HRS.out _ d d' HD6.out HE6.out).mono ?_
      rintro e w7 ⟨rfl, hb7⟩
      rw [HSAME.out]
      have HB7 := hid (HB6.out.trans (hb7.mono HB6.out.size))
      have HX7 := hid (HX6.out.below hb7)
      clear hb7 d0 d1 d2 d3 e0 e1 e2 e3 hqq HSAME HD6 HE6 HY6 HZ6 HX6
      have HEND : Hid (∀ w', Below w.heap.size w w' → Calls Try.prog 9 #[] w' fun e w'' => e = .returned (.bool true) ∧ Below w.heap.size w w'') := hid fun w' hw' => (known_true w').mono fun e w'' h => ⟨h.1, hw'.trans (h.2.mono hw'.size)⟩
      by_cases hA : 400 < n ∧ n ≤ 1048576
      · obtain ⟨hA1, hA2⟩ := hA
        go_wp2_with fail
        refine (HEND.out _ HB7.out).mono ?_
        rintro e w8 ⟨rfl, hb8⟩
        have HB8 := hid hb8
        clear hb8
        go_wp2_with fail
        go_ret
        exact ⟨rfl, HB8.out⟩
      · have hA0 := hid hA
        clear hA
        by_cases h4 : n ≤ 400
        · have hn4 : ¬ 400 < n := by omega
          have hA' : n ≤ 400 := h4
          by_cases hR : a.f.right
          · by_cases h0 : 0 ≤ n
            · have hn0 : ¬ n < 0 := by omega
              have hc : silc a.f n = 0 := by unfold silc; rw [if_neg (fun h => h hR), if_neg (fun h => h ⟨h0, by omega⟩)]
              have HC := hid hc
              clear hc
              obtain ⟨a0, a1, a2, a3⟩ := HX7.out
              go_wp2_with fail
              refine (HSI.out _).mono ?_
              rintro e w8 ⟨s, rfl, hs, hb8, hok, hno⟩
              rw [HC.out] at hok hno ⊢
              have HB8 := hid (HB7.out.trans (hb8.mono HB7.out.size))
              have HX8 := hid (HX7.out.below hb8)
              clear hb8 a0 a1 a2 a3
              have HJ := hid (hok rfl)
              have hw9 := below_new w8 (.cells #[.int .i64 s.f.ch, .int .i64 s.f.bits, .int .i64 s.f.rate, .slice s.a s.n s.cap] 26)
              have HB9 := hid (HB8.out.trans (hw9.mono HB8.out.size))
              have HX9 := hid (HX8.out.below hw9)
              have HZ9 := hid (bx_new w8 s)
              have HD9 := hid (hs.below hw9)
              clear hok hno hs hw9
              obtain ⟨a0, a1, a2, a3⟩ := HX9.out
              unfold Dat.v
              go_wp2_with fail
              refine (HRR.out _).mono ?_
              rintro e w10 ⟨rfl, hb10⟩
              rw [decide_eq_true hR]
              have HB10 := hid (HB9.out.trans (hb10.mono HB9.out.size))
              have HX10 := hid (HX9.out.below hb10)
              have HZ10 := hid (HZ9.out.below hb10)
              have HD10 := hid (HD9.out.below hb10)
              clear hb10 a0 a1 a2 a3
              go_wp2_with fail
              have HS : Hid (∀ w', Below w10.heap.size w10 w' → (fun w' => w'.cell? ⟨w.heap.size, 0, none⟩ = some (.int .i64 a.f.ch) ∧ w'.cell? ⟨w.heap.size, 1, none⟩ = some (.int .i64 a.f.bits) ∧ w'.cell? ⟨w.heap.size, 2, none⟩ = some (.int .i64 a.f.rate) ∧ w'.cell? ⟨w8.heap.size, 0, none⟩ = some (.int .i64 s.f.ch) ∧ w'.cell? ⟨w8.heap.size, 1, none⟩ = some (.int .i64 s.f.bits) ∧ w'.cell? ⟨w8.heap.size, 2, none⟩ = some (.int .i64 s.f.rate) ∧ w'.cell? ⟨w8.heap.size, 3, none⟩ = some (.slice s.a s.n s.cap)) w') := hid fun w' hw' => ⟨(HX10.out.below hw').c0, (HX10.out.below hw').c1, (HX10.out.below hw').c2, (HZ10.out.below hw').c0, (HZ10.out.below hw').c1, (HZ10.out.below hw').c2, (HZ10.out.below hw').c3⟩
              have bd : Below w10.heap.size w10 w10.drew := ⟨rfl, rfl, rfl, Nat.le_refl _, fun _ _ => rfl⟩
              have S1 := HS.out _ bd
              have h20 : n ≤ 1048576 := by omega
              dsimp only at S1
              go_region_held3 (fun w' => w'.cell? ⟨w.heap.size, 0, none⟩ = some (.int .i64 a.f.ch) ∧ w'.cell? ⟨w.heap.size, 1, none⟩ = some (.int .i64 a.f.bits) ∧ w'.cell? ⟨w.heap.size, 2, none⟩ = some (.int .i64 a.f.rate) ∧ w'.cell? ⟨w8.heap.size, 0, none⟩ = some (.int .i64 s.f.ch) ∧ w'.cell? ⟨w8.heap.size, 1, none⟩ = some (.int .i64 s.f.bits) ∧ w'.cell? ⟨w8.heap.size, 2, none⟩ = some (.int .i64 s.f.rate) ∧ w'.cell? ⟨w8.heap.size, 3, none⟩ = some (.slice s.a s.n s.cap))
                (first | exact S1 | exact S2 | exact S3 | exact S4 | go_keep)
                ((first
                  | (go_at_call 22; (with_reducible refine (HLI.out _ hR h0 h20).mono ?_); rintro e w11 ⟨d2, rfl, hs2, hb11, hj2⟩; have b11 := bd.trans hb11; have S2 := HS.out _ b11; have HSS := hid (nought_same HJ.out hj2); clear hj2; (unfold Dat.v))
                  | (go_at_call 18; (with_reducible refine (HRS.out _ s d2 (HD10.out.below b11) hs2).mono ?_); rintro e w12 ⟨rfl, hb12⟩; rw [HSS.out]; have b12 := b11.trans (hb12.mono b11.size); have S3 := HS.out _ b12)
                  | (go_at_call 9; (with_reducible refine (known_true _).mono ?_); rintro e w13 ⟨rfl, hb13⟩; have S4 := HS.out _ (b12.trans (hb13.mono b12.size)); have b13 := HB10.out.trans ((b12.trans (hb13.mono b12.size)).mono HB10.out.size))))
              have B13 := hid b13
              clear b13 hb13 S4 S3 b12 hb12 hs2 S2 b11 hb11 bd S1
              go_wp2_with fail
              go_ret
              exact ⟨rfl, B13.out⟩
            · have hn0 : n < 0 := by omega
              have hc : silc a.f n = 1 := by unfold silc; rw [if_neg (fun h => h hR), if_pos (fun h => by omega)]
              have HC := hid hc
              clear hc
              obtain ⟨a0, a1, a2, a3⟩ := HX7.out
              go_wp2_with fail
              refine (HSI.out _).mono ?_
              rintro e w8 ⟨s, rfl, hs, hb8, hok, hno⟩
              rw [HC.out] at hok hno ⊢
              have HB8 := hid (HB7.out.trans (hb8.mono HB7.out.size))
              have HX8 := hid (HX7.out.below hb8)
              clear hb8 a0 a1 a2 a3
              obtain rfl := hno (by decide)
              have hw9 := below_new w8 (.cells #[.int .i64 0, .int .i64 0, .int .i64 0, .slice none 0 0] 26)
              have HB9 := hid (HB8.out.trans (hw9.mono HB8.out.size))
              have HX9 := hid (HX8.out.below hw9)
              have HZ9 : Hid (Bx (w8.alloc (.cells #[.int .i64 0, .int .i64 0, .int .i64 0, .slice none 0 0] 26)) w8.heap.size Dat.nil) := hid (bx_new w8 Dat.nil)
              clear hok hno hs hw9
              obtain ⟨a0, a1, a2, a3⟩ := HX9.out
              have hv : Dat.nil.v = .agg #[.int .i64 0, .int .i64 0, .int .i64 0, .slice none 0 0] := rfl
              rw [hv]
              clear hv
              go_wp2_with fail
              refine (HRR.out _).mono ?_
              rintro e w10 ⟨rfl, hb10⟩
              rw [decide_eq_true hR]
              have HB10 := hid (HB9.out.trans (hb10.mono HB9.out.size))
              have HZ10 := hid (HZ9.out.below hb10)
              clear hb10 a0 a1 a2 a3
              have z0 : w10.cell? ⟨w8.heap.size, 0, none⟩ = some (.int .i64 0) := HZ10.out.c0
              have z1 : w10.cell? ⟨w8.heap.size, 1, none⟩ = some (.int .i64 0) := HZ10.out.c1
              have z2 : w10.cell? ⟨w8.heap.size, 2, none⟩ = some (.int .i64 0) := HZ10.out.c2
              have z3 : w10.cell? ⟨w8.heap.size, 3, none⟩ = some (.slice none 0 0) := HZ10.out.c3
              go_wp2_with fail
              refine (HRS.out _ Dat.nil Dat.nil (nil_snd _) (nil_snd _)).mono ?_
              rintro e w11 ⟨rfl, hb11⟩
              rw [same_nil]
              have HB11 := hid (HB10.out.trans (hb11.mono HB10.out.size))
              clear hb11 z0 z1 z2 z3
              go_wp2_with fail
              refine (HEND.out _ HB11.out).mono ?_
              rintro e w12 ⟨rfl, hb12⟩
              have HB12 := hid hb12
              clear hb12
              go_wp2_with fail
              go_ret
              exact ⟨rfl, HB12.out⟩
          · skip
            have hc : silc a.f n = 20 := by unfold silc; rw [if_pos hR]
            have HC := hid hc
            clear hc
            obtain ⟨a0, a1, a2, a3⟩ := HX7.out
            go_wp2_with fail
            refine (HSI.out _).mono ?_
            rintro e w8 ⟨s, rfl, hs, hb8, hok, hno⟩
            rw [HC.out] at hok hno ⊢
            have HB8 := hid (HB7.out.trans (hb8.mono HB7.out.size))
            have HX8 := hid (HX7.out.below hb8)
            clear hb8 a0 a1 a2 a3
            obtain rfl := hno (by decide)
            have hw9 := below_new w8 (.cells #[.int .i64 0, .int .i64 0, .int .i64 0, .slice none 0 0] 26)
            have HB9 := hid (HB8.out.trans (hw9.mono HB8.out.size))
            have HX9 := hid (HX8.out.below hw9)
            have HZ9 : Hid (Bx (w8.alloc (.cells #[.int .i64 0, .int .i64 0, .int .i64 0, .slice none 0 0] 26)) w8.heap.size Dat.nil) := hid (bx_new w8 Dat.nil)
            clear hok hno hs hw9
            obtain ⟨a0, a1, a2, a3⟩ := HX9.out
            have hv : Dat.nil.v = .agg #[.int .i64 0, .int .i64 0, .int .i64 0, .slice none 0 0] := rfl
            rw [hv]
            clear hv
            go_wp2_with fail
            refine (HRR.out _).mono ?_
            rintro e w10 ⟨rfl, hb10⟩
            rw [decide_eq_false hR]
            have HB10 := hid (HB9.out.trans (hb10.mono HB9.out.size))
            have HZ10 := hid (HZ9.out.below hb10)
            clear hb10 a0 a1 a2 a3
            have z0 : w10.cell? ⟨w8.heap.size, 0, none⟩ = some (.int .i64 0) := HZ10.out.c0
            have z1 : w10.cell? ⟨w8.heap.size, 1, none⟩ = some (.int .i64 0) := HZ10.out.c1
            have z2 : w10.cell? ⟨w8.heap.size, 2, none⟩ = some (.int .i64 0) := HZ10.out.c2
            have z3 : w10.cell? ⟨w8.heap.size, 3, none⟩ = some (.slice none 0 0) := HZ10.out.c3
            go_wp2_with fail
            refine (HRS.out _ Dat.nil Dat.nil (nil_snd _) (nil_snd _)).mono ?_
            rintro e w11 ⟨rfl, hb11⟩
            rw [same_nil]
            have HB11 := hid (HB10.out.trans (hb11.mono HB10.out.size))
            clear hb11 z0 z1 z2 z3
            go_wp2_with fail
            refine (HEND.out _ HB11.out).mono ?_
            rintro e w12 ⟨rfl, hb12⟩
            have HB12 := hid hb12
            clear hb12
            go_wp2_with fail
            go_ret
            exact ⟨rfl, HB12.out⟩
        · have hn4 : 400 < n := by omega
          have hn1 : ¬ n ≤ 1048576 := fun h => hA0.out ⟨by omega, h⟩
          have hn0 : ¬ n < 0 := by omega
          by_cases hR : a.f.right
          · skip
            have hc : silc a.f n = 1 := by unfold silc; rw [if_neg (fun h => h hR), if_pos (fun h => by omega)]
            have HC := hid hc
            clear hc
            obtain ⟨a0, a1, a2, a3⟩ := HX7.out
            go_wp2_with fail
            refine (HSI.out _).mono ?_
            rintro e w8 ⟨s, rfl, hs, hb8, hok, hno⟩
            rw [HC.out] at hok hno ⊢
            have HB8 := hid (HB7.out.trans (hb8.mono HB7.out.size))
            have HX8 := hid (HX7.out.below hb8)
            clear hb8 a0 a1 a2 a3
            obtain rfl := hno (by decide)
            have hw9 := below_new w8 (.cells #[.int .i64 0, .int .i64 0, .int .i64 0, .slice none 0 0] 26)
            have HB9 := hid (HB8.out.trans (hw9.mono HB8.out.size))
            have HX9 := hid (HX8.out.below hw9)
            have HZ9 : Hid (Bx (w8.alloc (.cells #[.int .i64 0, .int .i64 0, .int .i64 0, .slice none 0 0] 26)) w8.heap.size Dat.nil) := hid (bx_new w8 Dat.nil)
            clear hok hno hs hw9
            obtain ⟨a0, a1, a2, a3⟩ := HX9.out
            have hv : Dat.nil.v = .agg #[.int .i64 0, .int .i64 0, .int .i64 0, .slice none 0 0] := rfl
            rw [hv]
            clear hv
            go_wp2_with fail
            refine (HRR.out _).mono ?_
            rintro e w10 ⟨rfl, hb10⟩
            rw [decide_eq_true hR]
            have HB10 := hid (HB9.out.trans (hb10.mono HB9.out.size))
            have HZ10 := hid (HZ9.out.below hb10)
            clear hb10 a0 a1 a2 a3
            have z0 : w10.cell? ⟨w8.heap.size, 0, none⟩ = some (.int .i64 0) := HZ10.out.c0
            have z1 : w10.cell? ⟨w8.heap.size, 1, none⟩ = some (.int .i64 0) := HZ10.out.c1
            have z2 : w10.cell? ⟨w8.heap.size, 2, none⟩ = some (.int .i64 0) := HZ10.out.c2
            have z3 : w10.cell? ⟨w8.heap.size, 3, none⟩ = some (.slice none 0 0) := HZ10.out.c3
            go_wp2_with fail
            refine (HRS.out _ Dat.nil Dat.nil (nil_snd _) (nil_snd _)).mono ?_
            rintro e w11 ⟨rfl, hb11⟩
            rw [same_nil]
            have HB11 := hid (HB10.out.trans (hb11.mono HB10.out.size))
            clear hb11 z0 z1 z2 z3
            go_wp2_with fail
            refine (HEND.out _ HB11.out).mono ?_
            rintro e w12 ⟨rfl, hb12⟩
            have HB12 := hid hb12
            clear hb12
            go_wp2_with fail
            go_ret
            exact ⟨rfl, HB12.out⟩
          · skip
            have hc : silc a.f n = 20 := by unfold silc; rw [if_pos hR]
            have HC := hid hc
            clear hc
            obtain ⟨a0, a1, a2, a3⟩ := HX7.out
            go_wp2_with fail
            refine (HSI.out _).mono ?_
            rintro e w8 ⟨s, rfl, hs, hb8, hok, hno⟩
            rw [HC.out] at hok hno ⊢
            have HB8 := hid (HB7.out.trans (hb8.mono HB7.out.size))
            have HX8 := hid (HX7.out.below hb8)
            clear hb8 a0 a1 a2 a3
            obtain rfl := hno (by decide)
            have hw9 := below_new w8 (.cells #[.int .i64 0, .int .i64 0, .int .i64 0, .slice none 0 0] 26)
            have HB9 := hid (HB8.out.trans (hw9.mono HB8.out.size))
            have HX9 := hid (HX8.out.below hw9)
            have HZ9 : Hid (Bx (w8.alloc (.cells #[.int .i64 0, .int .i64 0, .int .i64 0, .slice none 0 0] 26)) w8.heap.size Dat.nil) := hid (bx_new w8 Dat.nil)
            clear hok hno hs hw9
            obtain ⟨a0, a1, a2, a3⟩ := HX9.out
            have hv : Dat.nil.v = .agg #[.int .i64 0, .int .i64 0, .int .i64 0, .slice none 0 0] := rfl
            rw [hv]
            clear hv
            go_wp2_with fail
            refine (HRR.out _).mono ?_
            rintro e w10 ⟨rfl, hb10⟩
            rw [decide_eq_false hR]
            have HB10 := hid (HB9.out.trans (hb10.mono HB9.out.size))
            have HZ10 := hid (HZ9.out.below hb10)
            clear hb10 a0 a1 a2 a3
            have z0 : w10.cell? ⟨w8.heap.size, 0, none⟩ = some (.int .i64 0) := HZ10.out.c0
            have z1 : w10.cell? ⟨w8.heap.size, 1, none⟩ = some (.int .i64 0) := HZ10.out.c1
            have z2 : w10.cell? ⟨w8.heap.size, 2, none⟩ = some (.int .i64 0) := HZ10.out.c2
            have z3 : w10.cell? ⟨w8.heap.size, 3, none⟩ = some (.slice none 0 0) := HZ10.out.c3
            go_wp2_with fail
            refine (HRS.out _ Dat.nil Dat.nil (nil_snd _) (nil_snd _)).mono ?_
            rintro e w11 ⟨rfl, hb11⟩
            rw [same_nil]
            have HB11 := hid (HB10.out.trans (hb11.mono HB10.out.size))
            clear hb11 z0 z1 z2 z3
            go_wp2_with fail
            refine (HEND.out _ HB11.out).mono ?_
            rintro e w12 ⟨rfl, hb12⟩
            have HB12 := hid hb12
            clear hb12
            go_wp2_with fail
            go_ret
            exact ⟨rfl, HB12.out⟩
end Go.Proofs.Ytfidnklppbdebaa.Pcm
