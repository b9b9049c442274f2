/- PcmWeaves, walked: true, whatever the sound and the list are. Conditions: both lie in memory. -/
import Derived.Test.YtfidnklppbdebaaLh
namespace Go.Proofs.Ytfidnklppbdebaa.Pcm
open Go.RowKit Gen

set_option maxHeartbeats 3200000 in
set_option maxRecDepth 100000 in
theorem weaves_walk (w : World) (d : Dat) (hd : Snd w d) (a : Option Addr) (L cap b o : Nat) (X : Nat → Int) (hl : Isb w a L b o X) : Calls Try.prog 6 #[d.v, .slice a L cap] w fun e w' => e = .returned (.bool true) ∧ Below w.heap.size w w' := by
  have HSM := hid fun w' (hw : Below w.heap.size w w') => small_any w' d (hd.below hw) 400
  have HWE := hid fun (w' : World) (x : Dat) (h : Snd w' x) => weave_any w' x h
  have HRW := hid fun w' (hw : Below w.heap.size w w') => rweave_any w' d (hd.below hw)
  have HPA := hid fun (w' : World) (f : Fmt) (a : Option Addr) (L cap b o : Nat) (X : Nat → Int) (h : Isb w' a L b o X) (hL : L ≤ 4294967296) => part_any w' f a L cap b o X h hL
  have HRP := hid fun (w' : World) (hw : Below w.heap.size w w') (hL : L ≤ 1048576) => rpart_any w' d.f a L cap b o X (hl.below hw hl.lt) hL
  have HRS := hid fun (w' : World) (x y : Dat) (h : Snd w' x) (h' : Snd w' y) => rsame_any w' x y h h'
  have HIN := hid fun (w' : World) (a a' : Option Addr) (len cap cap' b off b' off' : Nat) (U V : Nat → Int) (h : Isb w' a len b off U) (h' : Isb w' a' len b' off' V) (he : ∀ i, i < len → U i = V i) => (ints_any w' a a' len cap cap' b off b' off' U V h h' he).mono fun e w'' hh => And.intro hh.1 (Below.of_fr hh.2)
  have HEND : Hid (∀ w', Below w.heap.size w w' → Calls Try.prog 9 #[] w' fun e w'' => e = .returned (.bool true) ∧ Below w.heap.size w w'') := hid fun w' hw' => (known_true w').mono fun e w'' h => ⟨h.1, hw'.trans (h.2.mono hw'.size)⟩
  have HB0 := hid (below_new w (.cells #[.int .i64 d.f.ch, .int .i64 d.f.bits, .int .i64 d.f.rate, .slice d.a d.n d.cap] 26))
  have HX0 := hid (bx_new w d)
  have HD0 := hid hd
  have HL0 := hid hl
  clear hd hl
  unfold Dat.v at HSM HWE HRW HRS
  unfold Fmt.v at HPA HRP
  show Calls Try.prog 6 #[.agg #[.int .i64 d.f.ch, .int .i64 d.f.bits, .int .i64 d.f.rate, .slice d.a d.n d.cap], .slice a L cap] w _
  go_enter Try.func6, Try.ntmps6
  go_wp2_with fail
  refine (HSM.out _ HB0.out).mono ?_
  rintro e w1 ⟨s1, rfl, hs1, hb1⟩
  have HB1 := hid (HB0.out.trans (hb1.mono HB0.out.size))
  have HX1 := hid (HX0.out.below hb1)
  have HS1 := hid hs1
  clear hb1 hs1
  cases s1 with
  | false =>
    go_wp2_with fail
    refine (HEND.out _ HB1.out).mono ?_
    rintro e wk ⟨rfl, hbk⟩
    have HBK := hid hbk
    clear hbk
    go_wp2_with fail
    go_ret
    exact ⟨rfl, HBK.out⟩
  | true =>
    have HS2 : Hid (d.n ≤ 9 ∧ d.cnt ≤ 400) := hid (by
      obtain ⟨h1, h2⟩ := HS1.out (by first | trivial | rfl)
      refine ⟨h1, ?_⟩
      unfold Dat.cnt
      by_cases h0 : d.n = 0
      · rw [if_pos h0]; omega
      · rw [if_neg h0]; exact h2 0 (by omega))
    clear HS1
    by_cases hL : L ≤ 400
    · have hL1 : ¬ (400 : Int) < (L : Int) := by omega
      have HLL := hid hL
      clear hL
      obtain ⟨a0, a1, a2, a3⟩ := HX1.out
      go_wp2_with fail
      refine (HWE.out _ d (HD0.out.below HB1.out)).mono ?_
      rintro e w2 ⟨lo, lcap, len, hlen, rfl, hrow, hb2⟩
      have HLEN := hid hlen
      have HB2 := hid (HB1.out.trans (hb2.mono HB1.out.size))
      have HX2 := hid (HX1.out.below hb2)
      have HR2 := hid hrow
      clear hb2 hlen hrow a0 a1 a2 a3 hL1
      obtain ⟨a0, a1, a2, a3⟩ := HX2.out
      go_wp2_with fail
      refine (HRW.out _ HB2.out).mono ?_
      rintro e w3 ⟨lo', lcap', len', hlen', rfl, hrow', hb3⟩
      have HLE : Hid (len' = len) := hid (by rw [hlen', HLEN.out])
      have HB3 := hid (HB2.out.trans (hb3.mono HB2.out.size))
      have HX3 := hid (HX2.out.below hb3)
      have HR3 := hid (HR2.out.upto hb3)
      have hr3 := hrow'
      rw [HLE.out] at hr3
      have HQ3 := hid hr3
      obtain rfl := HLE.out
      clear hb3 hlen' hrow' hr3 a0 a1 a2 a3
      obtain ⟨a0, a1, a2, a3⟩ := HX3.out
      go_wp2_with fail
      refine (HPA.out w3 d.f a L cap b o X (HL0.out.below HB3.out HL0.out.lt) (by have := HLL.out; omega)).mono ?_
      rintro e w4 ⟨s, rfl, hs, hb4, hok, hno⟩
      have HB4 := hid (HB3.out.trans (hb4.mono HB3.out.size))
      have hw5 := below_new w4 (.cells #[.int .i64 s.f.ch, .int .i64 s.f.bits, .int .i64 s.f.rate, .slice s.a s.n s.cap] 26)
      have HB5 := hid (HB4.out.trans (hw5.mono HB4.out.size))
      have HX5 := hid ((HX3.out.below hb4).below hw5)
      have HR5 := hid ((HR3.out.upto hb4).upto hw5)
      have HQ5 := hid ((HQ3.out.upto hb4).upto hw5)
      have HZ5 := hid (bx_new w4 s)
      have HS5 := hid (hs.below hw5)
      have HOK : Hid (pcode d.f L X = 0 → PartOk d.f L X s) := hid fun h => (hok h).1
      have HNO := hid hno
      clear hb4 hs hw5 hok hno a0 a1 a2 a3
      obtain ⟨a0, a1, a2, a3⟩ := HX5.out
      unfold Dat.v
      go_wp2_with fail
      refine (HRP.out _ HB5.out (by have := HLL.out; omega)).mono ?_
      rintro e w6 ⟨s', rfl, hs', hb6, hok', hno'⟩
      have HB6 := hid (HB5.out.trans (hb6.mono HB5.out.size))
      have hw7 := below_new w6 (.cells #[.int .i64 s'.f.ch, .int .i64 s'.f.bits, .int .i64 s'.f.rate, .slice s'.a s'.n s'.cap] 26)
      have HB7 := hid (HB6.out.trans (hw7.mono HB6.out.size))
      have HX7 := hid ((HX5.out.below hb6).below hw7)
      have HR7 := hid ((HR5.out.upto hb6).upto hw7)
      have HQ7 := hid ((HQ5.out.upto hb6).upto hw7)
      have HZ7 := hid ((HZ5.out.below hb6).below hw7)
      have HS7 := hid ((HS5.out.below hb6).below hw7)
      have HY7 := hid (bx_new w6 s')
      have HT7 := hid (hs'.below hw7)
      have HSAME : Hid (same s s' = true) := hid (by
        by_cases hq : pcode d.f L X = 0
        · exact part_same (HOK.out hq) (hok' hq)
        · rw [HNO.out hq, hno' hq]; exact nil_same)
      generalize hcg : pcode d.f L X = c at *
      have HCG := hid hcg
      have hcc : (c != c) = false := by simp
      have hkk : (d.chk != d.chk) = false := by simp
      clear hb6 hw7 hs' hok' hno' hcg a0 a1 a2 a3 HNO
      have HLB : Hid (len' ≤ 3600) := hid (by
        have h1 := HLEN.out
        have h2 : d.n * d.cnt ≤ 9 * 400 := Nat.mul_le_mul HS2.out.1 HS2.out.2
        by_cases h : d.chk = 0
        · rw [if_pos h] at h1; omega
        · rw [if_neg h] at h1; omega)
      obtain ⟨b1, hI1⟩ := HR7.out.isb (by have := HLB.out; omega)
      obtain ⟨b2, hI2⟩ := HQ7.out.isb (by have := HLB.out; omega)
      have HI1 := hid hI1
      have HI2 := hid hI2
      clear hI1 hI2
      unfold Dat.v
      go_wp2_with fail
      refine (HIN.out _ _ _ _ _ _ _ _ _ _ _ _ HI1.out HI2.out (fun _ _ => rfl)).mono ?_
      rintro e w8 ⟨rfl, hb8⟩
      have HB8 := hid (HB7.out.trans (hb8.mono HB7.out.size))
      have HX8 := hid (HX7.out.below hb8)
      have HI8 := hid (HI1.out.below hb8 HI1.out.lt)
      have HZ8 := hid (HZ7.out.below hb8)
      have HS8 := hid (HS7.out.below hb8)
      have HY8 := hid (HY7.out.below hb8)
      have HT8 := hid (HT7.out.below hb8)
      clear hb8 HX7 HY7 HT7 HZ7 HS7 HI1 HI2
      obtain ⟨a0, a1, a2, a3⟩ := HZ8.out
      obtain ⟨e0, e1, e2, e3⟩ := HY8.out
      go_wp2_with fail
      refine (HRS.out _ s s' HS8.out HT8.out).mono ?_
      rintro e w9 ⟨rfl, hb9⟩
      rw [HSAME.out]
      have HB9 := hid (HB8.out.trans (hb9.mono HB8.out.size))
      have HX9 := hid (HX8.out.below hb9)
      have HI9 := hid (HI8.out.below hb9 HI8.out.lt)
      have HZ9 := hid (HZ8.out.below hb9)
      have HS9 := hid (HS8.out.below hb9)
      clear hb9 a0 a1 a2 a3 e0 e1 e2 e3 hcc hkk HSAME HT8 HY8
      have HPW : Hid (c = 0 → s.chk = 0 ∧ s.n * s.cnt = L ∧ ∀ i, i < L → s.wv i = X i) := hid fun h => part_weave (HCG.out.trans h) (HOK.out h) (by have := HLL.out; omega)
      have HPW0 := hid HPW.out
      clear HPW HOK HLE
      by_cases hk : d.chk = 0
      · have HW : Hid (pcode d.f len' d.wv = 0 ∧ ∀ s, PartOk d.f len' d.wv s → same s d = true) := hid (by
          have h1 := weave_part hk
          have h2 := HLEN.out
          rw [if_pos hk] at h2
          rw [h2]; exact h1)
        have hk2 : (d.chk == 0) = true := by rw [hk]; rfl
        have hk3 : d.chk = 0 := hk
        rw [hk]
        clear hk hk2
        obtain ⟨a0, a1, a2, a3⟩ := HX9.out
        have HK3 := hid hk3
        clear hk3
        go_wp2_with fail
        refine (HPA.out _ d.f _ len' lcap b1 0 d.wv HI9.out (by have := HLB.out; omega)).mono ?_
        rintro e wy ⟨z, rfl, hz, hby, hokz, _⟩
        rw [HW.out.1] at hokz ⊢
        have HBy := hid (HB9.out.trans (hby.mono HB9.out.size))
        have hwz := below_new wy (.cells #[.int .i64 z.f.ch, .int .i64 z.f.bits, .int .i64 z.f.rate, .slice z.a z.n z.cap] 26)
        have HBz := hid (HBy.out.trans (hwz.mono HBy.out.size))
        have HXz := hid ((HX9.out.below hby).below hwz)
        have HZz := hid ((HZ9.out.below hby).below hwz)
        have HSz := hid ((HS9.out.below hby).below hwz)
        have HYz := hid (bx_new wy z)
        have HTz := hid (hz.below hwz)
        have HEQ := hid (HW.out.2 z (hokz rfl).1)
        clear hby hwz hz hokz a0 a1 a2 a3
        obtain ⟨a0, a1, a2, a3⟩ := HXz.out
        obtain ⟨e0, e1, e2, e3⟩ := HYz.out
        unfold Dat.v
        go_wp2_with fail
        refine (HRS.out _ z d HTz.out (HD0.out.below HBz.out)).mono ?_
        rintro e wt ⟨rfl, hbt⟩
        rw [HEQ.out]
        have HBt := hid (HBz.out.trans (hbt.mono HBz.out.size))
        have HXt := hid (HXz.out.below hbt)
        have HZt := hid (HZz.out.below hbt)
        have HSt := hid (HSz.out.below hbt)
        clear hbt a0 a1 a2 a3 e0 e1 e2 e3
        by_cases h0 : c = 0
        · have HPW := hid (HPW0.out h0)
          subst h0
          have h0 : True := trivial
          obtain ⟨a0, a1, a2, a3⟩ := HZt.out
          go_wp2_with fail
          refine (HWE.out _ s HSt.out).mono ?_
          rintro e wp ⟨lo2, lcap2, len2, hlen2, rfl, hrow2, hbp⟩
          rw [HPW.out.1] at hlen2 ⊢
          have HE2 : Hid (len2 = L) := hid (by rw [hlen2, if_pos rfl]; exact HPW.out.2.1)
          obtain rfl := HE2.out
          have HBP := hid (HBt.out.trans (hbp.mono HBt.out.size))
          obtain ⟨bp, hIp⟩ := hrow2.isb HL0.out.hl
          have HIP := hid hIp
          clear hlen2 hbp hrow2 hIp a0 a1 a2 a3 h0
          go_wp2_with fail
          refine (HIN.out _ _ _ _ _ _ _ _ _ _ _ _ HIP.out (HL0.out.below HBP.out HL0.out.lt) HPW.out.2.2).mono ?_
          rintro e wq ⟨rfl, hbq⟩
          have HBQ := hid (HBP.out.trans (hbq.mono HBP.out.size))
          clear hbq
          go_wp2_with fail
          refine (HEND.out _ HBQ.out).mono ?_
          rintro e wk ⟨rfl, hbk⟩
          have HBK := hid hbk
          clear hbk
          go_wp2_with fail
          go_ret
          exact ⟨rfl, HBK.out⟩
        · have h1 : (c == 0) = false := beq_eq_false_iff_ne.2 h0
          clear h0
          go_wp2_with fail
          refine (HEND.out _ HBt.out).mono ?_
          rintro e wk ⟨rfl, hbk⟩
          have HBK := hid hbk
          clear hbk
          go_wp2_with fail
          go_ret
          exact ⟨rfl, HBK.out⟩
      · have hk2 : (d.chk == 0) = false := beq_eq_false_iff_ne.2 hk
        clear hk
        by_cases h0 : c = 0
        · have HPW := hid (HPW0.out h0)
          subst h0
          have h0 : True := trivial
          obtain ⟨a0, a1, a2, a3⟩ := HZ9.out
          go_wp2_with fail
          refine (HWE.out _ s HS9.out).mono ?_
          rintro e wp ⟨lo2, lcap2, len2, hlen2, rfl, hrow2, hbp⟩
          rw [HPW.out.1] at hlen2 ⊢
          have HE2 : Hid (len2 = L) := hid (by rw [hlen2, if_pos rfl]; exact HPW.out.2.1)
          obtain rfl := HE2.out
          have HBP := hid (HB9.out.trans (hbp.mono HB9.out.size))
          obtain ⟨bp, hIp⟩ := hrow2.isb HL0.out.hl
          have HIP := hid hIp
          clear hlen2 hbp hrow2 hIp a0 a1 a2 a3 h0
          go_wp2_with fail
          refine (HIN.out _ _ _ _ _ _ _ _ _ _ _ _ HIP.out (HL0.out.below HBP.out HL0.out.lt) HPW.out.2.2).mono ?_
          rintro e wq ⟨rfl, hbq⟩
          have HBQ := hid (HBP.out.trans (hbq.mono HBP.out.size))
          clear hbq
          go_wp2_with fail
          refine (HEND.out _ HBQ.out).mono ?_
          rintro e wk ⟨rfl, hbk⟩
          have HBK := hid hbk
          clear hbk
          go_wp2_with fail
          go_ret
          exact ⟨rfl, HBK.out⟩
        · have h1 : (c == 0) = false := beq_eq_false_iff_ne.2 h0
          clear h0
          go_wp2_with fail
          refine (HEND.out _ HB9.out).mono ?_
          rintro e wk ⟨rfl, hbk⟩
          have HBK := hid hbk
          clear hbk
          go_wp2_with fail
          go_ret
          exact ⟨rfl, HBK.out⟩
    · have hL1 : (400 : Int) < (L : Int) := by omega
      clear hL
      go_wp2_with fail
      refine (HEND.out _ HB1.out).mono ?_
      rintro e wk ⟨rfl, hbk⟩
      have HBK := hid hbk
      clear hbk
      go_wp2_with fail
      go_ret
      exact ⟨rfl, HBK.out⟩
end Go.Proofs.Ytfidnklppbdebaa.Pcm
