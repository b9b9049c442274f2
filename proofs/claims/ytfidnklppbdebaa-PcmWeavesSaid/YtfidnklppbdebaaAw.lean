/- PcmApart, walked: true, whatever the two sounds are. Conditions: both lie in memory as their lists. -/
import Derived.Test.YtfidnklppbdebaaAr
namespace Go.Proofs.Ytfidnklppbdebaa.Pcm
open Go.RowKit Gen

theorem dist_nn (x y : Int) : 0 ≤ dist x y := by unfold dist; split <;> omega
theorem dist_zero {x y : Int} : dist x y = 0 ↔ x = y := by unfold dist; split <;> omega
theorem far_nn (U V : Nat → Int) : ∀ k, 0 ≤ far U V k
  | 0 => Int.le_refl _
  | k + 1 => by
    have ih := far_nn U V k
    have hd := dist_nn (U k) (V k)
    show 0 ≤ (if far U V k < dist (U k) (V k) then dist (U k) (V k) else far U V k)
    split <;> assumption
theorem far_zero (U V : Nat → Int) : ∀ k, (far U V k = 0 ↔ ∀ j, j < k → U j = V j)
  | 0 => ⟨fun _ j hj => absurd hj (Nat.not_lt_zero j), fun _ => rfl⟩
  | k + 1 => by
    have ih := far_zero U V k
    have hn := far_nn U V k
    have hd := dist_nn (U k) (V k)
    have hz := @dist_zero (U k) (V k)
    have hs : far U V (k + 1) = if far U V k < dist (U k) (V k) then dist (U k) (V k) else far U V k := rfl
    rw [hs]
    constructor
    · intro h j hj
      have h0 : far U V k = 0 ∧ dist (U k) (V k) = 0 := by split at h <;> omega
      by_cases e : j = k
      · rw [e]; exact hz.1 h0.2
      · exact ih.1 h0.1 j (by omega)
    · intro h
      have h1 := ih.2 fun j hj => h j (by omega)
      have h2 := hz.2 (h k (by omega))
      rw [h1, h2]; rfl

/-- Is no distance of the first above 0? -/
def zer (a b : Dat) : Nat → Bool
  | 0 => true
  | k + 1 => zer a b k && (apf a b k == 0)
theorem zer_iff (a b : Dat) : ∀ n, (zer a b n = true ↔ ∀ c, c < n → apf a b c = 0)
  | 0 => ⟨fun _ j hj => absurd hj (Nat.not_lt_zero j), fun _ => rfl⟩
  | k + 1 => by
    show (zer a b k && (apf a b k == 0)) = true ↔ _
    rw [Bool.and_eq_true, zer_iff a b k, beq_iff_eq]
    constructor
    · rintro ⟨h, h2⟩ c hc
      by_cases e : c = k
      · rw [e]; exact h2
      · exact h c (by omega)
    · intro h
      exact ⟨fun c hc => h c (by omega), h k (by omega)⟩
theorem eqS_iff {a b : Dat} : eqS a b = true ↔ a.n = b.n ∧ ∀ i, i < a.n → eqL a b i = true := by
  by_cases hn : a.n = b.n
  · by_cases h : ∀ i, i < a.n → eqL a b i = true
    · rw [eqS_all hn h]; exact ⟨fun _ => ⟨hn, h⟩, fun _ => rfl⟩
    · obtain ⟨i, hi⟩ := Classical.not_forall.1 h
      obtain ⟨hi, hq⟩ := Classical.not_imp.1 hi
      rw [eqS_not hi (by cases hx : eqL a b i with | false => rfl | true => exact absurd hx hq)]
      exact ⟨fun h => (by cases h), fun h' => absurd h'.2 h⟩
  · rw [eqS_len hn]; exact ⟨fun h => (by cases h), fun h => absurd h.1 hn⟩
theorem apc_ok {a b : Dat} (h : apc a b = 0) : both a b = 0 ∧ a.cnt = b.cnt := by
  unfold apc at h
  by_cases h1 : both a b = 0
  · rw [if_neg (fun x => x h1)] at h
    by_cases h2 : a.cnt = b.cnt
    · exact ⟨h1, h2⟩
    · rw [if_pos h2] at h; cases h
  · rw [if_pos h1] at h; exact absurd h h1
theorem zer_same {a b : Dat} (h : apc a b = 0) : zer a b a.n = same a b := by
  obtain ⟨h1, h2⟩ := apc_ok h
  obtain ⟨ok1, ok2, hf⟩ := both_ok h1
  have o1 := chk_ok ok1
  have o2 := chk_ok ok2
  have hn : a.n = b.n := by have e1 := o1.2.1; have e2 := o2.2.1; rw [hf] at e1; omega
  rw [same_yes hf]
  have key : zer a b a.n = true ↔ eqS a b = true := by
    rw [zer_iff, eqS_iff]
    constructor
    · intro hz
      refine ⟨hn, fun i hi => eqI_iff.2 ⟨?_, fun j hj => ?_⟩⟩
      · rw [o1.2.2.2.2.2.1 i hi, o2.2.2.2.2.2.1 i (by omega), h2]
      · exact (far_zero _ _ _).1 (hz i hi) j (by rw [← o1.2.2.2.2.2.1 i hi]; exact hj)
    · rintro ⟨_, hq⟩ c hc
      exact (far_zero _ _ _).2 fun j hj => (eqI_iff.1 (hq c hc)).2 j (by rw [o1.2.2.2.2.2.1 c hc]; exact hj)
  cases hx : zer a b a.n with
  | true => rw [hx] at key; exact (key.1 rfl).symm
  | false => cases hy : eqS a b with
    | false => rfl
    | true => rw [hx, hy] at key; exact absurd (key.2 rfl) (by decide)
theorem same_self (a : Dat) : same a a = true := by rw [same_yes rfl]; exact eqS_all rfl fun i hi => eqI_all fun _ _ => rfl

set_option maxHeartbeats 3200000 in
set_option maxRecDepth 100000 in
theorem apart_walk (w : World) (a b : Dat) (ha : Snd w a) (hb : Snd w b) : Calls Try.prog 7 #[a.v, b.v] w fun e w' => e = .returned (.bool true) ∧ Below w.heap.size w w' := by
  have HSM := hid fun w' (hw : Below w.heap.size w w') => small_any w' a (ha.below hw) 300
  have HSN := hid fun w' (hw : Below w.heap.size w w') => small_any w' b (hb.below hw) 300
  have HAP := hid fun w' (hw : Below w.heap.size w w') => apart_any w' a b (ha.below hw) (hb.below hw)
  have HAR := hid fun w' (hw : Below w.heap.size w w') => rapart_any w' a b (ha.below hw) (hb.below hw)
  have HS := hid fun w' (hw : Below w.heap.size w w') => same_any w' a b (ha.below hw) (hb.below hw)
  have HSS := hid fun w' (hw : Below w.heap.size w w') => same_any w' a a (ha.below hw) (ha.below hw)
  have HRS := hid fun w' (hw : Below w.heap.size w w') => rsame_any w' a b (ha.below hw) (hb.below hw)
  rw [same_self] at HSS
  obtain ⟨hb0, hx0, hy0⟩ := boxes w a b
  have HB0 := hid hb0
  have HX0 := hid hx0
  have HY0 := hid hy0
  clear hb0 hx0 hy0 ha hb
  unfold Dat.v at HSM HSN HAP HAR HS HSS HRS
  show Calls Try.prog 7 #[.agg #[.int .i64 a.f.ch, .int .i64 a.f.bits, .int .i64 a.f.rate, .slice a.a a.n a.cap], .agg #[.int .i64 b.f.ch, .int .i64 b.f.bits, .int .i64 b.f.rate, .slice b.a b.n b.cap]] w _
  go_enter Try.func7, Try.ntmps7
  go_wp2_with fail
  refine (HSM.out _ HB0.out).mono ?_
  rintro e w1 ⟨s1, rfl, _, hb1⟩
  have HB1 := hid (HB0.out.trans (hb1.mono HB0.out.size))
  have HX1 := hid (HX0.out.below hb1)
  have HY1 := hid (HY0.out.below hb1)
  clear hb1
  cases s1 with
  | false =>
    go_wp2_with fail
    refine (known_true w1).mono ?_
    rintro e w2 ⟨rfl, hb2⟩
    have HB2 := hid (HB1.out.trans (hb2.mono HB1.out.size))
    clear hb2
    go_wp2_with fail
    go_ret
    exact ⟨rfl, HB2.out⟩
  | true =>
    obtain ⟨b0, b1, b2, b3⟩ := HY1.out
    go_wp2_with fail
    refine (HSN.out _ HB1.out).mono ?_
    rintro e w2 ⟨s2, rfl, _, hb2⟩
    have HB2 := hid (HB1.out.trans (hb2.mono HB1.out.size))
    have HX2 := hid (HX1.out.below hb2)
    have HY2 := hid (HY1.out.below hb2)
    clear hb2 b0 b1 b2 b3
    cases s2 with
    | false =>
      go_wp2_with fail
      refine (known_true w2).mono ?_
      rintro e w3 ⟨rfl, hb3⟩
      have HB3 := hid (HB2.out.trans (hb3.mono HB2.out.size))
      clear hb3
      go_wp2_with fail
      go_ret
      exact ⟨rfl, HB3.out⟩
    | true =>
      obtain ⟨a0, a1, a2, a3⟩ := HX2.out
      obtain ⟨b0, b1, b2, b3⟩ := HY2.out
      go_wp2_with fail
      refine (HAP.out _ HB2.out).mono ?_
      rintro e w3 ⟨lo, lcap, len, g, off, hlen, rfl, hl, hb3⟩
      have HB3 := hid (HB2.out.trans (hb3.mono HB2.out.size))
      have HX3 := hid (HX2.out.below hb3)
      have HY3 := hid (HY2.out.below hb3)
      have HL := hid hl
      have HLE := hid hlen
      clear hlen
      clear hb3 a0 a1 a2 a3 b0 b1 b2 b3 hl
      obtain ⟨a0, a1, a2, a3⟩ := HX3.out
      obtain ⟨b0, b1, b2, b3⟩ := HY3.out
      go_wp2_with fail
      refine (HAR.out _ HB3.out).mono ?_
      rintro e w4 ⟨lo', lcap', len', g', off', hlen', rfl, hl', hb4⟩
      obtain rfl : len = len' := by rw [hlen', HLE.out]
      have HB4 := hid (HB3.out.trans (hb4.mono HB3.out.size))
      have HX4 := hid (HX3.out.below hb4)
      have HY4 := hid (HY3.out.below hb4)
      have HL4 := hid (HL.out.below hb4 HL.out.lt)
      have HL' := hid hl'
      clear hb4 a0 a1 a2 a3 b0 b1 b2 b3 hl' hlen'
      have HZS : Hid (apc a b = 0 → zer a b len = same a b) := hid fun h => by
        rw [HLE.out, if_pos h]; exact zer_same h
      clear HLE
      generalize hq : apc a b = q at *
      generalize hsb : same a b = sb at *
      clear hq hsb
      go_wp2_with fail
      have c0 : ∀ p : Kp w4, p.w'.cell? ⟨w.heap.size, 0, none⟩ = some (.int .i64 a.f.ch) := fun p => (HX4.out.fr p.h).c0
      have c1 : ∀ p : Kp w4, p.w'.cell? ⟨w.heap.size, 1, none⟩ = some (.int .i64 a.f.bits) := fun p => (HX4.out.fr p.h).c1
      have c2 : ∀ p : Kp w4, p.w'.cell? ⟨w.heap.size, 2, none⟩ = some (.int .i64 a.f.rate) := fun p => (HX4.out.fr p.h).c2
      have c3 : ∀ p : Kp w4, p.w'.cell? ⟨w.heap.size, 3, none⟩ = some (.slice a.a a.n a.cap) := fun p => (HX4.out.fr p.h).c3
      have d0 : ∀ p : Kp w4, p.w'.cell? ⟨w.heap.size + 1, 0, none⟩ = some (.int .i64 b.f.ch) := fun p => (HY4.out.fr p.h).c0
      have d1 : ∀ p : Kp w4, p.w'.cell? ⟨w.heap.size + 1, 1, none⟩ = some (.int .i64 b.f.bits) := fun p => (HY4.out.fr p.h).c1
      have d2 : ∀ p : Kp w4, p.w'.cell? ⟨w.heap.size + 1, 2, none⟩ = some (.int .i64 b.f.rate) := fun p => (HY4.out.fr p.h).c2
      have d3 : ∀ p : Kp w4, p.w'.cell? ⟨w.heap.size + 1, 3, none⟩ = some (.slice b.a b.n b.cap) := fun p => (HY4.out.fr p.h).c3
      have HIp := hid fun p : Kp w4 => ints_any p.w' lo lo' len lcap lcap' g off g' off' (apf a b) (apf a b) (HL4.out.fr p.h) (HL'.out.fr p.h) (fun _ _ => rfl)
      have HSp := hid fun p : Kp w4 => HS.out p.w' (below_fr HB4.out p.h)
      have HRp := hid fun p : Kp w4 => HRS.out p.w' (below_fr HB4.out p.h)
      have hqq : (q != q) = false := by simp
      have hss : (sb != sb) = false := by simp
      refine wp_region_quiet_kp (by kernel_rfl) (by kernel_rfl) ?_
      repeat (first | go_big_quiet_step ((first | (go_at_call 27; with_reducible exact kp_call (HIp.out _)) | (go_at_call 30; with_reducible exact kp_below (HSp.out _)) | (go_at_call 18; with_reducible exact kp_below (HRp.out _)))) | fail)
      refine wpQuiet_nil ?_
      intro wz hw'
      obtain ⟨⟨wq, hq⟩, hw''⟩ := hw'
      subst hw''
      have HB5 := hid (below_fr HB4.out hq)
      have HX5 := hid (HX4.out.fr hq)
      have HY5 := hid (HY4.out.fr hq)
      have HL5 := hid (HL4.out.fr hq)
      clear hq c0 c1 c2 c3 d0 d1 d2 d3
      go_wp2_with fail
      clear hqq hss
      go_loopg [9, 10] len (fun z v i wr => ∃ k : Nat, k ≤ len ∧ z = len - k ∧ v = .bool (zer a b k) ∧ i = .int .i64 k ∧ Fr (fun _ => False) wz wr)
      case atStart => exact ⟨0, Nat.zero_le _, rfl, rfl, rfl, Fr.refl _ _⟩
      case round =>
        obtain ⟨k, hk, hg, rfl, rfl, hf⟩ := hrel
        have HG := hid hg
        have HF := hid hf
        clear hg hf
        have hl63 := HL5.out.hl
        by_cases hlt : k < len
        · have hlt2 : (k : Int) < (len : Int) := by omega
          have HZK : Hid (zer a b (k + 1) = (zer a b k && (apf a b k == 0))) := hid rfl
          have HAD := hid (HL5.out.addr (by omega))
          have ck := (HL5.out.fr HF.out).c k hlt
          generalize hz : zer a b (k + 1) = z1 at HZK
          have HZ := hid hz
          clear hz
          cases hzk : zer a b k with
          | false =>
            rw [hzk] at HZK
            have HZ1 : Hid (z1 = false) := hid HZK.out
            clear hzk HZK
            go_wp2_with fail
            go_roundg (len - (k + 1))
            case measure => rw [HG.out]; omega
            case rel => exact ⟨k + 1, by omega, rfl, congrArg Value.bool (HZ1.out.symm.trans HZ.out.symm), by go_num, HF.out⟩
          | true =>
            rw [hzk] at HZK
            rw [HAD.out]
            by_cases h0 : apf a b k = 0
            · rw [h0] at ck
              have HZ1 : Hid (z1 = true) := hid (HZK.out.trans (by rw [h0]; rfl))
              clear hzk HZK h0
              go_wp2_with fail
              rw [← HAD.out]
              go_roundg (len - (k + 1))
              case measure => rw [HG.out]; omega
              case rel => exact ⟨k + 1, by omega, rfl, congrArg Value.bool (HZ1.out.symm.trans HZ.out.symm), by go_num, HF.out⟩
            · have h1 : (apf a b k == 0) = false := beq_eq_false_iff_ne.2 h0
              have HZ1 : Hid (z1 = false) := hid (HZK.out.trans (by rw [h1]; rfl))
              clear hzk HZK h0
              go_wp2_with fail
              rw [← HAD.out]
              go_roundg (len - (k + 1))
              case measure => rw [HG.out]; omega
              case rel => exact ⟨k + 1, by omega, rfl, congrArg Value.bool (HZ1.out.symm.trans HZ.out.symm), by go_num, HF.out⟩
        · have hge : ¬ (k : Int) < (len : Int) := by omega
          obtain rfl : k = len := by omega
          have HB6 := hid (below_fr HB5.out HF.out)
          have HX6 := hid (HX5.out.fr HF.out)
          have HY6 := hid (HY5.out.fr HF.out)
          generalize zer a b k = zb at *
          by_cases h0 : q = 0
          · have hz := HZS.out h0
            subst hz
            have h1 : (q != 0) = false := by rw [h0]; rfl
            have hss : (zb == zb) = true := by simp
            clear h0
            obtain ⟨a0, a1, a2, a3⟩ := HX6.out
            obtain ⟨b0, b1, b2, b3⟩ := HY6.out
            go_wp2_with fail
            refine (HS.out _ HB6.out).mono ?_
            rintro e w7 ⟨rfl, hb7⟩
            have HB7 := hid (HB6.out.trans (hb7.mono HB6.out.size))
            have HX7 := hid (HX6.out.below hb7)
            clear a0 a1 a2 a3 b0 b1 b2 b3 hb7
            obtain ⟨a0, a1, a2, a3⟩ := HX7.out
            go_wp2_with fail
            refine (HSS.out _ HB7.out).mono ?_
            rintro e w8 ⟨rfl, hb8⟩
            have HB8 := hid (HB7.out.trans (hb8.mono HB7.out.size))
            clear a0 a1 a2 a3 hb8
            go_wp2_with fail
            refine (known_true w8).mono ?_
            rintro e w9 ⟨rfl, hb9⟩
            have HB9 := hid (HB8.out.trans (hb9.mono HB8.out.size))
            clear hb9
            go_wp2_with fail
            go_ret
            exact ⟨rfl, HB9.out⟩
          · have h1 : (q != 0) = true := bne_iff_ne.2 h0
            clear h0
            obtain ⟨a0, a1, a2, a3⟩ := HX6.out
            go_wp2_with fail
            refine (HSS.out _ HB6.out).mono ?_
            rintro e w8 ⟨rfl, hb8⟩
            have HB8 := hid (HB6.out.trans (hb8.mono HB6.out.size))
            clear a0 a1 a2 a3 hb8
            go_wp2_with fail
            refine (known_true w8).mono ?_
            rintro e w9 ⟨rfl, hb9⟩
            have HB9 := hid (HB8.out.trans (hb9.mono HB8.out.size))
            clear hb9
            go_wp2_with fail
            go_ret
            exact ⟨rfl, HB9.out⟩
end Go.Proofs.Ytfidnklppbdebaa.Pcm
