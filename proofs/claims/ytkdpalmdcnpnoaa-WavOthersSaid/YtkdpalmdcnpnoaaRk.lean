/- The document's Check: the same answer as pcm's. Conditions: sound lies in memory as its lists. -/
import Derived.Test.YtkdpalmdcnpnoaaCm
import Derived.Test.YtkdpalmdcnpnoaaQc
namespace Go.Proofs.Ytkdpalmdcnpnoaa.Pcm
open Go.RowKit Gen

set_option maxRecDepth 20000 in
theorem power_any (k y : Nat) (hk : k ≤ 61) (hy : 2 ^ k = y) (w : World) : Calls Try.prog 75 #[.int .i64 (k : Int)] w fun e w' => e = .returned (.int .i64 (y : Int)) ∧ w = w' := by
  have HY := hid hy
  clear hy
  go_enter Try.func75, Try.ntmps75
  go_wp2_with fail
  go_loopg [3, 4] k (fun g x i wr => ∃ j : Nat, j ≤ k ∧ g = k - j ∧ x = .int .i64 ((2 ^ j : Nat) : Int) ∧ i = .int .i64 j ∧ w = wr)
  case atStart => exact ⟨0, Nat.zero_le _, rfl, rfl, rfl, rfl⟩
  case round =>
    obtain ⟨j, hj, hg, rfl, rfl, rfl⟩ := hrel
    have HG := hid hg
    clear hg
    have hp : 2 ^ j ≤ 2 ^ 61 := Nat.pow_le_pow_right (by decide) (by omega)
    have HN : Hid (2 ^ (j + 1) = 2 ^ j * 2) := hid (Nat.pow_succ _ _)
    generalize hxx : 2 ^ j = x at *
    have HXX := hid hxx
    clear hxx
    by_cases hlt : j < k
    · have g1 : (j : Int) < (k : Int) := by omega
      have g2 : (j : Int) < 62 := by omega
      have g3 : (x : Int) ≤ 2305843009213693952 := by omega
      go_wp2_with fail
      go_roundg (k - (j + 1))
      case measure => rw [HG.out]; omega
      case rel => exact ⟨j + 1, by omega, rfl, congrArg (Value.int .i64) (by rw [HN.out]; omega), by go_num, rfl⟩
    · have g1 : ¬ (j : Int) < (k : Int) := by omega
      obtain rfl : j = k := by omega
      go_wp2_with fail
      go_ret
      exact ⟨congrArg (fun z : Nat => Ending.returned (.int .i64 (z : Int))) (HXX.out.symm.trans HY.out), rfl⟩
set_option maxRecDepth 20000 in
theorem powerI (ki : Int) (k y : Nat) (hki : ki = k) (hk : k ≤ 61) (hy : 2 ^ k = y) (w : World) : Calls Try.prog 75 #[.int .i64 ki] w fun e w' => e = .returned (.int .i64 (y : Int)) ∧ w = w' := by subst hki; exact power_any k y hk hy w

set_option maxRecDepth 20000 in
theorem fits_any (x : Int) (m P : Nat) (hm : m ≤ 61) (hP : 2 ^ m = P) (w : World) : Calls Try.prog 50 #[.int .i64 x, .int .i64 ((m + 1 : Nat) : Int)] w fun e w' => e = .returned (.bool (!beyond P x)) ∧ w = w' := by
  have h0 : (1 : Int) ≤ ((m + 1 : Nat) : Int) := by omega
  have h1 : ((m + 1 : Nat) : Int) ≤ 62 := by omega
  have hb : 2 ^ m ≤ 2 ^ 61 := Nat.pow_le_pow_right (by decide) hm
  have HPW := hid fun ki (hki : ki = ((m : Nat) : Int)) => powerI ki m P hki hm hP w
  rw [hP] at hb
  clear hP
  by_cases g1 : -(P : Int) ≤ x
  · by_cases g2 : x ≤ (P : Int) - 1
    · have e : beyond P x = false := by unfold beyond; rw [decide_eq_true ⟨g1, g2⟩]; rfl
      rw [e]
      clear e
      go_enter Try.func50, Try.ntmps50
      go_wp2_with fail
      refine (HPW.out _ (by omega)).mono ?_
      rintro e w' ⟨rfl, rfl⟩
      go_wp2_with fail
      refine (HPW.out _ (by omega)).mono ?_
      rintro e w' ⟨rfl, rfl⟩
      go_wp2_with fail
      go_ret
      exact ⟨rfl, rfl⟩
    · have e : beyond P x = true := by unfold beyond; rw [decide_eq_false fun h => g2 h.2]; rfl
      rw [e]
      clear e
      go_enter Try.func50, Try.ntmps50
      go_wp2_with fail
      refine (HPW.out _ (by omega)).mono ?_
      rintro e w' ⟨rfl, rfl⟩
      go_wp2_with fail
      refine (HPW.out _ (by omega)).mono ?_
      rintro e w' ⟨rfl, rfl⟩
      go_wp2_with fail
      go_ret
      exact ⟨congrArg (fun z : Bool => Ending.returned (Value.bool z)) (decide_eq_false (by omega)), rfl⟩
  · have e : beyond P x = true := by unfold beyond; rw [decide_eq_false fun h => g1 h.1]; rfl
    rw [e]
    clear e
    go_enter Try.func50, Try.ntmps50
    go_wp2_with fail
    refine (HPW.out _ (by omega)).mono ?_
    rintro e w' ⟨rfl, rfl⟩
    go_wp2_with fail
    go_ret
    exact ⟨rfl, rfl⟩

set_option maxRecDepth 20000 in
theorem Snd.fr {W W' : World} {d : Dat} (h : Snd W d) (hf : Fr (fun _ => False) W W') : Snd W' d :=
  h.below ⟨hf.os, hf.tape, hf.output, hf.size, fun k hk => hf.block k hk fun x => x⟩
set_option maxRecDepth 20000 in
theorem Bx.fr {W W' : World} {p : Nat} {d : Dat} (h : Bx W p d) (hf : Fr (fun _ => False) W W') : Bx W' p d :=
  h.below ⟨hf.os, hf.tape, hf.output, hf.size, fun k hk => hf.block k hk fun x => x⟩
set_option maxRecDepth 20000 in
theorem Isb.fr {W W' : World} {a : Option Addr} {len b off : Nat} {X : Nat → Int} (h : Isb W a len b off X) (hf : Fr (fun _ => False) W W') : Isb W' a len b off X :=
  h.below (B := W.heap.size) ⟨hf.os, hf.tape, hf.output, hf.size, fun k hk => hf.block k hk fun x => x⟩ h.lt
set_option maxRecDepth 20000 in
theorem below_fr {a w w' : World} (h : Below a.heap.size a w) (hf : Fr (fun _ => False) w w') : Below a.heap.size a w' :=
  h.trans ⟨hf.os, hf.tape, hf.output, hf.size, fun k hk => hf.block k (Nat.lt_of_lt_of_le hk h.size) (fun x => x)⟩

set_option maxHeartbeats 1600000 in
set_option maxRecDepth 100000 in
theorem rcheck_any (w : World) (d : Dat) (h : Snd w d) : Calls Try.prog 19 #[d.v] w fun e w' => e = .returned (.int .i64 d.chk) ∧ Below w.heap.size w w' := by
  have HCT := hid fun w' (hb : Below w.heap.size w w') => rcount_any w' d (h.below hb)
  have HRT := hid fun w' => rright_any d.f w'
  have HB0 := hid (below_new w (.cells #[.int .i64 d.f.ch, .int .i64 d.f.bits, .int .i64 d.f.rate, .slice d.a d.n d.cap] 26))
  have HX0 := hid (bx_new w d)
  have H := hid h
  have hl := h.hl
  clear h
  show Calls Try.prog 19 #[.agg #[.int .i64 d.f.ch, .int .i64 d.f.bits, .int .i64 d.f.rate, .slice d.a d.n d.cap]] w _
  unfold Dat.v at HCT
  unfold Fmt.v at HRT
  go_enter Try.func19, Try.ntmps19
  go_wp2_with fail
  refine (HRT.out _).mono ?_
  rintro e w3 ⟨rfl, hb3⟩
  have HB3 := hid (HB0.out.trans (hb3.mono HB0.out.size))
  have HX3 := hid (HX0.out.below hb3)
  clear hb3
  obtain ⟨b0, b1, b2, b3⟩ := HX3.out
  by_cases hr : d.f.right
  · rw [decide_eq_true hr]
    by_cases h1 : (d.n : Int) = d.f.ch
    · have e1 : ((d.n : Int) != d.f.ch) = false := by rw [bne_eq_false_iff_eq]; exact h1
      have HC1 := hid h1
      clear h1
      go_wp2_with fail
      refine (HCT.out w3 HB3.out).mono ?_
      rintro e w4 ⟨rfl, hb4⟩
      have HB4 := hid (HB3.out.trans (hb4.mono HB3.out.size))
      have HX4 := hid (HX3.out.below hb4)
      clear hb4 b0 b1 b2 b3
      by_cases h2 : 4294967295 < d.cnt
      · have e2 : (4294967295 : Int) < (d.cnt : Int) := by omega
        have HE : Hid (d.chk = 22) := hid (by unfold Dat.chk; rw [if_neg (fun h => h hr), if_pos (.inr (.inl h2))])
        clear h2
        go_wp2_with fail
        go_ret
        exact ⟨congrArg (fun z : Int => Ending.returned (Value.int .i64 z)) HE.out.symm, HB4.out⟩
      · have e2 : ¬ (4294967295 : Int) < (d.cnt : Int) := by omega
        have HC2 := hid h2
        clear h2
        go_wp2_with fail
        go_loopg [3] d.n (fun g i wr => ∃ k : Nat, k ≤ d.n ∧ g = d.n - k ∧ i = .int .i64 k ∧ Fr (fun _ => False) w4 wr ∧ ∀ i, i < k → d.ln i = d.cnt)
        case atStart => exact ⟨0, Nat.zero_le _, rfl, rfl, Fr.refl _ _, fun j hj => absurd hj (Nat.not_lt_zero _)⟩
        case round =>
          obtain ⟨k, hk, hg, rfl, hf, hall⟩ := hrel
          have HG := hid hg
          have HA := hid hall
          clear hg hall
          have HXW := hid (HX4.out.fr hf)
          have HBW := hid (below_fr HB4.out hf)
          have HF := hid hf
          clear hf
          obtain ⟨b0, b1, b2, b3⟩ := HXW.out
          by_cases hlt : k < d.n
          · have hlt2 : (k : Int) < (d.n : Int) := by omega
            have ha := H.out.addr (by omega)
            have HAD := hid ha
            rw [ha] at b3
            clear ha
            go_wp2_with fail
            have c0 : ∀ p : Kp wr, p.w'.cell? ⟨w.heap.size, 0, none⟩ = some (.int .i64 d.f.ch) := fun p => (HXW.out.fr p.h).c0
            have c1 : ∀ p : Kp wr, p.w'.cell? ⟨w.heap.size, 1, none⟩ = some (.int .i64 d.f.bits) := fun p => (HXW.out.fr p.h).c1
            have c2 : ∀ p : Kp wr, p.w'.cell? ⟨w.heap.size, 2, none⟩ = some (.int .i64 d.f.rate) := fun p => (HXW.out.fr p.h).c2
            have c3 : ∀ p : Kp wr, p.w'.cell? ⟨w.heap.size, 3, none⟩ = some (.slice (some ⟨d.b, d.off, none⟩) d.n d.cap) := fun p => by rw [← HAD.out]; exact (HXW.out.fr p.h).c3
            have ck : ∀ p : Kp wr, p.w'.cell? ⟨d.b, d.off + k, none⟩ = some (.slice (d.la k) (d.ln k) (d.lc k)) := fun p => (H.out.below (below_fr HBW.out p.h)).c k hlt
            have HCP := hid fun p : Kp wr => HCT.out p.w' (below_fr HBW.out p.h)
            rw [HAD.out] at HCP
            refine wp_region_quiet_kp (by kernel_rfl) (by kernel_rfl) ?_
            repeat (first | go_big_quiet_step ((go_at_call 49; exact kp_below (HCP.out _))) | fail)
            refine wpQuiet_nil ?_
            intro _ hw'
            obtain ⟨⟨wq, hq⟩, hw''⟩ := hw'
            subst hw''
            have hfq := HF.out.trans hq
            have hbq := below_fr HBW.out hq
            clear hq c0 c1 c2 c3 ck b0 b1 b2 b3
            by_cases he : d.ln k = d.cnt
            · have e3 : ((d.ln k : Int) != (d.cnt : Int)) = false := by rw [bne_eq_false_iff_eq]; omega
              have HEQ := hid he
              clear he
              go_wp2_with fail
              go_roundg (d.n - (k + 1))
              case measure => rw [HG.out]; omega
              case rel => exact ⟨k + 1, by omega, rfl, by go_num, hfq, fun j hj => by
                by_cases e : j = k
                · rw [e]; exact HEQ.out
                · exact HA.out j (by omega)⟩
            · have e3 : ((d.ln k : Int) != (d.cnt : Int)) = true := bne_iff_ne.2 (by omega)
              have HE : Hid (d.chk = 22) := hid (by
                unfold Dat.chk
                rw [if_neg (fun h => h hr), if_pos (.inr (.inr ((any_iff _ _).2 ⟨k, hlt, bne_iff_ne.2 (by omega)⟩)))])
              clear he
              go_wp2_with fail
              go_ret
              exact ⟨congrArg (fun z : Int => Ending.returned (Value.int .i64 z)) HE.out.symm, hbq⟩
          · have hge : ¬ (k : Int) < (d.n : Int) := by omega
            obtain rfl : k = d.n := by omega
            have hul : d.unlike = false := by
              cases hu : d.unlike with
              | false => rfl
              | true =>
                obtain ⟨i, hi, hq⟩ := (any_iff _ _).1 hu
                exact absurd (bne_iff_ne.1 hq) (by rw [HA.out i hi]; simp)
            have hno : ¬ ((d.n : Int) ≠ d.f.ch ∨ 4294967295 < d.cnt ∨ d.unlike = true) := by
              rintro (h | h | h)
              · exact h HC1.out
              · exact HC2.out h
              · rw [hul] at h; cases h
            have HE : Hid (d.chk = if d.far = true then 21 else 0) := hid (by unfold Dat.chk; rw [if_neg (fun h => h hr), if_neg hno])
            obtain ⟨m, hm1, hm2, hm3⟩ : ∃ m : Nat, d.f.bits = ((m + 1 : Nat) : Int) ∧ m ≤ 61 ∧ d.f.bits.toNat - 1 = m := ⟨d.f.bits.toNat - 1, by have := hr.2.1; omega, by have := hr.2.1; omega, rfl⟩
            have HFAR : Hid (d.far = anyB (fun i => anyB (fun j => beyond (2 ^ m) (d.X i j)) (d.ln i)) d.n) := hid (by unfold Dat.far; rw [hm3])
            have HM := hid hm1
            have HFI := hid fun x w => fits_any x m (2 ^ m) hm2 rfl w
            have HF0 := hid HF.out
            clear hul hno hm1 hm3
            generalize 2 ^ m = P at *
            go_wp2_with fail
            go_loopg [4] d.n (fun g i wr => ∃ k : Nat, k ≤ d.n ∧ g = d.n - k ∧ i = .int .i64 k ∧ Fr (fun _ => False) w4 wr ∧ ∀ i, i < k → anyB (fun j => beyond P (d.X i j)) (d.ln i) = false)
            case atStart => exact ⟨0, Nat.zero_le _, rfl, rfl, HF0.out, fun j hj => absurd hj (Nat.not_lt_zero _)⟩
            case round =>
              obtain ⟨k, hk, hg, rfl, hf, hall⟩ := hrel
              have HG2 := hid hg
              have HA2 := hid hall
              clear hg hall b0 b1 b2 b3
              have HXV := hid (HX4.out.fr hf)
              have HBV := hid (below_fr HB4.out hf)
              have HFV := hid hf
              clear hf
              obtain ⟨b0, b1, b2, b3⟩ := HXV.out
              by_cases hlt : k < d.n
              · have hlt2 : (k : Int) < (d.n : Int) := by omega
                have HAD := hid (H.out.addr (by omega))
                obtain ⟨lb, loff, hls⟩ := H.out.l k hlt
                have HLS := hid hls
                have hll := hls.hl
                clear hls
                go_wp2_with fail
                clear b0 b1 b2 b3
                go_loopg [5] (d.ln k) (fun g i wi => ∃ j : Nat, j ≤ d.ln k ∧ g = d.ln k - j ∧ i = .int .i64 j ∧ Fr (fun _ => False) w4 wi ∧ ∀ i, i < j → beyond P (d.X k i) = false)
                case atStart => exact ⟨0, Nat.zero_le _, rfl, rfl, HFV.out, fun j hj => absurd hj (Nat.not_lt_zero _)⟩
                case round =>
                  obtain ⟨j, hj, hg, rfl, hf, hall⟩ := hrel
                  have HG3 := hid hg
                  have HA3 := hid hall
                  clear hg hall
                  have HXU := hid (HX4.out.fr hf)
                  have HBU := hid (below_fr HB4.out hf)
                  have HFU := hid hf
                  clear hf
                  obtain ⟨b0, b1, b2, b3⟩ := HXU.out
                  rw [HAD.out] at b3
                  have bk := (H.out.below HBU.out).c k hlt
                  by_cases hjl : j < d.ln k
                  · have hjl2 : (j : Int) < (d.ln k : Int) := by omega
                    have HLA := hid (HLS.out.addr (by omega))
                    go_wp2_with fail
                    have c0 : ∀ p : Kp wr, p.w'.cell? ⟨w.heap.size, 0, none⟩ = some (.int .i64 d.f.ch) := fun p => (HXU.out.fr p.h).c0
                    have c1 : ∀ p : Kp wr, p.w'.cell? ⟨w.heap.size, 1, none⟩ = some (.int .i64 ((m + 1 : Nat) : Int)) := fun p => by rw [← HM.out]; exact (HXU.out.fr p.h).c1
                    have c3 : ∀ p : Kp wr, p.w'.cell? ⟨w.heap.size, 3, none⟩ = some (.slice (some ⟨d.b, d.off, none⟩) d.n d.cap) := fun p => by rw [← HAD.out]; exact (HXU.out.fr p.h).c3
                    have ck : ∀ p : Kp wr, p.w'.cell? ⟨d.b, d.off + k, none⟩ = some (.slice (some ⟨lb, loff, none⟩) (d.ln k) (d.lc k)) := fun p => by rw [← HLA.out]; exact (H.out.below (below_fr HBU.out p.h)).c k hlt
                    have cx : ∀ p : Kp wr, p.w'.cell? ⟨lb, loff + j, none⟩ = some (.int .i64 (d.X k j)) := fun p => (HLS.out.below (below_fr HBU.out p.h) HLS.out.lt).c j hjl
                    clear b0 b1 b2 b3 bk
                    refine wp_region_quiet_kp (by kernel_rfl) (by kernel_rfl) ?_
                    repeat (first | go_big_quiet_step ((go_at_call 50; exact kp_same (HFI.out _ _))) | fail)
                    refine wpQuiet_nil ?_
                    intro _ hw'
                    obtain ⟨⟨wq, hq⟩, hw''⟩ := hw'
                    subst hw''
                    have hfq := HFU.out.trans hq
                    have hbq := below_fr HBU.out hq
                    clear hq c0 c1 c3 ck cx
                    cases he : beyond P (d.X k j) with
                    | true =>
                      have HT : Hid (d.chk = 21) := hid (by
                        have inner : anyB (fun j => beyond P (d.X k j)) (d.ln k) = true := (any_iff _ _).2 ⟨j, hjl, he⟩
                        have outer : anyB (fun i => anyB (fun j => beyond P (d.X i j)) (d.ln i)) d.n = true := (any_iff (fun i => anyB (fun j => beyond P (d.X i j)) (d.ln i)) d.n).2 ⟨k, hlt, inner⟩
                        rw [HE.out, HFAR.out, outer]; rfl)
                      clear he
                      go_wp2_with fail
                      go_ret
                      exact ⟨congrArg (fun z : Int => Ending.returned (Value.int .i64 z)) HT.out.symm, hbq⟩
                    | false =>
                      have HEQ := hid he
                      clear he
                      go_wp2_with fail
                      go_roundg (d.ln k - (j + 1))
                      case measure => rw [HG3.out]; omega
                      case rel => exact ⟨j + 1, by omega, rfl, by go_num, hfq, fun i hi => by
                        by_cases e : i = j
                        · rw [e]; exact HEQ.out
                        · exact HA3.out i (by omega)⟩
                  · have hje : ¬ (j : Int) < (d.ln k : Int) := by omega
                    have hk2 : anyB (fun j => beyond P (d.X k j)) (d.ln k) = false := by
                      cases hu : anyB (fun j => beyond P (d.X k j)) (d.ln k) with
                      | false => rfl
                      | true =>
                        obtain ⟨i, hi, hq⟩ := (any_iff _ _).1 hu
                        rw [HA3.out i (by omega)] at hq; cases hq
                    have HK2 := hid hk2
                    clear hk2
                    go_wp2_with fail
                    go_roundg (d.n - (k + 1))
                    case measure => rw [HG2.out]; omega
                    case rel => exact ⟨k + 1, by omega, rfl, by go_num, HFU.out, fun i hi => by
                      by_cases e : i = k
                      · rw [e]; exact HK2.out
                      · exact HA2.out i (by omega)⟩
              · have hge2 : ¬ (k : Int) < (d.n : Int) := by omega
                have hk2 : d.far = false := by
                  rw [HFAR.out]
                  cases hu : anyB (fun i => anyB (fun j => beyond P (d.X i j)) (d.ln i)) d.n with
                  | false => rfl
                  | true =>
                    obtain ⟨i, hi, hq⟩ := (any_iff _ _).1 hu
                    rw [HA2.out i (by omega)] at hq; cases hq
                have HT : Hid (d.chk = 0) := hid (by rw [HE.out, hk2]; rfl)
                clear hk2
                go_wp2_with fail
                go_ret
                exact ⟨congrArg (fun z : Int => Ending.returned (Value.int .i64 z)) HT.out.symm, HBV.out⟩
    · have e1 : ((d.n : Int) != d.f.ch) = true := bne_iff_ne.2 h1
      have HE : Hid (d.chk = 22) := hid (by unfold Dat.chk; rw [if_neg (fun h => h hr), if_pos (.inl h1)])
      clear h1
      go_wp2_with fail
      go_ret
      exact ⟨congrArg (fun z : Int => Ending.returned (Value.int .i64 z)) HE.out.symm, HB3.out⟩
  · rw [decide_eq_false hr]
    have HE : Hid (d.chk = 20) := hid (if_pos hr)
    clear hr
    go_wp2_with fail
    go_ret
    exact ⟨congrArg (fun z : Int => Ending.returned (Value.int .i64 z)) HE.out.symm, HB3.out⟩
end Go.Proofs.Ytkdpalmdcnpnoaa.Pcm
