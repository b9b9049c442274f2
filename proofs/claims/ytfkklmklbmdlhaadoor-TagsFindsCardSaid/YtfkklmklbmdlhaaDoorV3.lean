/- TagsFinds' walk: what was set is found, by whatever key that is alike; what was dropped is not; others stay. Conditions: the memory's own form, and the two tables of unicode/utf8. -/
import Derived.Test.YtfkklmklbmdlhaaDoorU9
import Derived.Test.YtfkklmklbmdlhaaDoorV2
import Derived.Test.YtfkklmklbmdlhaaDoorTk
namespace Go.Proofs.YtfkklmklbmdlhaaDoor.Tg
open Go.RowKit Gen

set_option maxRecDepth 20000 in
set_option maxHeartbeats 4000000 in
theorem finds_walk (w : World) (hT : Tabs w) {a : Option Addr} {len b off : Nat} {T : Nat → Tag} (h : Tb w a len b off T) (hm : len ≤ 9223372036854775807) {cap : Nat} (hn : a = none → len = 0 ∧ cap = 0) (t : Tag) :
    Calls Tryd.prog 5 #[.slice a len cap, .agg #[.string t.k, .string t.v]] w fun e w' => e = .returned (.bool true) ∧ Below w.heap.size w w' := by
  have HK := hid known_true
  have HB0 := hid (bel_new w (.cells #[.string t.k, .string t.v] 30))
  have hs0 : (w.alloc (.cells #[.string t.k, .string t.v] 30)).cell? ⟨w.heap.size, 0, none⟩ = some (.string t.k) := by simp
  have hs1 : (w.alloc (.cells #[.string t.k, .string t.v] 30)).cell? ⟨w.heap.size, 1, none⟩ = some (.string t.v) := by simp
  have HS0 := hid fun (w' : World) (hb : Below (w.alloc (.cells #[.string t.k, .string t.v] 30)).heap.size (w.alloc (.cells #[.string t.k, .string t.v] 30)) w') => (World.cell?_of_block (a := ⟨w.heap.size, 0, none⟩) (hb.block w.heap.size (World.block_lt_of_cell? _ _ hs0))).trans hs0
  have HS1 := hid fun (w' : World) (hb : Below (w.alloc (.cells #[.string t.k, .string t.v] 30)).heap.size (w.alloc (.cells #[.string t.k, .string t.v] 30)) w') => (World.cell?_of_block (a := ⟨w.heap.size, 1, none⟩) (hb.block w.heap.size (World.block_lt_of_cell? _ _ hs1))).trans hs1
  have HTB := hid (h.keep HB0.out)
  have HTA := hid (hT.keep HB0.out)
  have HFEW := hid (few_any _ HTB.out hm cap)
  have HSZ := hid HB0.out.size
  clear hs0 hs1 h hT
  by_cases hbad : Fw T len ∧ ¬ 100 < t.k.size ∧ ¬ 1500 < t.v.size
  · obtain ⟨hf, hk, hv⟩ := hbad
    rw [decide_eq_true hf] at HFEW
    have hzz := hf.sz
    have hl : len ≤ 1073741824 := by have := hf.2; omega
    have hk9 : t.k.size ≤ 1099511627776 := by omega
    have hv9 : t.v.size ≤ 1099511627776 := by omega
    have hszm : Sz (gt (stt T len t)) (stt T len t).length := by
      unfold stt; split
      · exact hzz.app hk9 hv9 hl
      · exact hzz.put hk9 hv9 _
    have H1 := hid fun (w' : World) (hb : Below (w.alloc (.cells #[.string t.k, .string t.v] 30)).heap.size (w.alloc (.cells #[.string t.k, .string t.v] 30)) w') => set_any w' (HTA.out.keep hb) (HTB.out.keep hb) hn hl hzz t hk9 hv9
    have HFO := hid fun (w' : World) => fold_any t.k hk9 w'
    have HRF := hid fun (w' : World) => rfold_any t.k hk9 w'
    have HRI := hid fun (i : Nat) (hi : i < len) (w' : World) => rfold_any (T i).k (hzz.k i hi) w'
    have hfz : (fold t.k).size ≤ 1099511627776 := by rw [fold_size]; exact hk9
    have hff := fold_fold t.k
    have HM1 := hid fun (w' : World) (ao : Option Addr) (b1 : Nat) (tb : Tb w' ao (stt T len t).length b1 0 (gt (stt T len t))) (cp : Nat) => find_any w' tb hszm (fold t.k) hfz cp
    have HM2 := hid fun (w' : World) (ao : Option Addr) (b1 : Nat) (tb : Tb w' ao (stt T len t).length b1 0 (gt (stt T len t))) (i : Nat) (hi : i < len) (cp : Nat) => find_any w' tb hszm (T i).k (hzz.k i hi) cp
    have HM3 := hid fun (w' : World) (ao : Option Addr) (cp b1 : Nat) (tb : Tb w' ao (stt T len t).length b1 0 (gt (stt T len t))) (hn' : ao = none → (stt T len t).length = 0 ∧ cp = 0) (hl' : (stt T len t).length ≤ 1073741824) => drop_any w' tb hn' hl' hszm (fold t.k) hfz
    have HM4 := hid fun (w' : World) (ao : Option Addr) (b1 o1 : Nat) (tb : Tb w' ao (flt (fold t.k) (stt T len t)).length b1 o1 (gt (flt (fold t.k) (stt T len t)))) (cp : Nat) => find_any w' tb (hszm.drops (fold t.k)) t.k hk9 cp
    rw [hff, lst_gt] at HM3
    rw [hff] at HM1
    have hplc := stt_at (T := T) (len := len) (t := t)
    have hno := flt_none (fold t.k) (stt T len t)
    have hfn : fx (lk (gt (flt (fold t.k) (stt T len t))) (fold t.k)) (flt (fold t.k) (stt T len t)).length = -1 := fx_none hno
    rw [hfn] at HM4
    have huq := fun h => uq_of (T := gt (stt T len t)) (n := (stt T len t).length) h
    have HUV := hid fun h => (huq h).fx hplc.1
    have HUD := hid fun h => (huq h).drops hplc.1
    rw [hplc.2.1] at HUV HUD
    rw [lst_gt] at HUD
    have HVT := hid (show (gt (stt T len t) (plc T len (fold t.k))).v = t.v by rw [hplc.2.1])
    have HUI := hid fun h (i : Nat) (hi : i < len) (hne : fold (T i).k ≠ fold t.k) => (show fx (lk (gt (stt T len t)) (fold (T i).k)) (stt T len t).length = (i : Int) ∧ (gt (stt T len t) i).v = (T i).v by
      have h1 := hplc.2.2 i hi hne
      have h2 := (huq h).fx h1.1
      rw [h1.2] at h2
      exact ⟨h2, by rw [h1.2]⟩)
    have HLE := hid (show (stt T len t).length ≤ 71 ∧ 1 ≤ (stt T len t).length by
      have h70 := hf.2
      have h1 := hplc.1
      have hsl : (stt T len t).length ≤ len + 1 := by
        unfold stt; split
        · rw [List.length_append, lst_len]; exact Nat.le_refl _
        · rw [List.length_set, lst_len]; omega
      omega)
    have hki : ¬ (100 : Int) < (t.k.size : Int) := by omega
    have hvi : ¬ (1500 : Int) < (t.v.size : Int) := by omega
    have HKI := hid fun (w' : World) (hb : Below (w.alloc (.cells #[.string t.k, .string t.v] 30)).heap.size (w.alloc (.cells #[.string t.k, .string t.v] 30)) w') i hi => (HTB.out.keep hb).k i hi
    have HVI := hid fun (w' : World) (hb : Below (w.alloc (.cells #[.string t.k, .string t.v] 30)).heap.size (w.alloc (.cells #[.string t.k, .string t.v] 30)) w') i hi => (HTB.out.keep hb).v i hi
    have h70 : len ≤ 70 := hf.2
    clear hf hk hv hzz hk9 hv9 hl hm hn hszm hfz hff hplc hno hfn huq
    generalize plc T len (fold t.k) = P at *
    generalize hNN : flt (fold t.k) (stt T len t) = N at *
    clear hNN
    generalize hMM : stt T len t = M at *
    clear hMM
    generalize hKF : fold t.k = kf at *
    clear hKF
    have hs0 := HS0.out _ (Below.refl _ _)
    have hs1 := HS1.out _ (Below.refl _ _)
    go_enter Tryd.func5, Tryd.ntmps5
    go_wp2_with fail
    change Calls _ _ _ (w.alloc (.cells #[.string t.k, .string t.v] 30)) _
    generalize (w.alloc (.cells #[.string t.k, .string t.v] 30)) = W0 at *
    refine HFEW.out.mono ?_
    rintro e w1 ⟨rfl, hb1⟩
    have HB1 := hid hb1
    clear hs0 hs1 hb1
    have hs0 := HS0.out _ HB1.out
    have hs1 := HS1.out _ HB1.out
    go_wp2_with fail
    refine (H1.out _ HB1.out).mono ?_
    rintro e w2 ⟨ao2, c2, rfl, ho2, hb2⟩
    have HB2 := hid (HB1.out.trans (hb2.mono HB1.out.size))
    clear hs0 hs1 hb2
    have HC0 := hid (show ∀ h : (chk (gt M) M.length).2 = 0, okT M = M from fun h => by unfold okT; rw [if_pos h])
    have HC1 := hid (show ∀ h : ¬ (chk (gt M) M.length).2 = 0, okT M = [] from fun h => by unfold okT; rw [if_neg h])
    by_cases hc0 : (chk (gt M) M.length).2 = 0
    · have HCH := hid hc0
      rw [HC0.out hc0] at ho2 ⊢
      rw [hc0]
      have HO2 := hid ho2
      have HNN := hid fun (e : ao2 = none) => (show M.length = 0 ∧ c2 = 0 by
        rcases own_at ho2 with ⟨_, h1, h2⟩ | ⟨g, e', _⟩
        · exact ⟨h1, h2⟩
        · rw [e] at e'; cases e')
      have hs0 := HS0.out _ HB2.out
      have hs1 := HS1.out _ HB2.out
      have HLN := hid HLE.out
      obtain ⟨hl71, hl1⟩ := HLE.out
      clear hc0 ho2
      go_wp2_with fail
      refine (HFO.out _).mono ?_
      rintro e w3 ⟨rfl, hb3⟩
      have HB3 := hid (HB2.out.trans (hb3.mono HB2.out.size))
      have HO3 := hid (HO2.out.keep hb3)
      obtain ⟨q3, t3, _, _⟩ := HO3.out.tb
      have hfi := HM1.out _ _ _ t3 c2
      rw [HUV.out HCH.out] at hfi
      have hv0 : valAt (gt M) (P : Int) = t.v := by
        unfold valAt
        rw [if_neg (by omega), Int.toNat_natCast]
        exact HVT.out
      rw [hv0, decide_eq_true (show (0 : Int) ≤ (P : Int) by omega)] at hfi
      have HFI := hid hfi
      clear hs0 hs1 hb3 t3 hfi hv0
      have hs0 := HS0.out _ HB3.out
      have hs1 := HS1.out _ HB3.out
      go_wp2_with fail
      refine HFI.out.mono ?_
      rintro e w4 ⟨rfl, hb4⟩
      have HB4 := hid (HB3.out.trans (hb4.mono HB3.out.size))
      have HO4 := hid (HO3.out.keep hb4)
      clear hs0 hs1 hb4
      have hs0 := HS0.out _ HB4.out
      have hs1 := HS1.out _ HB4.out
      go_wp2_with fail
      refine (HFO.out _).mono ?_
      rintro e w5 ⟨rfl, hb5⟩
      have HB5 := hid (HB4.out.trans (hb5.mono HB4.out.size))
      have HO5 := hid (HO4.out.keep hb5)
      obtain ⟨q5, t5, _, _⟩ := HO5.out.tb
      have HDR := hid (HM3.out _ _ _ _ t5 HNN.out (by omega))
      clear hs0 hs1 hb5 t5
      have hs0 := HS0.out _ HB5.out
      have hs1 := HS1.out _ HB5.out
      go_wp2_with fail
      refine HDR.out.mono ?_
      rintro e w6 ⟨ao6, c6, q6, o6, rfl, t6, hb6⟩
      have HB6 := hid (HB5.out.trans (hb6.mono HB5.out.size))
      have HO6 := hid (HO5.out.keep hb6)
      have HST := hid (HM4.out _ _ _ _ t6 c6)
      clear hs0 hs1 hb6 t6
      have hs0 := HS0.out _ HB6.out
      have hs1 := HS1.out _ HB6.out
      go_wp2_with fail
      refine HST.out.mono ?_
      rintro e w7 ⟨rfl, hb7⟩
      have HB7 := hid (HB6.out.trans (hb7.mono HB6.out.size))
      have HO7 := hid (HO6.out.keep hb7)
      clear hs0 hs1 hb7
      have hs0 := HS0.out _ HB7.out
      have hs1 := HS1.out _ HB7.out
      have hvv : (t.v.toList != t.v.toList) = false := by simp
      have hln : ((N.length : Int) != (M.length : Int) - 1) = false := by
        have := HUD.out HCH.out
        rw [bne_eq_false_iff_eq]; omega
      have hnl : N.length ≤ 71 := by have := HUD.out HCH.out; omega
      go_wp2_with fail
      clear hvv hln hs0 hs1
      go_loopg [12] len (fun g i wr => ∃ k : Nat, k ≤ len ∧ g = len - k ∧ i = .int .i64 k ∧ Below W0.heap.size W0 wr ∧ Ow wr w1.heap.size ao2 c2 M)
      case atStart => exact ⟨0, Nat.zero_le _, rfl, rfl, HB7.out, HO7.out⟩
      case round =>
        obtain ⟨k, hk, hg, rfl, hb, ho⟩ := hrel
        have HG := hid hg
        have HB8 := hid hb
        have HO8 := hid ho
        clear hg hb ho
        by_cases hlt : k < len
        · have hlt2 : (k : Int) < (len : Int) := by omega
          obtain rfl := HTB.out.addr (by omega)
          obtain ⟨q8, t8, _, _⟩ := HO8.out.tb
          have hfi := HM2.out _ _ _ t8 k hlt c2
          have ck := HKI.out _ HB8.out k hlt
          clear t8
          by_cases hne : fold (T k).k = kf
          · have HFI := hid hfi
            have HRI1 := hid fun w' => HRI.out k hlt w'
            clear hfi
            generalize fold (T k).k = FK at *
            subst hne
            have hnn : (FK.toList != FK.toList) = false := by simp
            generalize valAt (gt M) (fx (lk (gt M) FK) M.length) = V at *
            generalize decide (0 ≤ fx (lk (gt M) FK) M.length) = O at *
            go_wp2_with fail
            refine HFI.out.mono ?_
            rintro e w9 ⟨rfl, hb9⟩
            have HB9 := hid (HB8.out.trans (hb9.mono HB8.out.size))
            have HO9 := hid (HO8.out.keep hb9)
            clear hb9 ck
            have k0 : ∀ p : Kp w9, p.w'.cell? ⟨b, off + k * 2, none⟩ = some (.string (T k).k) := fun p => HKI.out _ (HB9.out.trans ((below_of_fr p.h).mono HB9.out.size)) k hlt
            have k1 : ∀ p : Kp w9, p.w'.cell? ⟨w.heap.size, 0, none⟩ = some (.string t.k) := fun p => HS0.out _ (HB9.out.trans ((below_of_fr p.h).mono HB9.out.size))
            go_wp2_with fail
            refine wp_region_quiet_kp (by kernel_rfl) (by kernel_rfl) ?_
            repeat (first | go_big_quiet_step ((first | (go_at_call 22; with_reducible exact kp_below (HRI1.out _)) | (go_at_call 22; with_reducible exact kp_below (HRF.out _)))) | fail)
            refine wpQuiet_nil ?_
            intro _ hw'
            obtain ⟨⟨wq, hq⟩, hw''⟩ := hw'
            subst hw''
            have HBQ := hid (HB9.out.trans ((below_of_fr hq).mono HB9.out.size))
            have HOQ := hid (HO9.out.keep (below_of_fr hq))
            clear hq k0 k1
            go_wp2_with fail
            go_roundg (len - (k + 1))
            case measure => rw [HG.out]; omega
            case rel => exact ⟨k + 1, by omega, rfl, by go_num, HBQ.out, HOQ.out⟩
          · obtain ⟨hf1, hf2⟩ := HUI.out HCH.out k hlt hne
            rw [hf1] at hfi
            have hv0 : valAt (gt M) (k : Int) = (T k).v := by
              unfold valAt
              rw [if_neg (by omega), Int.toNat_natCast]
              exact hf2
            rw [hv0, decide_eq_true (show (0 : Int) ≤ (k : Int) by omega)] at hfi
            have HFI := hid hfi
            have HRI1 := hid fun w' => HRI.out k hlt w'
            have hnn : ((fold (T k).k).toList != kf.toList) = true := by unfold bne; rw [beq_text, decide_eq_false hne]; rfl
            have hnn2 : ((fold (T k).k).toList == kf.toList) = false := by rw [beq_text, decide_eq_false hne]
            have hvv : ((T k).v.toList != (T k).v.toList) = false := by simp
            clear hfi hne hf1 hf2 hv0
            generalize fold (T k).k = FK at *
            go_wp2_with fail
            refine HFI.out.mono ?_
            rintro e w9 ⟨rfl, hb9⟩
            have HB9 := hid (HB8.out.trans (hb9.mono HB8.out.size))
            have HO9 := hid (HO8.out.keep hb9)
            clear hb9 ck
            have k0 : ∀ p : Kp w9, p.w'.cell? ⟨b, off + k * 2, none⟩ = some (.string (T k).k) := fun p => HKI.out _ (HB9.out.trans ((below_of_fr p.h).mono HB9.out.size)) k hlt
            have k1 : ∀ p : Kp w9, p.w'.cell? ⟨w.heap.size, 0, none⟩ = some (.string t.k) := fun p => HS0.out _ (HB9.out.trans ((below_of_fr p.h).mono HB9.out.size))
            have k2 : ∀ p : Kp w9, p.w'.cell? ⟨b, off + k * 2 + 1, none⟩ = some (.string (T k).v) := fun p => HVI.out _ (HB9.out.trans ((below_of_fr p.h).mono HB9.out.size)) k hlt
            go_wp2_with fail
            refine wp_region_quiet_kp (by kernel_rfl) (by kernel_rfl) ?_
            repeat (first | go_big_quiet_step ((first | (go_at_call 22; with_reducible exact kp_below (HRI1.out _)) | (go_at_call 22; with_reducible exact kp_below (HRF.out _)))) | fail)
            refine wpQuiet_nil ?_
            intro _ hw'
            obtain ⟨⟨wq, hq⟩, hw''⟩ := hw'
            subst hw''
            have HBQ := hid (HB9.out.trans ((below_of_fr hq).mono HB9.out.size))
            have HOQ := hid (HO9.out.keep (below_of_fr hq))
            clear hq k0 k1 k2
            go_wp2_with fail
            go_roundg (len - (k + 1))
            case measure => rw [HG.out]; omega
            case rel => exact ⟨k + 1, by omega, rfl, by go_num, HBQ.out, HOQ.out⟩
        · have hge : ¬ (k : Int) < (len : Int) := by omega
          go_wp2_with fail
          refine (HK.out _).mono ?_
          rintro e wk ⟨rfl, hbk⟩
          have HBK := hid (HB8.out.trans (hbk.mono HB8.out.size))
          clear hbk
          go_wp2_with fail
          go_ret
          exact ⟨rfl, HB0.out.trans (HBK.out.mono HSZ.out)⟩
    · rw [HC1.out hc0]
      have hcn : ((chk (gt M) M.length).2 != 0) = true := by rw [bne_iff_ne]; exact hc0
      have hl0 : ([] : List Tag).length = 0 := rfl
      rw [hl0]
      have HCH := hid hc0
      clear hc0 ho2
      generalize (chk (gt M) M.length).2 = C at *
      go_wp2_with fail
      refine (HK.out _).mono ?_
      rintro e wk ⟨rfl, hbk⟩
      have HBK := hid (HB2.out.trans (hbk.mono HB2.out.size))
      clear hbk
      go_wp2_with fail
      go_ret
      exact ⟨rfl, HB0.out.trans (HBK.out.mono HSZ.out)⟩
  · have hs0 := HS0.out _ (Below.refl _ _)
    have hs1 := HS1.out _ (Below.refl _ _)
    have HBAD := hid hbad
    clear hbad
    go_enter Tryd.func5, Tryd.ntmps5
    go_wp2_with fail
    change Calls _ _ _ (w.alloc (.cells #[.string t.k, .string t.v] 30)) _
    generalize w.alloc (.cells #[.string t.k, .string t.v] 30) = W0 at *
    refine HFEW.out.mono ?_
    rintro e w9 ⟨rfl, hb9⟩
    have HB9 := hid hb9
    clear hs0 hs1 hb9
    have hs0 := HS0.out _ HB9.out
    have hs1 := HS1.out _ HB9.out
    by_cases hf : Fw T len
    · rw [decide_eq_true hf]
      by_cases hk : 100 < t.k.size
      · have hki : (100 : Int) < (t.k.size : Int) := by omega
        clear hf hk
        go_wp2_with fail
        refine (HK.out _).mono ?_
        rintro e wk ⟨rfl, hbk⟩
        have HBK := hid (HB9.out.trans (hbk.mono HB9.out.size))
        clear hbk
        go_wp2_with fail
        go_ret
        exact ⟨rfl, HB0.out.trans (HBK.out.mono HSZ.out)⟩
      have hki : ¬ (100 : Int) < (t.k.size : Int) := by omega
      have hvi : (1500 : Int) < (t.v.size : Int) := by
        rcases Nat.lt_or_ge 1500 t.v.size with e9 | e9
        · omega
        · exact absurd ⟨hf, hk, by omega⟩ HBAD.out
      clear hf hk
      go_wp2_with fail
      refine (HK.out _).mono ?_
      rintro e wk ⟨rfl, hbk⟩
      have HBK := hid (HB9.out.trans (hbk.mono HB9.out.size))
      clear hbk
      go_wp2_with fail
      go_ret
      exact ⟨rfl, HB0.out.trans (HBK.out.mono HSZ.out)⟩
    · rw [decide_eq_false hf]
      clear hf
      go_wp2_with fail
      refine (HK.out _).mono ?_
      rintro e wk ⟨rfl, hbk⟩
      have HBK := hid (HB9.out.trans (hbk.mono HB9.out.size))
      clear hbk
      go_wp2_with fail
      go_ret
      exact ⟨rfl, HB0.out.trans (HBK.out.mono HSZ.out)⟩
end Go.Proofs.YtfkklmklbmdlhaaDoor.Tg
