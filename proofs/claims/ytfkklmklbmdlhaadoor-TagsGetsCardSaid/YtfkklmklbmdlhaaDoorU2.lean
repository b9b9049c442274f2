/- What is wrong with tags, and where: both sides. Conditions: at most 2^40 tags, texts of at most 2^40 bytes; for the program's the two tables of unicode/utf8. -/
import Derived.Test.YtfkklmklbmdlhaaDoorT9
import Derived.Test.YtfkklmklbmdlhaaDoorU1
import Derived.Deep.RegionHeld3
namespace Go.Proofs.YtfkklmklbmdlhaaDoor.Tg
open Go.RowKit Gen

/-- What is wrong with a tag. -/
def kd (T : Nat → Tag) (i : Nat) : Int := if Ky (T i).k then (if 0 ≤ fx (lk T (fold (T i).k)) i then 40 else if Vl (T i).v = true then 0 else 41) else 40
def bad (T : Nat → Tag) (i : Nat) : Bool := decide (kd T i ≠ 0)
/-- Where something is wrong with tags, and what. -/
def chk (T : Nat → Tag) (len : Nat) : Int × Int := if 64 < len then (0, 4) else match fi (bad T) len with
  | some i => ((i : Int), kd T i)
  | none => (0, 0)
theorem chk_long {T : Nat → Tag} {len : Nat} (h : 64 < len) : chk T len = (0, 4) := by unfold chk; rw [if_pos h]
theorem chk_ok {T : Nat → Tag} {len : Nat} (h : ¬ 64 < len) (hb : ∀ i, i < len → bad T i = false) : chk T len = (0, 0) := by unfold chk; rw [if_neg h, fi_none hb]
theorem chk_at {T : Nat → Tag} {len k : Nat} {e : Int} (h : ¬ 64 < len) (hb : ∀ i, i < k → bad T i = false) (hk : k < len) (he : kd T k = e) (h0 : e ≠ 0) : chk T len = ((k : Int), e) := by
  unfold chk
  rw [if_neg h, fi_some (by unfold bad; rw [he]; exact decide_eq_true h0) hb hk]
  show (_, kd T k) = _
  rw [he]
theorem kd_key {T : Nat → Tag} {i : Nat} (h : ¬ Ky (T i).k) : kd T i = 40 := by unfold kd; rw [if_neg h]
theorem kd_alike {T : Nat → Tag} {i : Nat} (h : Ky (T i).k) (h2 : 0 ≤ fx (lk T (fold (T i).k)) i) : kd T i = 40 := by unfold kd; rw [if_pos h, if_pos h2]
theorem kd_value {T : Nat → Tag} {i : Nat} (h : Ky (T i).k) (h2 : ¬ 0 ≤ fx (lk T (fold (T i).k)) i) (h3 : Vl (T i).v = false) : kd T i = 41 := by unfold kd; rw [if_pos h, if_neg h2, h3]; rfl
theorem kd_ok {T : Nat → Tag} {i : Nat} (h : Ky (T i).k) (h2 : ¬ 0 ≤ fx (lk T (fold (T i).k)) i) (h3 : Vl (T i).v = true) : kd T i = 0 := by unfold kd; rw [if_pos h, if_neg h2, h3]; rfl

set_option maxHeartbeats 1000000 in
theorem check_any (w : World) (hT : Tabs w) {a : Option Addr} {len b off : Nat} {T : Nat → Tag} (h : Tb w a len b off T) (hz : Sz T len) {cap : Nat} (hc : len ≤ cap) :
    Calls Tryd.prog 11 #[.slice a len cap] w fun e w' => e = .returned (.tuple #[.int .i64 (chk T len).1, .int .i64 (chk T len).2]) ∧ Below w.heap.size w w' := by
  obtain ⟨C, hC⟩ : ∃ C, C = chk T len := ⟨_, rfl⟩
  rw [← hC]
  have HC := hid hC
  have H := hid h
  have HT := hid hT
  have HZ := hid hz
  clear h hC hT hz
  by_cases h64 : 64 < len
  · have e0 : (64 : Int) < (len : Int) := by omega
    have HD := hid (HC.out.trans (chk_long h64))
    go_enter Tryd.func11, Tryd.ntmps11
    go_wp2_with fail
    go_ret2
    exact ⟨by rw [HD.out]; rfl, Below.refl _ _⟩
  have e0 : ¬ (64 : Int) < (len : Int) := by omega
  go_enter Tryd.func11, Tryd.ntmps11
  go_wp2_with fail
  go_loopg [11] 64 (fun g i wr => ∃ k : Nat, k ≤ len ∧ g = 64 - k ∧ i = .int .i64 k ∧ (∀ i, i < k → bad T i = false) ∧ Below w.heap.size w wr)
  case atStart => exact ⟨0, Nat.zero_le _, rfl, rfl, fun j hj => absurd hj (Nat.not_lt_zero _), Below.refl _ _⟩
  case round =>
    obtain ⟨k, hk, hg, rfl, hall, hb⟩ := hrel
    have HG := hid hg
    have HA := hid hall
    have HB := hid hb
    clear hg hall hb
    by_cases hlt : k < len
    · have hlt2 : (k : Int) < (len : Int) := by omega
      obtain rfl := H.out.addr (by omega)
      have ck := (H.out.keep HB.out).k k hlt
      have cv := (H.out.keep HB.out).v k hlt
      have HKY := hid fun w' => key_any (T k).k (HZ.out.k k hlt) w'
      have HVL := hid fun w' ht => value_any (T k).v (HZ.out.v k hlt) w' ht
      have HAL := hid fun w' => alike_any (T k).k (HZ.out.k k hlt) w'
      have HCN := hid fun (w' : World) (q : Nat) (hq : w'.cell? ⟨q, 0, none⟩ = some (.string (fold (T k).k))) (hb : Below w.heap.size w w') => contains_any (fold (T k).k) q w' hq ((H.out.keep hb).take k (by omega)) (HZ.out.take k (by omega)) cap
      have HK0 := hid fun h => kd_key (T := T) (i := k) h
      have HK1 := hid fun h h2 => kd_alike (T := T) (i := k) h h2
      have HK2 := hid fun h h2 h3 => kd_value (T := T) (i := k) h h2 h3
      have HK3 := hid fun h h2 h3 => kd_ok (T := T) (i := k) h h2 h3
      have HAT := hid fun e he h0 => HC.out.trans (chk_at (k := k) (e := e) h64 HA.out hlt he h0)
      have HOK := hid fun (he : kd T k = 0) => (fun i hi => by
        by_cases e : i = k
        · subst e; unfold bad; rw [he]; rfl
        · exact HA.out i (by omega) : ∀ i, i < k + 1 → bad T i = false)
      have HB0 := hid (HB.out.trans (((Below.refl wr.heap.size wr).alloc (Nat.le_refl _) (.cells #[.string (T k).k, .string (T k).v] 30)).mono HB.out.size))
      have hs0 : (wr.alloc (.cells #[.string (T k).k, .string (T k).v] 30)).cell? ⟨wr.heap.size, 0, none⟩ = some (.string (T k).k) := by simp
      have hs1 : (wr.alloc (.cells #[.string (T k).k, .string (T k).v] 30)).cell? ⟨wr.heap.size, 1, none⟩ = some (.string (T k).v) := by simp
      have HS0 := hid hs0
      have HS1 := hid hs1
      have hkc : (k : Int) ≤ (cap : Int) := by omega
      clear hs0 hs1
      generalize kd T k = KD at *
      generalize fold (T k).k = FK at *
      generalize fx (lk T FK) k = FX at *
      generalize (T k).v = tv at *
      generalize (T k).k = tk at *
      go_wp2_with fail
      change Calls _ _ _ (wr.alloc (.cells #[.string tk, .string tv] 30)) _
      generalize wr.alloc (.cells #[.string tk, .string tv] 30) = W0 at *
      generalize wr.heap.size = bx at *
      refine (HKY.out _).mono ?_
      rintro e w1 ⟨rfl, hb1⟩
      have HB1 := hid (HB0.out.trans (hb1.mono HB0.out.size))
      have hk1 : w1.cell? ⟨bx, 0, none⟩ = some (.string tk) := (World.cell?_of_block (a := ⟨bx, 0, none⟩) (hb1.block bx (World.block_lt_of_cell? _ _ HS0.out))).trans HS0.out
      have hv1 : w1.cell? ⟨bx, 1, none⟩ = some (.string tv) := (World.cell?_of_block (a := ⟨bx, 1, none⟩) (hb1.block bx (World.block_lt_of_cell? _ _ HS1.out))).trans HS1.out
      have HV1 := hid hv1
      clear hb1 hv1
      by_cases hky : Ky tk
      · rw [decide_eq_true hky]
        have HKYT := hid hky
        clear hky
        have HS := hid fun (w' : World) (hb : Below w1.heap.size w1 w') => (World.cell?_of_block (a := ⟨bx, 0, none⟩) (hb.block bx (World.block_lt_of_cell? _ _ hk1))).trans hk1
        have HVS := hid fun (w' : World) (hb : Below w1.heap.size w1 w') => (World.cell?_of_block (a := ⟨bx, 1, none⟩) (hb.block bx (World.block_lt_of_cell? _ _ HV1.out))).trans HV1.out
        clear hk1
        go_wp2_with fail
        have bd : Below w1.heap.size w1 w1.drew := ⟨rfl, rfl, rfl, Nat.le_refl _, fun _ _ => rfl⟩
        have S1 := HS.out _ bd
        have HS1 := hid (HS.out w1 (Below.refl _ _))
        clear HV1 HS0
        go_region_held3 (fun w' => w'.cell? ⟨bx, 0, none⟩ = some (.string tk))
          (first | with_reducible exact S1 | with_reducible exact S2 | with_reducible exact S3 | go_keep)
          ((first
            | (go_at_call 32; (with_reducible refine (HAL.out _).mono ?_); rintro e w2 ⟨rfl, hq2, hb2⟩; have b2 := bd.trans hb2; have S2 := HS.out _ b2; have q2 : w2.cell? ⟨w1.heap.size, 0, none⟩ = some (.string FK) := hq2)
            | (go_at_call 31; (refine (HCN.out _ _ q2 (HB1.out.trans (b2.mono HB1.out.size))).mono ?_); rintro e w3 ⟨rfl, hb3⟩; have b3 := b2.trans (hb3.mono b2.size); have S3 := HS.out _ b3)))
        have HB3 := hid (HB1.out.trans (b3.mono HB1.out.size))
        have hv3 := HVS.out _ b3
        have HT3 := hid (HT.out.keep HB3.out)
        clear b2 b3 hb2 hb3 hq2 q2 S1 S2 S3 bd HS1 HS
        by_cases hf : 0 ≤ FX
        · have HD := hid (HAT.out 40 (HK1.out HKYT.out hf) (by decide))
          rw [decide_eq_true hf]
          clear hf hv3
          go_wp2_with fail
          go_ret2
          exact ⟨by rw [HD.out]; rfl, HB3.out⟩
        · rw [decide_eq_false hf]
          have HF := hid hf
          clear hf
          go_wp2_with fail
          refine (HVL.out _ HT3.out).mono ?_
          rintro e w4 ⟨rfl, hb4⟩
          have HB4 := hid (HB3.out.trans (hb4.mono HB3.out.size))
          clear hb4 hv3
          cases hvl : Vl tv with
          | true =>
            have HD := hid (HOK.out (HK3.out HKYT.out HF.out hvl))
            clear hvl
            go_wp2_with fail
            go_roundg (64 - (k + 1))
            case measure => rw [HG.out]; omega
            case rel => exact ⟨k + 1, by omega, rfl, by go_num, HD.out, HB4.out⟩
          | false =>
            have HD := hid (HAT.out 41 (HK2.out HKYT.out HF.out hvl) (by decide))
            clear hvl
            go_wp2_with fail
            go_ret2
            exact ⟨by rw [HD.out]; rfl, HB4.out⟩
      · have HD := hid (HAT.out 40 (HK0.out hky) (by decide))
        rw [decide_eq_false hky]
        clear hky
        go_wp2_with fail
        go_ret2
        exact ⟨by rw [HD.out]; rfl, HB1.out⟩
    · have hge : ¬ (k : Int) < (len : Int) := by omega
      obtain rfl : k = len := by omega
      have HD := hid (HC.out.trans (chk_ok h64 HA.out))
      go_wp2_with fail
      go_ret2
      exact ⟨by rw [HD.out]; rfl, HB.out⟩

set_option maxHeartbeats 2000000 in
theorem rcheck_any (w : World) {a : Option Addr} {len b off : Nat} {T : Nat → Tag} (h : Tb w a len b off T) (hz : Sz T len) {cap : Nat} (hc : len ≤ cap) :
    Calls Tryd.prog 12 #[.slice a len cap] w fun e w' => e = .returned (.tuple #[.int .i64 (chk T len).1, .int .i64 (chk T len).2]) ∧ Below w.heap.size w w' := by
  obtain ⟨C, hC⟩ : ∃ C, C = chk T len := ⟨_, rfl⟩
  rw [← hC]
  have HC := hid hC
  have H := hid h
  have HZ := hid hz
  clear h hC hz
  by_cases h64 : 64 < len
  · have e0 : (64 : Int) < (len : Int) := by omega
    have HD := hid (HC.out.trans (chk_long h64))
    go_enter Tryd.func12, Tryd.ntmps12
    go_wp2_with fail
    go_ret2
    exact ⟨by rw [HD.out]; rfl, Below.refl _ _⟩
  have e0 : ¬ (64 : Int) < (len : Int) := by omega
  go_enter Tryd.func12, Tryd.ntmps12
  go_wp2_with fail
  go_loopg [4] 64 (fun g i wr => ∃ k : Nat, k ≤ len ∧ g = 64 - k ∧ i = .int .i64 k ∧ (∀ i, i < k → bad T i = false) ∧ Below w.heap.size w wr)
  case atStart => exact ⟨0, Nat.zero_le _, rfl, rfl, fun j hj => absurd hj (Nat.not_lt_zero _), Below.refl _ _⟩
  case round =>
    obtain ⟨k, hk, hg, rfl, hall, hb⟩ := hrel
    have HG := hid hg
    have HA := hid hall
    have HB := hid hb
    clear hg hall hb
    by_cases hlt : k < len
    · have hlt2 : (k : Int) < (len : Int) := by omega
      obtain rfl := H.out.addr (by omega)
      have HKC := hid fun w' hb => (H.out.keep (w' := w') hb).k k hlt
      have HVC := hid fun w' hb => (H.out.keep (w' := w') hb).v k hlt
      have HKY := hid fun w' => rkey_any (T k).k (HZ.out.k k hlt) w'
      have HVL := hid fun w' => rvalue_any (T k).v (HZ.out.v k hlt) w'
      have HAT1 := hid fun (w' : World) (hb : Below w.heap.size w w') => rat_any (T k).k (HZ.out.k k hlt) w' ((H.out.keep hb).take k (by omega)) (HZ.out.take k (by omega)) cap
      have HK0 := hid fun h => kd_key (T := T) (i := k) h
      have HK1 := hid fun h h2 => kd_alike (T := T) (i := k) h h2
      have HK2 := hid fun h h2 h3 => kd_value (T := T) (i := k) h h2 h3
      have HK3 := hid fun h h2 h3 => kd_ok (T := T) (i := k) h h2 h3
      have HAT := hid fun e he h0 => HC.out.trans (chk_at (k := k) (e := e) h64 HA.out hlt he h0)
      have HOK := hid fun (he : kd T k = 0) => (fun i hi => by
        by_cases e : i = k
        · subst e; unfold bad; rw [he]; rfl
        · exact HA.out i (by omega) : ∀ i, i < k + 1 → bad T i = false)
      have hkc : (k : Int) ≤ (cap : Int) := by omega
      generalize kd T k = KD at *
      generalize fx (lk T (fold (T k).k)) k = FX at *
      generalize (T k).v = tv at *
      generalize (T k).k = tk at *
      have k0 : ∀ p : Kp wr, p.w'.cell? ⟨b, off + k * 2, none⟩ = some (.string tk) := fun p => HKC.out _ (HB.out.trans ((below_of_fr p.h).mono HB.out.size))
      by_cases hky : Ky tk
      · rw [decide_eq_true hky] at HKY
        have HKYT := hid hky
        clear hky
        go_wp2_with fail
        refine wp_region_quiet_kp (by kernel_rfl) (by kernel_rfl) ?_
        repeat (first | go_big_quiet_step ((first | (go_at_call 34; exact kp_below (HKY.out _)) | (go_at_call 20; exact kp_below (HAT1.out _ (HB.out.trans ((below_of_fr (Kp.h _)).mono HB.out.size)))))) | fail)
        refine wpQuiet_nil ?_
        intro _ hw'
        obtain ⟨⟨wq, hq⟩, hw''⟩ := hw'
        subst hw''
        have HBQ := hid (HB.out.trans ((below_of_fr hq).mono HB.out.size))
        clear hq k0
        by_cases hf : 0 ≤ FX
        · have HD := hid (HAT.out 40 (HK1.out HKYT.out hf) (by decide))
          rw [decide_eq_true hf]
          clear hf
          go_wp2_with fail
          go_ret2
          exact ⟨by rw [HD.out]; rfl, HBQ.out⟩
        · rw [decide_eq_false hf]
          have HF := hid hf
          have hv3 := HVC.out _ HBQ.out
          clear hf
          go_wp2_with fail
          refine (HVL.out _).mono ?_
          rintro e w4 ⟨rfl, hb4⟩
          have HB4 := hid (HBQ.out.trans (hb4.mono HBQ.out.size))
          clear hb4 hv3
          cases hvl : Vl tv with
          | true =>
            have HD := hid (HOK.out (HK3.out HKYT.out HF.out hvl))
            clear hvl
            go_wp2_with fail
            go_roundg (64 - (k + 1))
            case measure => rw [HG.out]; omega
            case rel => exact ⟨k + 1, by omega, rfl, by go_num, HD.out, HB4.out⟩
          | false =>
            have HD := hid (HAT.out 41 (HK2.out HKYT.out HF.out hvl) (by decide))
            clear hvl
            go_wp2_with fail
            go_ret2
            exact ⟨by rw [HD.out]; rfl, HB4.out⟩
      · rw [decide_eq_false hky] at HKY
        have HD := hid (HAT.out 40 (HK0.out hky) (by decide))
        clear hky
        go_wp2_with fail
        refine wp_region_quiet_kp (by kernel_rfl) (by kernel_rfl) ?_
        repeat (first | go_big_quiet_step ((first | (go_at_call 34; exact kp_below (HKY.out _)) | (go_at_call 20; exact kp_below (HAT1.out _ (HB.out.trans ((below_of_fr (Kp.h _)).mono HB.out.size)))))) | fail)
        refine wpQuiet_nil ?_
        intro _ hw'
        obtain ⟨⟨wq, hq⟩, hw''⟩ := hw'
        subst hw''
        have HBQ := hid (HB.out.trans ((below_of_fr hq).mono HB.out.size))
        clear hq k0
        go_wp2_with fail
        go_ret2
        exact ⟨by rw [HD.out]; rfl, HBQ.out⟩
    · have hge : ¬ (k : Int) < (len : Int) := by omega
      obtain rfl : k = len := by omega
      have HD := hid (HC.out.trans (chk_ok h64 HA.out))
      go_wp2_with fail
      go_ret2
      exact ⟨by rw [HD.out]; rfl, HB.out⟩
end Go.Proofs.YtfkklmklbmdlhaaDoor.Tg
