/- What a list costs with an order: Cost, of the program and of the document. Condition: the list lies in memory. -/
import Derived.Test.YtjimamjhakainaaSZf
import Derived.Test.YtjimamjhakainaaSYr
namespace Go.Proofs.Ytjimamjhakainaa.Part
open Go.RowKit Bit Rice Runs

theorem lcc_ok {I : Nat → Int} {len : Nat} {p : Int} (h : cd I len) (h2 : ord len p) : lcc I len p = lc I len p.toNat := if_pos ⟨h, h2⟩
theorem lcc_no {I : Nat → Int} {len : Nat} {p : Int} (h : ¬ (cd I len ∧ ord len p)) : lcc I len p = 0 := if_neg h
theorem ord_nat {len : Nat} {p : Int} (h : ord len p) : ∃ q : Nat, p = (q : Int) ∧ q ≤ 6 := by
  obtain ⟨h1, h2⟩ := h
  unfold fin at h2
  exact ⟨p.toNat, by omega, by omega⟩
theorem is_below {w w' : World} {a : Option Addr} {len cap b off : Nat} {I : Nat → Int} (h : Is w a len cap b off I) (hb : Below w.heap.size w w') : Is w' a len cap b off I := h.below hb h.lt

set_option maxRecDepth 100000 in
set_option maxHeartbeats 1000000 in
theorem pcost_any (w : World) (a : Option Addr) (len cap b off : Nat) (I : Nat → Int) (h : Is w a len cap b off I) (hlen : len ≤ 1000000) (p : Int) :
    Calls Try.prog 18 #[.slice a len cap, .int .i64 p] w (CoPost w (lcc I len p)) := by
  have HCD := hid (pcoded_any w a len cap b off I h)
  have HO := hid (isorder_any len (by omega) p w)
  have H := hid h
  clear h
  go_enter Try.func18, Try.ntmps18
  go_wp2_with fail
  refine HCD.out.mono ?_
  rintro e w' ⟨x, rfl, rfl, hx⟩
  by_cases hc : cd I len
  · obtain rfl : x = true := hx.2 hc
    have HC := hid hc
    clear hx hc
    go_wp2_with fail
    refine HO.out.mono ?_
    rintro e w' ⟨rfl, rfl⟩
    by_cases ho : ord len p
    · rw [decide_eq_true ho]
      have HE := hid (lcc_ok HC.out ho)
      obtain ⟨q, rfl, hq⟩ := ord_nat ho
      rw [Int.toNat_natCast] at HE
      clear ho
      go_wp2_with fail
      refine (tallies_any a len cap b off I q (2 ^ q) hq rfl w H.out HC.out.2 HC.out.1).mono ?_
      rintro e w2 ⟨g, rfl, ht, hg, hg2, hb2⟩
      have HB2 := hid hb2
      have HCO := hid (cost_all a len cap b off I q (2 ^ q) g (2 ^ q) hq rfl w2 (is_below H.out hb2) HC.out.2 HC.out.1 ht hg2)
      clear ht hg hg2 hb2
      go_wp2_with fail
      refine HCO.out.mono ?_
      rintro e w3 ⟨rfl, hb3⟩
      have HB3 := hid hb3
      clear hb3
      go_wp2_with fail
      go_ret
      exact ⟨by rw [HE.out]; first | done | rfl, HB2.out.trans (HB3.out.mono HB2.out.size)⟩
    · rw [decide_eq_false ho]
      have HE := hid (lcc_no (I := I) (len := len) (p := p) fun g => ho g.2)
      clear ho
      go_wp2_with fail
      go_ret
      exact ⟨by rw [HE.out]; rfl, Below.refl _ _⟩
  · obtain rfl : x = false := by
      cases x with
      | false => rfl
      | true => exact absurd (hx.1 rfl) hc
    have HE := hid (lcc_no (I := I) (len := len) (p := p) fun g => hc g.1)
    clear hx hc
    go_wp2_with fail
    go_ret
    exact ⟨by rw [HE.out]; rfl, Below.refl _ _⟩

set_option maxRecDepth 100000 in
set_option maxHeartbeats 2000000 in
theorem rcost_any (w : World) (a : Option Addr) (len cap b off : Nat) (I : Nat → Int) (h : Is w a len cap b off I) (hlen : len ≤ 1000000) (p : Int) :
    Calls Try.prog 19 #[.slice a len cap, .int .i64 p] w (CoPost w (lcc I len p)) := by
  have HCD := hid (rmay_any w a len cap b off I h)
  have HO := hid (rorder_any len (by omega) p w)
  have H := hid h
  have HLC := hid h.hl
  clear h
  go_enter Try.func19, Try.ntmps19
  go_wp2_with fail
  refine HCD.out.mono ?_
  rintro e w' ⟨x, rfl, rfl, hx⟩
  by_cases hc : cd I len
  · obtain rfl : x = true := hx.2 hc
    have HC := hid hc
    clear hx hc
    go_wp2_with fail
    refine HO.out.mono ?_
    rintro e w' ⟨rfl, rfl⟩
    by_cases ho : ord len p
    · rw [decide_eq_true ho]
      have HE := hid (lcc_ok HC.out ho)
      obtain ⟨q, rfl, hq⟩ := ord_nat ho
      rw [Int.toNat_natCast] at HE
      clear ho
      have hlen2 := HC.out.1
      obtain ⟨y, hy⟩ : ∃ y, 2 ^ q = y := ⟨_, rfl⟩
      have hy64 : y ≤ 64 := by rw [← hy]; exact Nat.pow_le_pow_right (n := 2) (by decide) hq
      have HPW := hid fun w' => power_p q y hq hy w'
      have HBD := hid fun i w' (hi : i < y) => rbounds_any len q i hlen2 hq (by rw [hy]; exact hi) w'
      have HISP := hid fun i (w' : World) (hi : i < y) (his : Is w' a len cap b off I) => is_part his q i (by rw [hy]; exact hi)
      have HZP := hid fun i (hi : i < y) => allZ_part HC.out.2 q i (by rw [hy]; exact hi)
      have HSM := hid fun k (hk : k ≤ y) => csum_small I len q HC.out.2 hlen2 hq k (by rw [hy]; exact hk)
      have HPN := hid fun i (hi : i < y) => pn_le len q i (by rw [hy]; exact hi)
      have HBM := hid fun i => bd_mono len q i
      have HBL := hid fun i (hi : i ≤ y) => bd_le len q i (by rw [hy]; exact hi)
      have HFE : RowKit.Hid (csum I len q y = lc I len q) := hid (by unfold lc; rw [hy])
      have HCN := hid (show ∀ k, csum I len q (k + 1) = csum I len q k + pcost I len q k from fun _ => rfl)
      clear hy
      go_wp2_with fail
      go_loopg [5, 6] y (fun g v i wr => ∃ (j : Nat), j ≤ y ∧ g = y - j ∧ i = .int .i64 j ∧ v = .int .i64 (csum I len q j : Int) ∧ Below w.heap.size w wr)
      case atStart => exact ⟨0, Nat.zero_le _, rfl, rfl, rfl, Below.refl _ _⟩
      case round =>
        obtain ⟨j, hj, hg, rfl, rfl, hb⟩ := hrel
        have HG := hid hg
        have HB := hid hb
        clear hg hb
        by_cases hlt : j < y
        · have hlt2 : (j : Int) < (y : Int) := by omega
          have HBJ := hid (HBD.out j wr hlt)
          have hbm := HBM.out j
          have hbl := HBL.out (j + 1) (by omega)
          have hlc := HLC.out
          have hisd := fun (nq : Nat) => HISP.out j (wr.drewN nq) hlt (is_below H.out (below_drewN HB.out nq))
          have HRC := hid fun (nq : Nat) => rchoose_any (wr.drewN nq) _ _ _ _ _ _ (hisd nq) (by have := HPN.out j hlt; omega) (HZP.out j hlt)
          have hpe : pn len q j = bd len q (j + 1) - bd len q j := rfl
          have HPC : RowKit.Hid ((wy (pI I len q j) (pn len q j)).2.2 = pcost I len q j) := hid rfl
          generalize wy (pI I len q j) (pn len q j) = way at *
          rw [hpe] at HRC
          unfold ptA at HRC
          have HS1 := hid (HCN.out j)
          have HS2 := hid (HSM.out (j + 1) hlt)
          clear hisd hpe
          generalize bd len q j = f at *
          generalize bd len q (j + 1) = t at *
          obtain ⟨hw1, hw2⟩ := wr_sum (csum I len q j) (pcost I len q j) (csum I len q (j + 1)) HS1.out.symm (by have h1 := HS1.out; have h2 := HS2.out; omega)
          have HW1 := hid hw1
          clear hw1 hw2
          by_cases e : cap = f
          · rw [if_pos e] at HRC
            subst e
            rw [Nat.sub_self] at HRC
            go_wp2_with fail
            refine (HPW.out wr).mono ?_
            rintro e w' ⟨rfl, rfl⟩
            go_wp2_with fail
            refine HBJ.out.mono ?_
            rintro e w2 ⟨rfl, nq, rfl⟩
            go_wp2_with fail
            refine (HRC.out nq).mono ?_
            rintro e w3 ⟨rfl, hb3⟩
            rw [HPC.out]
            have HB3 : RowKit.Hid (Below w.heap.size w (w3.alloc (.cells #[.int .i64 (way.1 : Int), .int .i64 (way.2.1 : Int)] 29))) := hid (((below_drewN HB.out nq).trans (hb3.mono HB.out.size)).alloc (by exact Nat.le_trans HB.out.size hb3.size) _)
            clear hb3
            go_wp2_with fail
            go_roundg (y - (j + 1))
            case measure => rw [HG.out]; omega
            case rel => exact ⟨j + 1, by omega, rfl, by go_num, by rw [HW1.out], HB3.out⟩
          · rw [if_neg e] at HRC
            go_wp2_with fail
            refine (HPW.out wr).mono ?_
            rintro e w' ⟨rfl, rfl⟩
            go_wp2_with fail
            refine HBJ.out.mono ?_
            rintro e w2 ⟨rfl, nq, rfl⟩
            go_wp2_with fail
            refine (HRC.out nq).mono ?_
            rintro e w3 ⟨rfl, hb3⟩
            rw [HPC.out]
            have HB3 : RowKit.Hid (Below w.heap.size w (w3.alloc (.cells #[.int .i64 (way.1 : Int), .int .i64 (way.2.1 : Int)] 29))) := hid (((below_drewN HB.out nq).trans (hb3.mono HB.out.size)).alloc (by exact Nat.le_trans HB.out.size hb3.size) _)
            clear hb3
            go_wp2_with fail
            go_roundg (y - (j + 1))
            case measure => rw [HG.out]; omega
            case rel => exact ⟨j + 1, by omega, rfl, by go_num, by rw [HW1.out], HB3.out⟩
        · have hge : ¬ (j : Int) < (y : Int) := by omega
          obtain rfl : y = j := by omega
          rw [HFE.out]
          go_wp2_with fail
          refine (HPW.out wr).mono ?_
          rintro e w' ⟨rfl, rfl⟩
          go_wp2_with fail
          go_ret
          exact ⟨by rw [HE.out]; first | done | rfl, HB.out⟩
    · rw [decide_eq_false ho]
      have HE := hid (lcc_no (I := I) (len := len) (p := p) fun g => ho g.2)
      clear ho
      go_wp2_with fail
      go_ret
      exact ⟨by rw [HE.out]; rfl, Below.refl _ _⟩
  · obtain rfl : x = false := by
      cases x with
      | false => rfl
      | true => exact absurd (hx.1 rfl) hc
    have HE := hid (lcc_no (I := I) (len := len) (p := p) fun g => hc g.1)
    clear hx hc
    go_wp2_with fail
    go_ret
    exact ⟨by rw [HE.out]; rfl, Below.refl _ _⟩
end Go.Proofs.Ytjimamjhakainaa.Part
namespace Go.Proofs.Ytjimamjhakainaa.Part
open Go.RowKit Bit Rice Runs

def bo (I : Nat → Int) (len : Nat) : Nat × Nat := if cd I len then up I len (fin len) else (0, 0)
def OrdPost (w : World) (x : Nat × Nat) (e : Ending) (w' : World) : Prop := e = .returned (.tuple #[.int .i64 (x.1 : Int), .int .i64 (x.2 : Int)]) ∧ Below w.heap.size w w'
theorem wr_q (q : Nat) (h : q + 1 ≤ 6) : wrap64 (q : Int) = (q : Int) := IntWalk.wrap64_in _ (by omega)
theorem fin_le (n : Nat) : fin n ≤ 6 := by unfold fin; omega
/-- What stands while Order goes down. -/
def OSt (w : World) (I : Nat → Int) (len F k : Nat) (va vb vc vd : Value) (wr : World) : Prop := ∃ (p y g : Nat), k ≤ F ∧ p = F - k ∧ 2 ^ p = y ∧ va = .int .i64 (p : Int) ∧ vb = .slice (some ⟨g, 0, none⟩) y y ∧ vc = .int .i64 ((dn I len F k).1 : Int) ∧ vd = .int .i64 ((dn I len F k).2 : Int) ∧ Tl wr g I len p y (List.range y) ∧ g < wr.heap.size ∧ Below w.heap.size w wr
theorem dn_yes {I : Nat → Int} {len F k : Nat} (h : lc I len (F - (k + 1)) ≤ (dn I len F k).2) : dn I len F (k + 1) = (F - (k + 1), lc I len (F - (k + 1))) := if_pos h
theorem dn_no {I : Nat → Int} {len F k : Nat} (h : ¬ lc I len (F - (k + 1)) ≤ (dn I len F k).2) : dn I len F (k + 1) = dn I len F k := if_neg h
theorem up_yes {I : Nat → Int} {len k : Nat} (h : lc I len (k + 1) < (up I len k).2) : up I len (k + 1) = (k + 1, lc I len (k + 1)) := if_pos h
theorem up_no {I : Nat → Int} {len k : Nat} (h : ¬ lc I len (k + 1) < (up I len k).2) : up I len (k + 1) = up I len k := if_neg h

set_option maxRecDepth 100000 in
set_option maxHeartbeats 200000 in
theorem porder_any (w : World) (a : Option Addr) (len cap b off : Nat) (I : Nat → Int) (h : Is w a len cap b off I) (hlen : len ≤ 1000000) :
    Calls Try.prog 16 #[.slice a len cap] w (OrdPost w (bo I len)) := by
  have HCD := hid (pcoded_any w a len cap b off I h)
  have H := hid h
  clear h
  go_enter Try.func16, Try.ntmps16
  go_wp2_with fail
  refine HCD.out.mono ?_
  rintro e w' ⟨x, rfl, rfl, hx⟩
  by_cases hc : cd I len
  · obtain rfl : x = true := hx.2 hc
    have HC := hid hc
    have HE : RowKit.Hid (bo I len = dn I len (fin len) (fin len)) := hid (by rw [dn_up]; exact if_pos hc)
    clear hx hc
    have HF := hid (finest_any len (by omega) w)
    have HF6 := hid (fin_le len)
    go_wp2_with fail
    refine HF.out.mono ?_
    rintro e w' ⟨rfl, rfl⟩
    generalize fin len = F at *
    go_wp2_with fail
    refine (tallies_any a len cap b off I F (2 ^ F) HF6.out rfl w H.out HC.out.2 HC.out.1).mono ?_
    rintro e w2 ⟨g, rfl, ht, hg, hg2, hb2⟩
    have HCO := hid (cost_all a len cap b off I F (2 ^ F) g (2 ^ F) HF6.out rfl w2 (is_below H.out hb2) HC.out.2 HC.out.1 ht hg2)
    have HB2 := hid hb2; have HT2 := hid ht; have HG2 := hid hg2
    clear ht hg hg2 hb2
    go_wp2_with fail
    refine HCO.out.mono ?_
    rintro e w3 ⟨rfl, hb3⟩
    have HST0 : RowKit.Hid (OSt w I len F 0 (.int .i64 (F : Int)) (.slice (some ⟨g, 0, none⟩) (2 ^ F) (2 ^ F)) (.int .i64 (F : Int)) (.int .i64 (lc I len F : Int)) w3) := hid
      ⟨F, 2 ^ F, g, Nat.zero_le _, rfl, rfl, rfl, rfl, rfl, rfl, HT2.out.of_block (hb3.block g HG2.out), Nat.lt_of_lt_of_le HG2.out hb3.size, HB2.out.trans (hb3.mono HB2.out.size)⟩
    clear hb3
    go_wp2_with fail
    go_loopg [4, 5, 6, 7, 8] F (fun gh va vb vc vd ve wr => ∃ (k : Nat) (zz : Value), gh = F - k ∧ ve = zz ∧ OSt w I len F k va vb vc vd wr)
    case atStart => exact ⟨0, _, rfl, rfl, HST0.out⟩
    case round =>
      obtain ⟨k, zz, hgh, rfl, p, y, g, hk, hp, hy, rfl, rfl, rfl, rfl, ht, hg, hb⟩ := hrel
      have HGH := hid hgh
      have HT := hid ht; have HG := hid hg; have HB := hid hb
      clear hgh ht hg hb
      by_cases h0 : 0 < p
      · obtain ⟨q, rfl⟩ : ∃ q, p = q + 1 := ⟨p - 1, by omega⟩
        obtain ⟨z, hz⟩ : ∃ z, 2 ^ q = z := ⟨_, rfl⟩
        obtain rfl : y = 2 * z := by rw [← hy, Nat.pow_succ, hz]; omega
        have hq6 : q + 1 ≤ 6 := by have := HF6.out; omega
        have HQ : RowKit.Hid (F - (k + 1) = q) := hid (by omega)
        have hpos : (0 : Int) < ((q + 1 : Nat) : Int) := by omega
        have HHV := hid (halved_any I len q z g (2 * z) hq6 hz wr HC.out.1 HT.out HG.out)
        have HZ := hid hz
        have HK : RowKit.Hid (k + 1 ≤ F ∧ q ≤ 6) := hid (by omega)
        have hwq := wr_q q hq6
        clear hy hz hq6 hp
        go_wp2_with fail
        refine HHV.out.mono ?_
        rintro e w4 ⟨g4, rfl, ht4, _, hg4, hb4⟩
        have HCO4 := hid (cost_all a len cap b off I q z g4 z HK.out.2 HZ.out w4 (is_below H.out (HB.out.trans (hb4.mono HB.out.size))) HC.out.2 HC.out.1 ht4 hg4)
        have HT4 := hid ht4; have HG4 := hid hg4
        have HB4 := hid (HB.out.trans (hb4.mono HB.out.size))
        clear ht4 hg4 hb4
        go_wp2_with fail
        refine HCO4.out.mono ?_
        rintro e w5 ⟨rfl, hb5⟩
        have HT5 := hid (HT4.out.of_block (hb5.block g4 HG4.out))
        have HG5 := hid (Nat.lt_of_lt_of_le HG4.out hb5.size)
        have HB5 := hid (HB4.out.trans (hb5.mono HB4.out.size))
        clear hb5
        by_cases hle : lc I len q ≤ (dn I len F k).2
        · have hle2 : (lc I len q : Int) ≤ ((dn I len F k).2 : Int) := by omega
          have HD : RowKit.Hid (dn I len F (k + 1) = (q, lc I len q)) := hid (by have := dn_yes (I := I) (len := len) (F := F) (k := k) (by rw [HQ.out]; exact hle); rw [HQ.out] at this; exact this)
          clear hle
          go_wp2_with fail
          go_roundg (F - (k + 1))
          case measure => rw [HGH.out]; have := HK.out.1; omega
          case rel => exact ⟨k + 1, _, rfl, rfl, q, z, g4, HK.out.1, HQ.out.symm, HZ.out, by go_num, rfl, by rw [HD.out]; first | done | go_num, by rw [HD.out], HT5.out, HG5.out, HB5.out⟩
        · have hle2 : ¬ (lc I len q : Int) ≤ ((dn I len F k).2 : Int) := by omega
          have HD : RowKit.Hid (dn I len F (k + 1) = dn I len F k) := hid (dn_no (by rw [HQ.out]; exact hle))
          clear hle
          go_wp2_with fail
          go_roundg (F - (k + 1))
          case measure => rw [HGH.out]; have := HK.out.1; omega
          case rel => exact ⟨k + 1, _, rfl, rfl, q, z, g4, HK.out.1, HQ.out.symm, HZ.out, by go_num, rfl, by rw [HD.out], by rw [HD.out], HT5.out, HG5.out, HB5.out⟩
      · have hp0 : p = 0 := by omega
        obtain rfl : k = F := by omega
        clear hp hy hk h0
        subst hp0
        go_wp2_with fail
        go_ret2
        exact ⟨by rw [HE.out]; first | done | rfl, HB.out⟩
  · obtain rfl : x = false := by
      cases x with
      | false => rfl
      | true => exact absurd (hx.1 rfl) hc
    have HE : RowKit.Hid (bo I len = (0, 0)) := hid (if_neg hc)
    clear hx hc
    go_wp2_with fail
    go_ret2
    exact ⟨by rw [HE.out]; rfl, Below.refl _ _⟩

set_option maxRecDepth 100000 in
set_option maxHeartbeats 2000000 in
theorem rleast_any (w : World) (a : Option Addr) (len cap b off : Nat) (I : Nat → Int) (h : Is w a len cap b off I) (hlen : len ≤ 1000000) :
    Calls Try.prog 17 #[.slice a len cap] w (OrdPost w (bo I len)) := by
  have HCD := hid (rmay_any w a len cap b off I h)
  have H := hid h
  clear h
  go_enter Try.func17, Try.ntmps17
  go_wp2_with fail
  refine HCD.out.mono ?_
  rintro e w' ⟨x, rfl, rfl, hx⟩
  by_cases hc : cd I len
  · obtain rfl : x = true := hx.2 hc
    have HC := hid hc
    have HE : RowKit.Hid (bo I len = up I len (fin len)) := hid (if_pos hc)
    have HF6 := hid (fin_le len)
    have HCO := hid fun (W : World) (hW : Below w.heap.size w W) (j : Nat) (hj : j ≤ fin len) => show Calls Try.prog 19 #[.slice a len cap, .int .i64 (j : Int)] W (CoPost W (lc I len j)) from by
      have := rcost_any W a len cap b off I (is_below H.out hW) hlen (j : Int)
      rw [lcc_ok hc (show ord len (j : Int) from ⟨by omega, by omega⟩), Int.toNat_natCast] at this
      exact this
    have HOR := hid fun (W : World) (j : Nat) => show Calls Try.prog 23 #[.int .i64 (len : Int), .int .i64 ((j : Int) + 1)] W fun e w' => e = .returned (.bool (decide (j + 1 ≤ fin len))) ∧ W = w' from by
      have := rorder_any len (by omega) ((j : Int) + 1) W
      have e : decide (ord len ((j : Int) + 1)) = decide (j + 1 ≤ fin len) := decide_eq_decide.2 ⟨fun h => by have := h.2; omega, fun h => ⟨by omega, by omega⟩⟩
      rw [e] at this
      exact this
    clear hx hc
    go_wp2_with fail
    refine (HCO.out w (Below.refl _ _) 0 (Nat.zero_le _)).mono ?_
    rintro e w2 ⟨rfl, hb2⟩
    have HB2 := hid hb2
    clear hb2
    generalize fin len = F at *
    go_wp2_with fail
    go_loopg [4, 5, 6, 7] F (fun gh va vb vc vd wr => ∃ (k : Nat) (zz : Value), k ≤ F ∧ gh = F - k ∧ vd = zz ∧ va = .int .i64 ((up I len k).1 : Int) ∧ vb = .int .i64 ((up I len k).2 : Int) ∧ vc = .int .i64 ((k : Int) + 1) ∧ Below w.heap.size w wr)
    case atStart => exact ⟨0, _, Nat.zero_le _, rfl, rfl, rfl, rfl, rfl, HB2.out⟩
    case round =>
      obtain ⟨k, zz, hk, hgh, rfl, rfl, rfl, rfl, hb⟩ := hrel
      have HGH := hid hgh
      have HB := hid hb
      clear hgh hb
      by_cases hlt : k < F
      · have h6 : (k : Int) + 1 ≤ 6 := by have := HF6.out; omega
        have HD : RowKit.Hid (decide (k + 1 ≤ F) = true) := hid (decide_eq_true (by omega))
        have HLT := hid hlt
        clear hlt
        go_wp2_with fail
        refine (HOR.out wr k).mono ?_
        rintro e w' ⟨rfl, rfl⟩
        rw [HD.out]
        go_wp2_with fail
        refine (HCO.out wr HB.out (k + 1) (by have := HLT.out; omega)).mono ?_
        rintro e w4 ⟨rfl, hb4⟩
        have HB4 := hid (HB.out.trans (hb4.mono HB.out.size))
        clear hb4
        by_cases hle : lc I len (k + 1) < (up I len k).2
        · have hle2 : (lc I len (k + 1) : Int) < ((up I len k).2 : Int) := by omega
          have HU := hid (up_yes hle)
          clear hle
          go_wp2_with fail
          go_roundg (F - (k + 1))
          case measure => rw [HGH.out]; have := HLT.out; omega
          case rel => exact ⟨k + 1, _, HLT.out, rfl, rfl, by rw [HU.out]; first | done | go_num, by rw [HU.out], by go_num, HB4.out⟩
        · have hle2 : ¬ (lc I len (k + 1) : Int) < ((up I len k).2 : Int) := by omega
          have HU := hid (up_no hle)
          clear hle
          go_wp2_with fail
          go_roundg (F - (k + 1))
          case measure => rw [HGH.out]; have := HLT.out; omega
          case rel => exact ⟨k + 1, _, HLT.out, rfl, rfl, by rw [HU.out], by rw [HU.out], by go_num, HB4.out⟩
      · obtain rfl : k = F := by omega
        by_cases h6 : (k : Int) + 1 ≤ 6
        · have HD : RowKit.Hid (decide (k + 1 ≤ k) = false) := hid (decide_eq_false (by omega))
          go_wp2_with fail
          refine (HOR.out wr k).mono ?_
          rintro e w' ⟨rfl, rfl⟩
          rw [HD.out]
          go_wp2_with fail
          go_ret2
          exact ⟨by rw [HE.out]; first | done | rfl, HB.out⟩
        · go_wp2_with fail
          go_ret2
          exact ⟨by rw [HE.out]; first | done | rfl, HB.out⟩
  · obtain rfl : x = false := by
      cases x with
      | false => rfl
      | true => exact absurd (hx.1 rfl) hc
    have HE : RowKit.Hid (bo I len = (0, 0)) := hid (if_neg hc)
    clear hx hc
    go_wp2_with fail
    go_ret2
    exact ⟨by rw [HE.out]; rfl, Below.refl _ _⟩
end Go.Proofs.Ytjimamjhakainaa.Part
