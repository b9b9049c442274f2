/- Apart of the document. Conditions: both sounds lie in memory as their lists. -/
import Derived.Test.YtfidnklppbdebaaAp
namespace Go.Proofs.Ytfidnklppbdebaa.Pcm
open Go.RowKit Gen

/-- What stands while the list grows. -/
structure Ra (w wr : World) (a b : Dat) (lo : Option Addr) (lcap k : Nat) : Prop where
  row : Row wr w.heap.size lo lcap (apf a b) k
  f1 : blk lo ≠ some w.heap.size
  f2 : blk lo ≠ some (w.heap.size + 1)
  bx : Bx wr w.heap.size a
  by' : Bx wr (w.heap.size + 1) b
  below : Below w.heap.size w wr
theorem Ra.upto {w wr w' : World} {a b : Dat} {lo : Option Addr} {lcap k : Nat} (h : Ra w wr a b lo lcap k) (hb : Below wr.heap.size wr w') : Ra w w' a b lo lcap k :=
  ⟨h.row.upto hb, h.f1, h.f2, h.bx.below hb, h.by'.below hb, h.below.trans (hb.mono h.below.size)⟩

set_option maxHeartbeats 1600000 in
set_option maxRecDepth 100000 in
theorem rapart_any (w : World) (a b : Dat) (ha : Snd w a) (hb : Snd w b) : Calls Try.prog 29 #[a.v, b.v] w (ApPost w a b) := by
  have HBO := hid fun w' (hw : Below w.heap.size w w') => rboth_any w' a b (ha.below hw) (hb.below hw)
  have HCA := hid fun w' (hw : Below w.heap.size w w') => rcount_any w' a (ha.below hw)
  have HCB := hid fun w' (hw : Below w.heap.size w w') => rcount_any w' b (hb.below hw)
  obtain ⟨hb0, hx0, hy0⟩ := boxes w a b
  have HB0 := hid hb0
  have HX0 := hid hx0
  have HY0 := hid hy0
  have HA := hid ha
  have HB := hid hb
  clear hb0 hx0 hy0 ha hb
  unfold Dat.v at HBO HCA HCB
  obtain ⟨i0, hi, hz0, hz1, hz2⟩ := info_parts Try.info3
  show Calls Try.prog 29 #[.agg #[.int .i64 a.f.ch, .int .i64 a.f.bits, .int .i64 a.f.rate, .slice a.a a.n a.cap], .agg #[.int .i64 b.f.ch, .int .i64 b.f.bits, .int .i64 b.f.rate, .slice b.a b.n b.cap]] w _
  go_enter Try.func29, Try.ntmps29
  go_wp2_with fail
  refine (HBO.out _ HB0.out).mono ?_
  rintro e w1 ⟨rfl, hb1⟩
  have HB1 := hid (HB0.out.trans (hb1.mono HB0.out.size))
  have HX1 := hid (HX0.out.below hb1)
  have HY1 := hid (HY0.out.below hb1)
  clear hb1
  by_cases hbo : both a b = 0
  · have e0 : (both a b != 0) = false := by rw [hbo]; rfl
    obtain ⟨ok1, ok2, hff⟩ := both_ok hbo
    have HO1 := hid (chk_ok ok1)
    have HO2 := hid (chk_ok ok2)
    have HN1 := hid (near_of ok1)
    have HN2 := hid (near_of ok2)
    have HNN : Hid (a.n = b.n) := hid (by have h1 := HO1.out.2.1; have h2 := HO2.out.2.1; rw [hff] at h1; omega)
    have HBZ := hid hbo
    clear hbo hff ok1 ok2
    go_wp2_with fail
    have c0 : ∀ p : Kp w1, p.w'.cell? ⟨w.heap.size, 0, none⟩ = some (.int .i64 a.f.ch) := fun p => (HX1.out.fr p.h).c0
    have c1 : ∀ p : Kp w1, p.w'.cell? ⟨w.heap.size, 1, none⟩ = some (.int .i64 a.f.bits) := fun p => (HX1.out.fr p.h).c1
    have c2 : ∀ p : Kp w1, p.w'.cell? ⟨w.heap.size, 2, none⟩ = some (.int .i64 a.f.rate) := fun p => (HX1.out.fr p.h).c2
    have c3 : ∀ p : Kp w1, p.w'.cell? ⟨w.heap.size, 3, none⟩ = some (.slice a.a a.n a.cap) := fun p => (HX1.out.fr p.h).c3
    have d0 : ∀ p : Kp w1, p.w'.cell? ⟨w.heap.size + 1, 0, none⟩ = some (.int .i64 b.f.ch) := fun p => (HY1.out.fr p.h).c0
    have d1 : ∀ p : Kp w1, p.w'.cell? ⟨w.heap.size + 1, 1, none⟩ = some (.int .i64 b.f.bits) := fun p => (HY1.out.fr p.h).c1
    have d2 : ∀ p : Kp w1, p.w'.cell? ⟨w.heap.size + 1, 2, none⟩ = some (.int .i64 b.f.rate) := fun p => (HY1.out.fr p.h).c2
    have d3 : ∀ p : Kp w1, p.w'.cell? ⟨w.heap.size + 1, 3, none⟩ = some (.slice b.a b.n b.cap) := fun p => (HY1.out.fr p.h).c3
    have HCAp := hid fun p : Kp w1 => HCA.out p.w' (below_fr HB1.out p.h)
    have HCBp := hid fun p : Kp w1 => HCB.out p.w' (below_fr HB1.out p.h)
    refine wp_region_quiet_kp (by kernel_rfl) (by kernel_rfl) ?_
    repeat (first | go_big_quiet_step ((first | (go_at_call 15; with_reducible exact kp_below (HCAp.out _)) | (go_at_call 15; with_reducible exact kp_below (HCBp.out _)))) | fail)
    refine wpQuiet_nil ?_
    intro wz hw'
    obtain ⟨⟨wq, hq⟩, hw''⟩ := hw'
    subst hw''
    have HBQ := hid (below_fr HB1.out hq)
    have HXQ := hid (HX1.out.fr hq)
    have HYQ := hid (HY1.out.fr hq)
    clear hq c0 c1 c2 c3 d0 d1 d2 d3 e0
    by_cases hcc : a.cnt = b.cnt
    · have e1 : ((a.cnt : Int) != (b.cnt : Int)) = false := by rw [bne_eq_false_iff_eq]; omega
      have HE := hid (apc_3 HBZ.out hcc)
      have HCC := hid hcc
      have HAD := hid (HA.out.addr HO1.out.2.2.2.1)
      have HBD := hid (HB.out.addr HO2.out.2.2.2.1)
      clear hcc
      rw [e1]
      go_wp2_with fail
      clear e1
      have hr0 : Ra w wz a b none 0 0 := ⟨World.ownsRow_nil _ _ _ _, by simp [blk], by simp [blk], HXQ.out, HYQ.out, HBQ.out⟩
      go_loopg [7, 8] a.n (fun z v i wr => ∃ (k : Nat) (lo : Option Addr) (lcap : Nat), k ≤ a.n ∧ z = a.n - k ∧ v = .slice lo k lcap ∧ i = .int .i64 k ∧ Ra w wr a b lo lcap k)
      case atStart => exact ⟨0, none, 0, Nat.zero_le _, rfl, rfl, rfl, hr0⟩
      case round =>
        obtain ⟨k, lo, lcap, hk, hg, rfl, rfl, hr⟩ := hrel
        have HG := hid hg
        have HR := hid hr
        clear hg hr hr0
        have hn8 := HO1.out.2.2.1
        have hcnt := HO1.out.2.2.2.2.1
        by_cases hlt : k < a.n
        · have hlt2 : (k : Int) < (a.n : Int) := by omega
          have hlt4 : k < b.n := by have := HNN.out; omega
          have hlt3 : (k : Int) < (b.n : Int) := by omega
          obtain ⟨pa, oa, la⟩ := HA.out.l k hlt
          obtain ⟨pb, ob, lb⟩ := HB.out.l k hlt4
          have hla := HO1.out.2.2.2.2.2.1 k hlt
          have hlb := HO2.out.2.2.2.2.2.1 k hlt4
          have hna := HN1.out k hlt
          have hnb := HN2.out k hlt4
          rw [hlb, ← HCC.out] at lb hnb
          rw [hla] at la hna
          have HLA := hid la
          have HLB := hid lb
          have HNA := hid hna
          have HNB := hid hnb
          have HLN := hid hla
          have HLM : Hid (b.ln k = a.cnt) := hid (by rw [hlb, HCC.out])
          have a3 := HR.out.bx.c3
          rw [HAD.out] at a3
          clear la lb hla hlb hna hnb
          go_wp2_with fail
          go_loopg [9, 10] a.cnt (fun z y j wi => ∃ t : Nat, t ≤ a.cnt ∧ z = a.cnt - t ∧ y = .int .i64 (far (a.X k) (b.X k) t) ∧ j = .int .i64 t ∧ Fr (fun _ => False) wr wi)
          case atStart => exact ⟨0, Nat.zero_le _, rfl, rfl, rfl, Fr.refl _ _⟩
          case round =>
            obtain ⟨t, ht, hg, rfl, rfl, hf⟩ := hrel
            have HG2 := hid hg
            have HF := hid hf
            have HRI := hid (HR.out.upto (Below.of_fr hf))
            clear hg hf a3
            have a3 := HRI.out.bx.c3
            have ak := (HA.out.below HRI.out.below).c k hlt
            have hai := HLA.out.below HRI.out.below HLA.out.lt
            have hbi := HLB.out.below HRI.out.below HLB.out.lt
            rw [HAD.out] at a3
            rw [HLN.out] at ak
            by_cases htl : t < a.cnt
            · have htl2 : (t : Int) < (a.cnt : Int) := by omega
              have b3 := HRI.out.by'.c3
              have bk := (HB.out.below HRI.out.below).c k hlt4
              rw [HBD.out] at b3
              rw [HLM.out, hbi.addr (by omega)] at bk
              rw [hai.addr (by omega)] at ak
              have ax := hai.c t htl
              have bx := hbi.c t htl
              clear hai hbi
              have HFB := hid (far_b HNA.out HNB.out t (by omega))
              have HUB := hid (HNA.out t htl)
              have HVB := hid (HNB.out t htl)
              have HS : Hid (far (a.X k) (b.X k) (t + 1) = if far (a.X k) (b.X k) t < dist (a.X k t) (b.X k t) then dist (a.X k t) (b.X k t) else far (a.X k) (b.X k) t) := hid rfl
              generalize hz : far (a.X k) (b.X k) (t + 1) = z at HS
              have HZ := hid hz
              clear hz
              generalize far (a.X k) (b.X k) t = y at *
              generalize a.X k t = x at *
              generalize b.X k t = v at *
              obtain ⟨dd, hdd⟩ : ∃ dd, dd = x - v := ⟨_, rfl⟩
              have HDD := hid hdd
              have HW : Hid (wrap64 (x - v) = dd) := hid (by
                have h2 := HUB.out
                have h3 := HVB.out
                rw [hdd]; exact w64 _ (by omega) (by omega))
              clear hdd
              have HWN : Hid (wrap64 (-dd) = -dd) := hid (by
                have h2 := HUB.out
                have h3 := HVB.out
                have h4 := HDD.out
                exact w64 _ (by omega) (by omega))
              by_cases hneg : dd < 0
              · by_cases hgt : y < wrap64 (-dd)
                · have HL : Hid (wrap64 (-dd) = z) := hid (by
                    have h4 := HDD.out
                    have h5 := HS.out
                    rw [HWN.out] at hgt ⊢
                    unfold dist at h5
                    rw [h5, if_pos (by omega), if_pos (by omega)]; omega)
                  go_wp2_with fail
                  go_quiet (fail)
                  rw [HW.out]
                  have HFD : Hid (Fr (fun _ => False) _ (wr.drewN nq)) := hid ⟨HF.out.os, HF.out.tape, HF.out.output, HF.out.size, HF.out.block⟩
                  clear a3 ak ax b3 bk bx
                  go_wp2_with fail
                  go_roundg (a.cnt - (t + 1))
                  case measure => rw [HG2.out]; omega
                  case rel => exact ⟨t + 1, by omega, rfl, congrArg (Value.int .i64) (HL.out.trans HZ.out.symm), by go_num, HFD.out⟩
                · have HL : Hid (y = z) := hid (by
                    have h4 := HDD.out
                    have h5 := HS.out
                    rw [HWN.out] at hgt
                    unfold dist at h5
                    rw [h5, if_pos (show x - v < 0 by omega), if_neg (by omega)])
                  go_wp2_with fail
                  go_quiet (fail)
                  rw [HW.out]
                  have HFD : Hid (Fr (fun _ => False) _ (wr.drewN nq)) := hid ⟨HF.out.os, HF.out.tape, HF.out.output, HF.out.size, HF.out.block⟩
                  clear a3 ak ax b3 bk bx
                  go_wp2_with fail
                  go_roundg (a.cnt - (t + 1))
                  case measure => rw [HG2.out]; omega
                  case rel => exact ⟨t + 1, by omega, rfl, congrArg (Value.int .i64) (HL.out.trans HZ.out.symm), by go_num, HFD.out⟩
              · by_cases hgt : y < dd
                · have HL : Hid (dd = z) := hid (by
                    have h4 := HDD.out
                    have h5 := HS.out
                    unfold dist at h5
                    rw [h5, if_neg (show ¬ x - v < 0 by omega), if_pos (by omega)]; omega)
                  go_wp2_with fail
                  go_quiet (fail)
                  rw [HW.out]
                  have HFD : Hid (Fr (fun _ => False) _ (wr.drewN nq)) := hid ⟨HF.out.os, HF.out.tape, HF.out.output, HF.out.size, HF.out.block⟩
                  clear a3 ak ax b3 bk bx
                  go_wp2_with fail
                  go_roundg (a.cnt - (t + 1))
                  case measure => rw [HG2.out]; omega
                  case rel => exact ⟨t + 1, by omega, rfl, congrArg (Value.int .i64) (HL.out.trans HZ.out.symm), by go_num, HFD.out⟩
                · have HL : Hid (y = z) := hid (by
                    have h4 := HDD.out
                    have h5 := HS.out
                    unfold dist at h5
                    rw [h5, if_neg (show ¬ x - v < 0 by omega), if_neg (by omega)])
                  go_wp2_with fail
                  go_quiet (fail)
                  rw [HW.out]
                  have HFD : Hid (Fr (fun _ => False) _ (wr.drewN nq)) := hid ⟨HF.out.os, HF.out.tape, HF.out.output, HF.out.size, HF.out.block⟩
                  clear a3 ak ax b3 bk bx
                  go_wp2_with fail
                  go_roundg (a.cnt - (t + 1))
                  case measure => rw [HG2.out]; omega
                  case rel => exact ⟨t + 1, by omega, rfl, congrArg (Value.int .i64) (HL.out.trans HZ.out.symm), by go_num, HFD.out⟩
            · have hte : ¬ (t : Int) < (a.cnt : Int) := by omega
              obtain rfl : t = a.cnt := by omega
              rw [show far (a.X k) (b.X k) a.cnt = apf a b k from rfl]
              have hsz : w.heap.size ≤ (wr.alloc (.cells #[.int .i64 (apf a b k)] 3)).heap.size := by have := HRI.out.below.size; simp; omega
              have HVA := hid (HRI.out.upto (below_new wr (.cells #[.int .i64 (apf a b k)] 3)))
              have hrow := HVA.out.row
              have hcell : (wr.alloc (.cells #[.int .i64 (apf a b k)] 3)).cell? ⟨wr.heap.size, 0, none⟩ = some (.int .i64 (apf a b k)) := by simp
              unfold Row at hrow
              clear hai hbi
              go_wp2_with (at_builtin; go_must (refine wpList_append_one rfl (.tmp 65) (.tmp 67) 42 rfl w.heap.size 3 i0 (.int .i64 0) 8 Try.underlying42 hi hz0 hz1 hz2 rfl lo k lcap (ivs (apf a b) k) rfl hrow ⟨wr.heap.size, 0, none⟩ 1 (.int .i64 (apf a b k)) rfl hcell rfl (by unfold maxLen; omega) (by omega) hsz ?_))
              intro gg cap' w4 hown4 hkept
              have hst : Ra w w4 a b (some ⟨gg, 0, none⟩) cap' (k + 1) := by
                have hf : Fr (fun b => blk lo = some b) (wr.alloc (.cells #[.int .i64 (apf a b k)] 3)) w4 := (Fr.refl _ _).grown hkept.grown fun b hb _ => hb
                have hbp : w4.heap[w.heap.size]? = (wr.alloc (.cells #[.int .i64 (apf a b k)] 3)).heap[w.heap.size]? := hf.block _ HVA.out.bx.lt HVA.out.f1
                have hbq : w4.heap[w.heap.size + 1]? = (wr.alloc (.cells #[.int .i64 (apf a b k)] 3)).heap[w.heap.size + 1]? := hf.block _ HVA.out.by'.lt HVA.out.f2
                have hcc : ∀ i, w4.cell? ⟨w.heap.size, i, none⟩ = (wr.alloc (.cells #[.int .i64 (apf a b k)] 3)).cell? ⟨w.heap.size, i, none⟩ := fun i => World.cell?_of_block (a := ⟨w.heap.size, i, none⟩) hbp
                have hcd : ∀ i, w4.cell? ⟨w.heap.size + 1, i, none⟩ = (wr.alloc (.cells #[.int .i64 (apf a b k)] 3)).cell? ⟨w.heap.size + 1, i, none⟩ := fun i => World.cell?_of_block (a := ⟨w.heap.size + 1, i, none⟩) hbq
                refine ⟨?_, ?_, ?_, ⟨(hcc 0).trans HVA.out.bx.c0, (hcc 1).trans HVA.out.bx.c1, (hcc 2).trans HVA.out.bx.c2, (hcc 3).trans HVA.out.bx.c3⟩, ⟨(hcd 0).trans HVA.out.by'.c0, (hcd 1).trans HVA.out.by'.c1, (hcd 2).trans HVA.out.by'.c2, (hcd 3).trans HVA.out.by'.c3⟩, HVA.out.below.grown hkept.grown HVA.out.below.size (fun b hb => (HVA.out.row.lt b hb).1)⟩
                · unfold Row
                  rw [ivs_succ]
                  exact hown4
                · intro e
                  have e1 : gg = w.heap.size := by simpa [blk] using e
                  rcases hkept.at_ with h | h
                  · exact HVA.out.f1 (by rw [h, e1])
                  · have := HVA.out.bx.lt; omega
                · intro e
                  have e1 : gg = w.heap.size + 1 := by simpa [blk] using e
                  rcases hkept.at_ with h | h
                  · exact HVA.out.f2 (by rw [h, e1])
                  · have := HVA.out.by'.lt; omega
              clear hown4 hkept hrow hcell hsz a3 ak
              go_wp2_with fail
              go_roundg (a.n - (k + 1))
              case measure => rw [HG.out]; omega
              case rel => exact ⟨k + 1, _, _, by omega, rfl, rfl, by go_num, hst⟩
        · have hge : ¬ (k : Int) < (a.n : Int) := by omega
          obtain rfl : k = a.n := by omega
          have a3 := HR.out.bx.c3
          go_wp2_with fail
          go_ret2
          obtain ⟨g, hisb⟩ := HR.out.row.isb (by omega)
          exact ⟨lo, lcap, a.n, g, 0, by rw [HE.out]; rfl, by rw [HE.out]; rfl, hisb, HR.out.below⟩
    · have e1 : ((a.cnt : Int) != (b.cnt : Int)) = true := bne_iff_ne.2 (by omega)
      have HE := hid (apc_2 HBZ.out hcc)
      clear hcc
      go_wp2_with fail
      go_ret2
      exact ⟨none, 0, 0, 0, 0, by rw [HE.out]; rfl, by rw [HE.out]; rfl, isb_nil _ _, HBQ.out⟩
  · have e0 : (both a b != 0) = true := bne_iff_ne.2 hbo
    have HE := hid (apc_1 hbo)
    have HBZ := hid hbo
    clear hbo
    go_wp2_with fail
    go_ret2
    exact ⟨none, 0, 0, 0, 0, by rw [HE.out, if_neg HBZ.out], by rw [HE.out]; rfl, isb_nil _ _, HB1.out⟩
end Go.Proofs.Ytfidnklppbdebaa.Pcm
