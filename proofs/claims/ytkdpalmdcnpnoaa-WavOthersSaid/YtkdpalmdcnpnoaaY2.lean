/- The document's GetFormat. Condition: bytes in memory. -/
import Derived.Test.YtkdpalmdcnpnoaaY1
import Derived.Test.YtkdpalmdcnpnoaaW3
import Derived.Test.YtkdpalmdcnpnoaaL1
import Derived.Test.YtkdpalmdcnpnoaaSb
import Derived.Test.YtkdpalmdcnpnoaaAw
namespace Go.Proofs.Ytkdpalmdcnpnoaa.Wv
open Go.RowKit Gen Fld Pcm

/-- A box of a format. -/
theorem Cb.get {w : World} {g : Nat} {v0 v1 v2 : Value} (h : Cb w g v0 v1 v2) : w.cell? ⟨g, 0, none⟩ = some v0 ∧ w.cell? ⟨g, 1, none⟩ = some v1 ∧ w.cell? ⟨g, 2, none⟩ = some v2 := ⟨h.c0, h.c1, h.c2⟩
theorem bel_al {w W : World} (h : Below w.heap.size w W) (o : Obj) : Below w.heap.size w (W.alloc o) := h.trans ((bel_new W o).mono h.size)
theorem bel_dr {w W : World} (h : Below w.heap.size w W) : Below w.heap.size w W.drew := h.trans ((bel_drew W).mono h.size)
theorem three_ex {w : World} {g : Nat} {v0 v1 v2 : Value} (h : Cb w g v0 v1 v2) : ∀ i, i < 3 → ∃ u, w.cell? ⟨g, i, none⟩ = some u := fun i hi => by
  match i, hi with
  | 0, _ => exact ⟨_, h.c0⟩
  | 1, _ => exact ⟨_, h.c1⟩
  | 2, _ => exact ⟨_, h.c2⟩
theorem bel_set3 {w W : World} {B g : Nat} (h : Below B w W) (hg : B ≤ g) (v0 v1 v2 : Value) : Below B w (((W.setCell ⟨g, 0, none⟩ v0).setCell ⟨g, 1, none⟩ v1).setCell ⟨g, 2, none⟩ v2) :=
  ((h.setCell (p := ⟨g, 0, none⟩) hg v0).setCell (p := ⟨g, 1, none⟩) hg v1).setCell (p := ⟨g, 2, none⟩) hg v2
/-- What GetFormat answers. -/
def gfv (b : List Nat) : Fmt := if fcode b = 0 then fmf b else ⟨0, 0, 0⟩
def GfP (w : World) (b : List Nat) (e : Ending) (w' : World) : Prop := e = .returned (.tuple #[(gfv b).v, .int .i64 (fcode b : Int)]) ∧ Below w.heap.size w w'
theorem gfp_no {w w' : World} {b : List Nat} {n : Nat} (h : fcode b = n) (h0 : n ≠ 0) (hb : Below w.heap.size w w') : GfP w b (.returned (.tuple #[.agg #[.int .i64 0, .int .i64 0, .int .i64 0], .int .i64 (n : Int)])) w' := by
  have hg : gfv b = ⟨0, 0, 0⟩ := by unfold gfv; rw [h, if_neg h0]
  unfold GfP
  rw [hg, h]
  exact ⟨rfl, hb⟩
set_option maxRecDepth 20000 in
set_option maxHeartbeats 2000000 in
theorem getformat_any {w : World} {a : Option Addr} {L c : Nat} {b : List Nat} (hb : Byts w a b) (hL : b.length = L) (hc : L ≤ c) : Calls Try.prog 45 #[.slice a L c] w (GfP w b) := by
  have hR0 := Cb.new w (.int .i64 0) (.int .i64 0) (.int .i64 0) 23
  have hB0 := bel_new w (.cells #[.int .i64 0, .int .i64 0, .int .i64 0] 23)
  have HR0 := hid hR0
  have HB0 := hid hB0
  by_cases h16 : L = 16
  · subst h16
    have HV1 := hid fun (W : World) (h : Below w.heap.size w W) => rvalue_any (c := c - 2) ((bcut_byts (cap := c) (hb.keep h) 2 (by omega)).take 2) (by rw [List.length_take]; omega)
    have HV2 := hid fun (W : World) (h : Below w.heap.size w W) => rvalue_any (c := c - 4) ((bcut_byts (cap := c) (hb.keep h) 4 (by omega)).take 4) (by rw [List.length_take]; omega)
    have HV3 := hid fun (W : World) (h : Below w.heap.size w W) => rvalue_any (c := c - 14) ((bcut_byts (cap := c) (hb.keep h) 14 (by omega)).take 2) (by rw [List.length_take]; omega)
    rw [show ((b.drop 2).take 2).length = 2 by rw [List.length_take, List.length_drop]; omega, show lev ((b.drop 2).take 2) = fmc b from rfl] at HV1
    rw [show ((b.drop 4).take 4).length = 4 by rw [List.length_take, List.length_drop]; omega, show lev ((b.drop 4).take 4) = fmr b from rfl] at HV2
    rw [show ((b.drop 14).take 2).length = 2 by rw [List.length_take, List.length_drop]; omega, show lev ((b.drop 14).take 2) = fmn b from rfl] at HV3
    have s1 : ∀ W, (Instr.sliceAt 29 (.slice a 16 c) (some (.int .i64 2)) (some (.int .i64 4)) none).run Try.prog W = .ok (.slice (bcut a c 2) 2 (c - 2)) W := bcut_run a 16 c 2 4 (by omega) (by omega)
    have s2 : ∀ W, (Instr.sliceAt 29 (.slice a 16 c) (some (.int .i64 4)) (some (.int .i64 8)) none).run Try.prog W = .ok (.slice (bcut a c 4) 4 (c - 4)) W := bcut_run a 16 c 4 8 (by omega) (by omega)
    have s3 : ∀ W, (Instr.sliceAt 29 (.slice a 16 c) (some (.int .i64 14)) (some (.int .i64 16)) none).run Try.prog W = .ok (.slice (bcut a c 14) 2 (c - 14)) W := bcut_run a 16 c 14 16 (by omega) (by omega)
    have k1 : IntKind.i64.wrap ((fmc b : Nat) : Int) = ((fmc b : Nat) : Int) := (wr_32 (lev_32 hb.lt 2 2 (by decide))).2
    have k2 : IntKind.i64.wrap ((fmr b : Nat) : Int) = ((fmr b : Nat) : Int) := (wr_32 (lev_32 hb.lt 4 4 (by decide))).2
    have k3 : IntKind.i64.wrap ((fmn b : Nat) : Int) = ((fmn b : Nat) : Int) := (wr_32 (lev_32 hb.lt 14 2 (by decide))).2
    have HCV := hid fun (W : World) (h : Below w.heap.size w W) => (hb.keep h).conv c
    rw [hL] at HCV
    have HRT := hid fun w' => rright_any (fmf b) w'
    have HRV := hid (show (fmf b).v = .agg #[.int .i64 (fmc b : Int), .int .i64 (fmn b : Int), .int .i64 (fmr b : Int)] from rfl)
    rw [HRV.out] at HRT
    have HBL := hid hb.lt
    have HLB := hid hL
    clear hb hR0 hB0
    go_enter Try.func45, Try.ntmps45
    go_wp2_with fail
    generalize w.alloc (.cells #[.int .i64 0, .int .i64 0, .int .i64 0] 23) = W0 at *
    go_cut [4] (fun pv wx => ∃ g, pv = .pointer (some ⟨g, 0, none⟩) ∧ W0.heap.size ≤ g ∧ Cb wx g (.int .i64 (fmc b : Int)) (.int .i64 (fmn b : Int)) (.int .i64 (fmr b : Int)) ∧ Below W0.heap.size W0 wx)
    case first =>
      have t0 := bel_dr HB0.out
      have t1 := bel_dr (bel_al HB0.out (.cells #[.int .i64 0, .int .i64 0, .int .i64 0] 23))
      go_region_with (first
        | (go_at_call 43; (with_reducible refine (HV1.out _ t0).mono ?_); rintro e w1 ⟨rfl, rfl⟩)
        | (go_at_call 43; (with_reducible refine (HV2.out _ t0).mono ?_); rintro e w1 ⟨rfl, rfl⟩)
        | (go_at_call 43; (with_reducible refine (HV3.out _ t0).mono ?_); rintro e w1 ⟨rfl, rfl⟩)
        | (go_at_call 43; (with_reducible refine (HV1.out _ t1).mono ?_); rintro e w1 ⟨rfl, rfl⟩)
        | (go_at_call 43; (with_reducible refine (HV2.out _ t1).mono ?_); rintro e w1 ⟨rfl, rfl⟩)
        | (go_at_call 43; (with_reducible refine (HV3.out _ t1).mono ?_); rintro e w1 ⟨rfl, rfl⟩))
      all_goals
        go_wp2_with fail
        go_meet
        exact ⟨W0.heap.size, rfl, Nat.le_refl _, (Cb.new W0 _ _ _ 23).below (bel_drew _), bel_dr (bel_new W0 _)⟩
    case rest =>
      rename World => wx
      obtain ⟨g, rfl, hg, hcb, hbw⟩ := hcut
      have HCB := hid hcb
      have HBX := hid (HB0.out.trans (hbw.mono HB0.out.size))
      have HRX := hid (HR0.out.below hbw)
      clear hcb hbw HV1 HV2 HV3 s1 s2 s3 k1 k2 k3 HR0 HB0
      by_cases hr : (fmf b).right
      · have hrd : decide (fmf b).right = true := decide_eq_true hr
        rw [hrd] at HRT
        have hc8 : fmc b ≤ 8 := by have h : ((fmc b : Nat) : Int) ≤ 8 := hr.1.2; omega
        have hn24 : fmn b ≤ 24 := by have h : ((fmn b : Nat) : Int) ≤ 24 := hr.2.1.2; omega
        have hr8 : fmr b ≤ 1048575 := by have h : ((fmr b : Nat) : Int) ≤ 1048575 := hr.2.2.2; omega
        have HFM := hid fun w => rformat_any (fmc b) (fmn b) (fmr b) hc8 hn24 hr8 w
        unfold LW at HFM
        have HLT : Hid (∀ x ∈ fmtb (fmc b) (fmn b) (fmr b), x < 256) := hid (by
          intro x hx
          unfold fmtb at hx
          simp only [List.mem_append] at hx
          rcases hx with ((((hx | hx) | hx) | hx) | hx) | hx
          all_goals exact le_lt _ _ x hx)
        have HRR := hid hr
        clear hr hrd hc8 hn24 hr8
        have HFC : Hid (fcode b = if b = fmtb (fmc b) (fmn b) (fmr b) then 0 else 20) := hid (by
          unfold fcode
          rw [if_neg (by rw [HLB.out]; exact fun h => h rfl)]
          by_cases h : b = fmtb (fmc b) (fmn b) (fmr b)
          · rw [if_pos h, if_neg (fun x => x.elim (fun y => y HRR.out) (fun y => y h))]
          · rw [if_neg h, if_pos (.inr h)])
        generalize fmtb (fmc b) (fmn b) (fmr b) = Fb at *
        have hbn := tos_bne HLT.out HBL.out
        go_wp2_with fail
        go_cut [32] (fun tv wy => tv = .bool (!decide (Fb = b)) ∧ Below wx.heap.size wx wy)
        case first =>
          obtain ⟨c0, c1, c2⟩ := HCB.out.get
          have d0 := bel_drew wx
          go_region_with (first
            | (go_at_call 48; (with_reducible refine (HRT.out _).mono ?_); rintro e w4 ⟨rfl, hb4⟩; have d4 := d0.trans (hb4.mono d0.size); have cv4 := HCV.out w4 (HBX.out.trans (d4.mono HBX.out.size)); obtain ⟨e0, e1, e2⟩ := (HCB.out.below d4).get)
            | (go_at_call 21; (with_reducible refine (HFM.out _).mono ?_); rintro e w5 ⟨ao, cp, rfl, hn5⟩; have d5 := d4.trans (hn5.bel.mono d4.size); have cv5 := HCV.out w5 (HBX.out.trans (d5.mono HBX.out.size)); have cvf := hn5.row.byts.conv cp))
          all_goals
            go_wp2_with fail
            go_meet
            exact ⟨congrArg Value.bool (tos_bne HLT.out HBL.out), d5⟩
        case rest =>
          rename World => wy
          obtain ⟨rfl, hby⟩ := hcut
          have HRY := hid (HRX.out.below hby)
          have HBY := hid (HBX.out.trans (hby.mono HBX.out.size))
          obtain ⟨r0, r1, r2, z0, z1, z2⟩ := HRY.out
          obtain ⟨c0, c1, c2⟩ := (HCB.out.below hby).get
          clear hbn hby HRT HFM HCV
          by_cases h : Fb = b
          · rw [decide_eq_true h]
            have HE : Hid (fcode b = 0) := hid (by rw [HFC.out, if_pos h.symm])
            have HG : Hid (gfv b = fmf b) := hid (if_pos HE.out)
            obtain ⟨y0, y1, y2⟩ := three_set wy w.heap.size (.int .i64 (fmc b : Int)) (.int .i64 (fmn b : Int)) (.int .i64 (fmr b : Int)) (three_ex HRY.out)
            have HBF := hid (bel_set3 HBY.out (Nat.le_refl _) (.int .i64 (fmc b : Int)) (.int .i64 (fmn b : Int)) (.int .i64 (fmr b : Int)))
            clear h
            go_wp2_with fail
            refine bodyPost_ret (v := .tuple #[.agg #[.int .i64 (fmc b : Int), .int .i64 (fmn b : Int), .int .i64 (fmr b : Int)], .int .i64 0]) ?_ rfl ?_
            · rw [results_cell_tmp (p := 2) (u := 3) (ty := 23) (by kernel_rfl)]
              go_simp
            · exact ⟨by rw [HG.out, HE.out]; rfl, HBF.out⟩
          · rw [decide_eq_false h]
            have HE : Hid (fcode b = 20) := hid (by rw [HFC.out, if_neg (fun e => h e.symm)])
            obtain ⟨y0, y1, y2⟩ := three_set wy w.heap.size (.int .i64 0) (.int .i64 0) (.int .i64 0) (three_ex HRY.out)
            have HBF := hid (bel_set3 HBY.out (Nat.le_refl _) (.int .i64 0) (.int .i64 0) (.int .i64 0))
            clear h
            go_wp2_with fail
            refine bodyPost_ret (v := .tuple #[.agg #[.int .i64 0, .int .i64 0, .int .i64 0], .int .i64 20]) ?_ rfl ?_
            · rw [results_cell_tmp (p := 2) (u := 3) (ty := 23) (by kernel_rfl)]
              go_simp
            · exact gfp_no HE.out (by decide) HBF.out
      · have hrd : decide (fmf b).right = false := decide_eq_false hr
        have HE : Hid (fcode b = 20) := hid (by
          unfold fcode
          rw [if_neg (by rw [HLB.out]; exact fun h => h rfl), if_pos (.inl hr)])
        have kc := fun q : Kp wx => (HCB.out.fr q.h (fun x => x)).get
        have k0 := fun q => (kc q).1
        have k1 := fun q => (kc q).2.1
        have k2 := fun q => (kc q).2.2
        clear kc hr
        go_wp2_with fail
        refine wp_region_quiet_kp (by kernel_rfl) (by kernel_rfl) ?_
        repeat (first | go_big_quiet_step ((first | (go_at_call 48; exact kp_below (HRT.out _)))) | fail)
        refine wpQuiet_nil ?_
        rintro wy ⟨⟨wq, hq⟩, hw⟩
        have hw2 : wy = wq := hw
        clear hw
        subst hw2
        have hby : Below wx.heap.size wx wy := ⟨hq.os, hq.tape, hq.output, hq.size, fun k hk => hq.block k hk (fun x => x)⟩
        have HRY := hid (HRX.out.below hby)
        have HBY := hid (HBX.out.trans (hby.mono HBX.out.size))
        obtain ⟨r0, r1, r2, z0, z1, z2⟩ := HRY.out
        clear hby hq k0 k1 k2 HRT HCV
        obtain ⟨y0, y1, y2⟩ := three_set wy w.heap.size (.int .i64 0) (.int .i64 0) (.int .i64 0) (three_ex HRY.out)
        have HBF := hid (bel_set3 HBY.out (Nat.le_refl _) (.int .i64 0) (.int .i64 0) (.int .i64 0))
        go_wp2_with fail
        refine bodyPost_ret (v := .tuple #[.agg #[.int .i64 0, .int .i64 0, .int .i64 0], .int .i64 20]) ?_ rfl ?_
        · rw [results_cell_tmp (p := 2) (u := 3) (ty := 23) (by kernel_rfl)]
          go_simp
        · exact gfp_no HE.out (by decide) HBF.out
  · have hne : ¬ (L : Int) = 16 := by omega
    have HE := hid (show fcode b = 51 by unfold fcode; rw [if_pos (by rw [hL]; exact h16)])
    obtain ⟨r0, r1, r2, z0, z1, z2⟩ := hR0
    clear hb hL hc h16 hB0
    go_enter Try.func45, Try.ntmps45
    go_wp2_with fail
    generalize w.alloc (.cells #[.int .i64 0, .int .i64 0, .int .i64 0] 23) = W0 at *
    refine bodyPost_ret (v := .tuple #[.agg #[.int .i64 0, .int .i64 0, .int .i64 0], .int .i64 51]) ?_ rfl ?_
    · rw [results_cell_tmp (p := 2) (u := 3) (ty := 23) (by kernel_rfl)]
      go_simp
    · exact gfp_no HE.out (by decide) HB0.out
end Go.Proofs.Ytkdpalmdcnpnoaa.Wv
namespace Go.Proofs.Ytkdpalmdcnpnoaa.Wv
open Go.RowKit Gen Fld Pcm

theorem floor_eq (a : Int) (b : Nat) (hb : 1 ≤ b) : (a < 0 ∧ a.tmod (b : Int) ≠ 0 → a / (b : Int) = a.tdiv (b : Int) - 1) ∧ (¬ (a < 0 ∧ a.tmod (b : Int) ≠ 0) → a / (b : Int) = a.tdiv (b : Int)) := by
  have h := Int.tdiv_eq_ediv (a := a) (b := (b : Int))
  have hs : Int.sign (b : Int) = 1 := Int.sign_eq_one_of_pos (by omega)
  rw [hs] at h
  constructor
  · rintro ⟨h1, h2⟩
    rw [if_neg (fun x => x.elim (fun y => by omega) (fun y => h2 (Int.tmod_eq_zero_of_dvd y)))] at h
    omega
  · intro h1
    by_cases h3 : a < 0
    · have h4 : a.tmod (b : Int) = 0 := Decidable.not_not.1 (fun e => h1 ⟨h3, e⟩)
      rw [if_pos (.inr (Int.dvd_of_tmod_eq_zero h4))] at h
      omega
    · rw [if_pos (.inl (by omega))] at h
      omega
set_option maxRecDepth 20000 in
theorem floor_any (a : Int) (b : Nat) (hb : 1 ≤ b) (h1 : -1099511627776 ≤ a) (h2 : a ≤ 1099511627776) (w : World) : Calls Try.prog 78 #[.int .i64 a, .int .i64 (b : Int)] w fun e w' => e = .returned (.int .i64 (a / (b : Int))) ∧ w = w' := by
  obtain ⟨e1, e2⟩ := floor_eq a b hb
  have hb1 : ¬ (b : Int) < 1 := by omega
  have hb0 : ¬ (b : Int) = 0 := by omega
  have hq : -1099511627776 ≤ a.tdiv (b : Int) ∧ a.tdiv (b : Int) ≤ 1099511627776 := by
    have h3 : (a.tdiv (b : Int)).natAbs ≤ a.natAbs := by
      rw [Int.natAbs_tdiv]
      exact Nat.div_le_self _ _
    omega
  have hw : IntKind.i64.wrap (a.tdiv (b : Int)) = a.tdiv (b : Int) := by rw [IntKind.wrap_i64]; omega
  by_cases hc : a < 0 ∧ a.tmod (b : Int) ≠ 0
  · have HE := hid (e1 hc)
    obtain ⟨g1, g2⟩ := hc
    clear e1 e2
    go_enter Try.func78, Try.ntmps78
    go_wp2_with fail
    go_ret
    exact ⟨by rw [HE.out]; rfl, rfl⟩
  · have HE := hid (e2 hc)
    clear e1 e2
    by_cases g1 : a < 0
    · have g2 : a.tmod (b : Int) = 0 := Decidable.not_not.1 (fun e => hc ⟨g1, e⟩)
      clear hc
      go_enter Try.func78, Try.ntmps78
      go_wp2_with fail
      go_ret
      exact ⟨by rw [HE.out]; rfl, rfl⟩
    · clear hc
      go_enter Try.func78, Try.ntmps78
      go_wp2_with fail
      go_ret
      exact ⟨by rw [HE.out]; rfl, rfl⟩
theorem sgn_in {t : List Nat} (hb : ∀ b ∈ t, b < 256) (hl : t.length ≤ 3) : -16777216 ≤ sgn t ∧ sgn t ≤ 16777216 := by
  have h1 := lev_lt t hb
  have h2 : 2 ^ (8 * t.length) ≤ 16777216 := Nat.le_trans (Nat.pow_le_pow_right (by decide) (show 8 * t.length ≤ 24 by omega)) (by decide)
  unfold sgn
  have h3 : ((2 : Int) ^ (8 * t.length)) = ((2 ^ (8 * t.length) : Nat) : Int) := by push_cast; rfl
  rw [h3]
  generalize 2 ^ (8 * t.length) = z at *
  split <;> omega
/-- What GetData keeps: the box of the format, the answer's four cells. -/
structure Gd (w wr : World) (c n r : Int) : Prop where
  bx : Cb wr w.heap.size (.int .i64 c) (.int .i64 n) (.int .i64 r)
  rx : Rx wr (w.heap.size + 1) (.int .i64 0) (.int .i64 0) (.int .i64 0) (.slice none 0 0)
  bel : Below w.heap.size w wr
  lt : w.heap.size + 1 < wr.heap.size
theorem Gd.below {w A B : World} {c n r : Int} (h : Gd w A c n r) (hb : Below A.heap.size A B) : Gd w B c n r :=
  ⟨h.bx.below hb, h.rx.fr (fr_bel (X := fun _ => False) hb) (fun x => x), h.bel.trans (hb.mono h.bel.size), Nat.lt_of_lt_of_le h.lt hb.size⟩
theorem gd_new (w : World) (c n r : Int) : Gd w ((w.alloc (.cells #[.int .i64 c, .int .i64 n, .int .i64 r] 23)).alloc (.cells #[.int .i64 0, .int .i64 0, .int .i64 0, .slice none 0 0] 26)) c n r := by
  have hz : (w.alloc (.cells #[.int .i64 c, .int .i64 n, .int .i64 r] 23)).heap.size = w.heap.size + 1 := by simp
  have h1 := Rx.new (w.alloc (.cells #[.int .i64 c, .int .i64 n, .int .i64 r] 23)) (.int .i64 0) (.int .i64 0) (.int .i64 0) (.slice none 0 0) 26
  rw [hz] at h1
  have h2 := bel_new (w.alloc (.cells #[.int .i64 c, .int .i64 n, .int .i64 r] 23)) (.cells #[.int .i64 0, .int .i64 0, .int .i64 0, .slice none 0 0] 26)
  have h3 := bel_new w (.cells #[.int .i64 c, .int .i64 n, .int .i64 r] 23)
  exact ⟨(Cb.new w _ _ _ 23).below h2, h1, h3.trans (h2.mono h3.size), by simp⟩
set_option maxRecDepth 20000 in
set_option maxHeartbeats 2000000 in
theorem getdata_any {w : World} {a : Option Addr} {L cap : Nat} {F m : List Nat} (hF : fcode F = 0) (hb : Byts w a m) (hL : m.length = L) (hc : L ≤ cap) (hm : L ≤ 1048576) :
    Calls Try.prog 46 #[.agg #[.int .i64 (fmc F : Int), .int .i64 (fmn F : Int), .int .i64 (fmr F : Int)], .slice a L cap] w (SndNew w (dcode F m) (PartOk (fmf F) (L / wd (fmn F : Int)) (smx (fmn F : Int) m))) := by
  obtain ⟨-, hr, -⟩ := fcode_right hF
  have hn1 : 8 ≤ (fmn F : Int) := hr.2.1.1
  have hn2 : (fmn F : Int) ≤ 24 := hr.2.1.2
  have hc1 : 1 ≤ fmc F := by have h : (1 : Int) ≤ ((fmc F : Nat) : Int) := hr.1.1; omega
  have hc8 : fmc F ≤ 8 := by have h : ((fmc F : Nat) : Int) ≤ 8 := hr.1.2; omega
  have hw1 := wd_pos hn1 hn2
  have hw3 := wd_le (fmn F : Int)
  have HWD := hid fun w => rwidth_any (fmn F : Int) w
  obtain ⟨y, hy⟩ : ∃ y, y = fmc F * wd (fmn F : Int) := ⟨_, rfl⟩
  have hy1 : 1 ≤ y := by rw [hy]; exact Nat.mul_pos hc1 hw1
  have hy24 : y ≤ 24 := by rw [hy]; exact Nat.le_trans (Nat.mul_le_mul hc8 hw3) (by decide)
  have hyw : wrap64 ((fmc F : Int) * (wd (fmn F : Int) : Int)) = (y : Int) := by rw [← Int.natCast_mul, ← hy]; unfold wrap64; omega
  have hyw2 : IntKind.i64.wrap ((fmc F : Int) * (wd (fmn F : Int) : Int)) = (y : Int) := by rw [← Int.natCast_mul, ← hy, IntKind.wrap_i64]; omega
  have hy0 : ¬ (y : Int) = 0 := by omega
  have HG0 := hid (gd_new w (fmc F) (fmn F) (fmr F))
  obtain ⟨b0, b1, b2⟩ := HG0.out.bx.get
  have HYE := hid hy
  clear hy
  obtain ⟨d, hd⟩ : ∃ d, d = wd (fmn F : Int) := ⟨_, rfl⟩
  rw [← hd] at HWD HYE hyw hyw2 hw1 hw3
  have HDE := hid hd
  clear hd
  by_cases h0 : L % y = 0
  · have e1 : ((L : Int) % (y : Int) != 0) = false := by rw [bne_eq_false_iff_eq]; omega
    obtain ⟨K, hK⟩ : ∃ K, K = L / d := ⟨_, rfl⟩
    have hKL : K ≤ L := by rw [hK]; exact Nat.div_le_self _ _
    have HKD := hid (show K * d ≤ L by rw [hK]; exact Nat.div_mul_le_self _ _)
    have HKT := hid (show L < (K + 1) * d by rw [hK, Nat.succ_mul]; have := Nat.div_add_mod L d; have := Nat.mod_lt L hw1; rw [Nat.mul_comm]; omega)
    have HDC : Hid (dcode F m = if anyB (fun i => !smk (fmn F : Int) (smt (fmn F : Int) m i)) K = true then 21 else 0) := hid (by
      unfold dcode
      rw [← HDE.out, ← HYE.out, hL, if_neg (fun h => h h0), ← hK])
    have HPZ := hid fun (h : dcode F m = 0) => part_zero hF h hb.lt
    rw [← HDE.out, hL, ← hK] at HPZ
    have HBY := hid hb
    have HLE := hid hL
    have HCP := hid hc
    have HH := hid (And.intro hn1 hn2)
    have HKE := hid hK
    rw [← HDE.out, ← hK]
    obtain ⟨i0, hi, hz0, hz1, hz2⟩ := info_parts Try.info3
    clear h0 hK hb hL hF hc1 hc8 hy1 hy24 hr
    go_enter Try.func46, Try.ntmps46
    go_wp2_with fail
    generalize (w.alloc (.cells #[.int .i64 (fmc F : Int), .int .i64 (fmn F : Int), .int .i64 (fmr F : Int)] 23)).alloc (.cells #[.int .i64 0, .int .i64 0, .int .i64 0, .slice none 0 0] 26) = W0 at *
    refine (HWD.out _).mono ?_
    rintro e w1 ⟨rfl, rfl⟩
    go_wp2_with fail
    clear hyw hyw2 hy0 e1 b0 b1 b2 HWD
    go_loopg [7, 8] K (fun g v i wr => ∃ (k : Nat) (lo : Option Addr) (lcap T : Nat), k ≤ K ∧ g = K - k ∧ v = .slice lo k lcap ∧ i = .int .i64 (T : Int) ∧ Hid (T = k * d) ∧ Hid (Row wr W0.heap.size lo lcap (smx (fmn F : Int) m) k) ∧ Hid (Below W0.heap.size W0 wr) ∧ Hid (∀ j, j < k → smk (fmn F : Int) (smt (fmn F : Int) m j) = true))
    case atStart => exact ⟨0, none, 0, 0, Nat.zero_le _, rfl, rfl, rfl, hid (by rw [Nat.zero_mul]), hid (World.ownsRow_nil _ _ _ _), hid (Below.refl _ _), hid (fun j hj => absurd hj (Nat.not_lt_zero j))⟩
    case round =>
      obtain ⟨k, lo, lcap, T, hk, hg, rfl, rfl, HT, HR, HB, HA⟩ := hrel
      have HG := hid hg
      clear hg
      have hGd := HG0.out.below HB.out
      obtain ⟨b0, b1, b2⟩ := hGd.bx.get
      by_cases hlt : k < K
      · have hTd : T + d ≤ L := by
          have h1 : (k + 1) * d ≤ K * d := Nat.mul_le_mul_right _ hlt
          rw [Nat.succ_mul] at h1
          have := HT.out; have := HKD.out
          omega
        have hTi : (T : Int) + (d : Int) ≤ (L : Int) := by omega
        have hTl : (T : Int) < (L : Int) := by omega
        obtain ⟨x, hx⟩ : ∃ x, m[T]? = some x := ⟨_, List.getElem?_eq_getElem (by rw [HLE.out]; omega)⟩
        obtain ⟨bk, off, ha, hcell⟩ := (HBY.out.keep hGd.bel).at_ T x hx
        have hxl := HBY.out.lt x (List.mem_of_getElem? hx)
        have HAD := hid ha
        have hsub : smt (fmn F : Int) m k = (m.drop T).take d := by unfold smt sub; rw [← HDE.out, ← HT.out]
        have HSB := hid hsub
        clear hsub
        by_cases h8 : fmn F = 8
        · have hg8 : ¬ (fmn F : Int) > 8 := by omega
          have hd1 : d = 1 := by rw [HDE.out, h8]; rfl
          have hsx : smt (fmn F : Int) m k = [x] := by
            rw [HSB.out, hd1, List.drop_eq_getElem_cons (by rw [HLE.out]; omega)]
            rw [(List.getElem?_eq_some_iff.1 hx).2]
            rfl
          obtain ⟨X, hX⟩ : ∃ X : Int, X = (x : Int) - 128 := ⟨_, rfl⟩
          have HX : Hid (X = smx (fmn F : Int) m k) := hid (by
            unfold smx smr
            rw [hsx, if_pos (by omega), hX]
            rfl)
          have HSK : Hid (smk (fmn F : Int) (smt (fmn F : Int) m k) = true) := hid (decide_eq_true (.inl (by omega)))
          have hXw : wrap64 ((x : Int) - 128) = X := by rw [hX]; unfold wrap64; omega
          subst ha
          clear hsx hd1 h8
          have hX2 : (x : Int) - 128 = X := hX.symm
          clear hX
          have hsz : W0.heap.size ≤ (wr.alloc (.cells #[.int .i64 X] 3)).heap.size := by have := HB.out.size; simp; omega
          have hrow := Row.upto HR.out (below_new wr (.cells #[.int .i64 X] 3))
          have hcell2 : (wr.alloc (.cells #[.int .i64 X] 3)).cell? ⟨wr.heap.size, 0, none⟩ = some (.int .i64 X) := by simp
          have HRW := hid hrow
          have HBW := hid (HB.out.trans ((below_new wr (.cells #[.int .i64 X] 3)).mono HB.out.size))
          have hkm : k ≤ 1048576 := by omega
          unfold Row at hrow
          clear hTd hx hGd
          go_wp2_with (at_builtin; go_must (refine wpList_append_one rfl (.tmp 63) (.tmp 65) 55 rfl W0.heap.size 3 i0 (.int .i64 0) 8 Try.underlying55 hi hz0 hz1 hz2 rfl lo k lcap (ivs (smx (fmn F : Int) m) k) rfl hrow ⟨wr.heap.size, 0, none⟩ 1 (.int .i64 X) rfl hcell2 rfl (by unfold maxLen; omega) (by omega) hsz ?_))
          intro gg cap' w4 hown4 hkept
          have hst : Row w4 W0.heap.size (some ⟨gg, 0, none⟩) cap' (smx (fmn F : Int) m) (k + 1) := by
            unfold Row
            rw [ivs_succ, ← HX.out]
            exact hown4
          have HST := hid hst
          have HB4 := hid (HBW.out.grown hkept.grown HBW.out.size (fun b hb => (HRW.out.lt b hb).1))
          clear hst hown4 hkept hrow hcell2 hsz b0 b1 b2 hcell hTl
          go_wp2_with fail
          go_roundg (K - (k + 1))
          case measure => rw [HG.out]; omega
          case rel => exact ⟨k + 1, _, _, T + d, by omega, rfl, rfl, by go_num, hid (by rw [Nat.succ_mul, HT.out]), HST, HB4, hid (fun j hj => by
            by_cases e : j = k
            · rw [e]; exact HSK.out
            · exact HA.out j (by omega))⟩
        · have h9 : 8 < (fmn F : Int) := by have := HH.out.1; omega
          have hg8 : (fmn F : Int) > 8 := h9
          obtain ⟨hd2, hdf, hf7⟩ := wd_fre h9 HH.out.2
          have htl : (smt (fmn F : Int) m k).length = d := by
            rw [HSB.out, List.length_take, List.length_drop, HLE.out]; omega
          have htb : ∀ b ∈ smt (fmn F : Int) m k, b < 256 := by rw [HSB.out]; exact fun b hb => HBY.out.lt b (List.mem_of_mem_drop (List.mem_of_mem_take hb))
          have hsg := sgn_in htb (by rw [htl]; exact hw3)
          have he : 8 * (d : Int) - (fmn F : Int) = (fre (fmn F : Int) : Int) := by rw [← HDE.out] at hdf; omega
          have HPW := hid fun w => rpow_any (fre (fmn F : Int)) (by omega) w
          rw [← he] at HPW
          have HSG := hid (rsigned_any (c := cap - T) ((bcut_byts (cap := cap) (HBY.out.keep hGd.bel) T (by rw [HLE.out]; exact hc)).take d) (by rw [List.length_take]; omega))
          rw [← HSB.out, htl] at HSG
          have HRM := hid fun w => rmod_any (sgn (smt (fmn F : Int) m k)) (2 ^ fre (fmn F : Int)) (Nat.pow_pos (by decide)) (by
            have := Nat.pow_le_pow_right (show 0 < 2 by decide) hf7
            omega) w
          have HFL := hid fun w => floor_any (sgn (smt (fmn F : Int) m k)) (2 ^ fre (fmn F : Int)) (Nat.pow_pos (by decide)) (by omega) (by omega) w
          have hsl := bcut_run a L cap T (T + d) (by omega) (by omega)
          rw [Nat.add_sub_cancel_left, show ((T + d : Nat) : Int) = (T : Int) + (d : Int) by push_cast; rfl] at hsl
          obtain ⟨X, hX⟩ : ∃ X : Int, X = sgn (smt (fmn F : Int) m k) / ((2 ^ fre (fmn F : Int) : Nat) : Int) := ⟨_, rfl⟩
          have HX : Hid (X = smx (fmn F : Int) m k) := hid (by
            unfold smx smr
            rw [if_neg (by omega), hX])
          have HSS : Hid (smk (fmn F : Int) (smt (fmn F : Int) m k) = decide (sgn (smt (fmn F : Int) m k) % ((2 ^ fre (fmn F : Int) : Nat) : Int) = 0)) := hid (decide_eq_decide.2 ⟨fun h => h.resolve_left (by omega), fun h => .inr h⟩)
          rw [← hX] at HFL
          obtain ⟨M, hM⟩ : ∃ M : Int, M = sgn (smt (fmn F : Int) m k) % ((2 ^ fre (fmn F : Int) : Nat) : Int) := ⟨_, rfl⟩
          rw [← hM] at HRM HSS
          clear hM hX he hdf hf7 hd2 htl htb hsg
          generalize sgn (smt (fmn F : Int) m k) = SG at *
          generalize ((2 ^ fre (fmn F : Int) : Nat) : Int) = PW at *
          subst ha
          by_cases hM0 : M = 0
          · have HSK : Hid (smk (fmn F : Int) (smt (fmn F : Int) m k) = true) := hid (by rw [HSS.out]; exact decide_eq_true hM0)
            have hMz : (M != 0) = false := by rw [hM0]; rfl
            clear hM0
            go_wp2_with fail
            refine (HPW.out _).mono ?_
            rintro e w5 ⟨rfl, rfl⟩
            go_wp2_with fail
            refine HSG.out.mono ?_
            rintro e w5 ⟨rfl, rfl⟩
            go_wp2_with fail
            refine (HRM.out _).mono ?_
            rintro e w5 ⟨rfl, rfl⟩
            go_wp2_with fail
            refine (HFL.out _).mono ?_
            rintro e w5 ⟨rfl, rfl⟩
            have hsz : W0.heap.size ≤ (wr.alloc (.cells #[.int .i64 X] 3)).heap.size := by have := HB.out.size; simp; omega
            have hrow := Row.upto HR.out (below_new wr (.cells #[.int .i64 X] 3))
            have hcell2 : (wr.alloc (.cells #[.int .i64 X] 3)).cell? ⟨wr.heap.size, 0, none⟩ = some (.int .i64 X) := by simp
            have HRW := hid hrow
            have HBW := hid (HB.out.trans ((below_new wr (.cells #[.int .i64 X] 3)).mono HB.out.size))
            have hkm : k ≤ 1048576 := by omega
            unfold Row at hrow
            clear hTd hx hGd
            go_wp2_with (at_builtin; go_must (refine wpList_append_one rfl (.tmp 63) (.tmp 65) 55 rfl W0.heap.size 3 i0 (.int .i64 0) 8 Try.underlying55 hi hz0 hz1 hz2 rfl lo k lcap (ivs (smx (fmn F : Int) m) k) rfl hrow ⟨wr.heap.size, 0, none⟩ 1 (.int .i64 X) rfl hcell2 rfl (by unfold maxLen; omega) (by omega) hsz ?_))
            intro gg cap' w4 hown4 hkept
            have hst : Row w4 W0.heap.size (some ⟨gg, 0, none⟩) cap' (smx (fmn F : Int) m) (k + 1) := by
              unfold Row
              rw [ivs_succ, ← HX.out]
              exact hown4
            have HST := hid hst
            have HB4 := hid (HBW.out.grown hkept.grown HBW.out.size (fun b hb => (HRW.out.lt b hb).1))
            clear hst hown4 hkept hrow hcell2 hsz b0 b1 b2 hcell hTl
            go_wp2_with fail
            go_roundg (K - (k + 1))
            case measure => rw [HG.out]; omega
            case rel => exact ⟨k + 1, _, _, T + d, by omega, rfl, rfl, by go_num, hid (by rw [Nat.succ_mul, HT.out]), HST, HB4, hid (fun j hj => by
              by_cases e : j = k
              · rw [e]; exact HSK.out
              · exact HA.out j (by omega))⟩
          · have hMz : (M != 0) = true := by rw [bne_iff_ne]; exact hM0
            have HE : Hid (dcode F m = 21) := hid (by
              rw [HDC.out, if_pos]
              exact (any_iff _ _).2 ⟨k, hlt, by rw [HSS.out, decide_eq_false hM0]; rfl⟩)
            clear hM0
            go_wp2_with fail
            refine (HPW.out _).mono ?_
            rintro e w5 ⟨rfl, rfl⟩
            go_wp2_with fail
            refine HSG.out.mono ?_
            rintro e w5 ⟨rfl, rfl⟩
            go_wp2_with fail
            refine (HRM.out _).mono ?_
            rintro e w5 ⟨rfl, rfl⟩
            obtain ⟨⟨r0, r1, r2, r3⟩, ⟨z0, z1, z2, z3⟩⟩ := hGd.rx
            obtain ⟨y0, y1, y2, y3, _⟩ := four_set _ (w.heap.size + 1) (.int .i64 0) (.int .i64 0) (.int .i64 0) (.slice none 0 0) hGd.rx.four
            have HBF := hid (set4_below hGd.bel (Nat.le_succ _) (.int .i64 0) (.int .i64 0) (.int .i64 0) (.slice none 0 0))
            clear hGd
            go_wp2_with fail
            refine bodyPost_ret (v := .tuple #[.agg #[.int .i64 0, .int .i64 0, .int .i64 0, .slice none 0 0], .int .i64 21]) ?_ rfl ?_
            · rw [results_cell_tmp (p := 4) (u := 5) (ty := 26) (by kernel_rfl)]
              go_simp
            · exact ⟨Dat.nil, by rw [HE.out]; rfl, nil_snd _, HBF.out, fun h => absurd h (by rw [HE.out]; decide), fun _ => rfl⟩
      · obtain rfl : k = K := by omega
        have hge : ¬ (T : Int) + (d : Int) ≤ (L : Int) := by
          have h1 := HKT.out
          rw [Nat.succ_mul, ← HT.out] at h1
          omega
        have HE : Hid (dcode F m = 0) := hid (by
          rw [HDC.out, if_neg]
          intro h
          obtain ⟨j, hj, h2⟩ := (any_iff _ _).1 h
          rw [HA.out j hj] at h2
          cases h2)
        have hpz := HPZ.out HE.out
        have hNI : NewIs W0.heap.size wr lo k (smx (fmn F : Int) m) := own_new HR.out (fun j hj => by simp [ivs, hj]) (by omega)
        obtain ⟨bk, off, hI, -⟩ := hNI
        have hTL : (T : Int) ≤ 1048576 := by have := HT.out; have := HKD.out; omega
        have HP := hid (rpart_any wr (fmf F) lo k lcap bk off (smx (fmn F : Int) m) hI (by omega))
        rw [hpz, show (fmf F).v = .agg #[.int .i64 (fmc F : Int), .int .i64 (fmn F : Int), .int .i64 (fmr F : Int)] from rfl] at HP
        have HGD := hid hGd
        clear hpz hI hGd
        go_wp2_with fail
        refine HP.out.mono ?_
        rintro e w5 ⟨D, rfl, hs5, hb5, hok5, -⟩
        have HG5 := hid (HGD.out.below hb5)
        have HS5 := hid hs5
        have HO5 := hid (hok5 rfl)
        have hlt5 : w.heap.size + 1 < wr.heap.size := HGD.out.lt
        have HL5 := hid hlt5
        clear hs5 hb5 hok5 b0 b1 b2 hlt5
        obtain ⟨⟨r0, r1, r2, r3⟩, ⟨z0, z1, z2, z3⟩⟩ := HG5.out.rx
        obtain ⟨y0, y1, y2, y3, _⟩ := four_set w5 (w.heap.size + 1) (.int .i64 D.f.ch) (.int .i64 D.f.bits) (.int .i64 D.f.rate) (.slice D.a D.n D.cap) HG5.out.rx.four
        have HBF := hid (set4_below HG5.out.bel (Nat.le_succ _) (.int .i64 D.f.ch) (.int .i64 D.f.bits) (.int .i64 D.f.rate) (.slice D.a D.n D.cap))
        have HSF := hid (HS5.out.set4 HO5.out.2 HL5.out HG5.out.rx.four (.int .i64 D.f.ch) (.int .i64 D.f.bits) (.int .i64 D.f.rate) (.slice D.a D.n D.cap))
        have HNF := hid (HO5.out.2.set4 (B' := w.heap.size) HL5.out (by have := HL5.out; omega) (.int .i64 D.f.ch) (.int .i64 D.f.bits) (.int .i64 D.f.rate) (.slice D.a D.n D.cap))
        unfold Dat.v
        go_wp2_with fail
        refine bodyPost_ret (v := .tuple #[.agg #[.int .i64 D.f.ch, .int .i64 D.f.bits, .int .i64 D.f.rate, .slice D.a D.n D.cap], .int .i64 0]) ?_ rfl ?_
        · rw [results_cell_tmp (p := 4) (u := 5) (ty := 26) (by kernel_rfl)]
          go_simp
        · exact ⟨D, by rw [HE.out]; rfl, HSF.out, HBF.out, fun _ => ⟨HO5.out.1, HNF.out⟩, fun h => absurd (by rw [HE.out]; rfl) h⟩
  · have e1 : ((L : Int) % (y : Int) != 0) = true := by rw [bne_iff_ne]; omega
    have HE : Hid (dcode F m = 22) := hid (by
      unfold dcode
      rw [← HDE.out, ← HYE.out, hL, if_pos h0])
    obtain ⟨⟨r0, r1, r2, r3⟩, ⟨z0, z1, z2, z3⟩⟩ := HG0.out.rx
    obtain ⟨y0, y1, y2, y3, _⟩ := four_set _ (w.heap.size + 1) (.int .i64 0) (.int .i64 0) (.int .i64 0) (.slice none 0 0) HG0.out.rx.four
    have HBF := hid (set4_below HG0.out.bel (Nat.le_succ _) (.int .i64 0) (.int .i64 0) (.int .i64 0) (.slice none 0 0))
    clear h0 hb hL hF hc1 hc8 hy1 hy24 hr hn1 hn2 hw1 hw3 hm hc
    go_enter Try.func46, Try.ntmps46
    go_wp2_with fail
    generalize (w.alloc (.cells #[.int .i64 (fmc F : Int), .int .i64 (fmn F : Int), .int .i64 (fmr F : Int)] 23)).alloc (.cells #[.int .i64 0, .int .i64 0, .int .i64 0, .slice none 0 0] 26) = W0 at *
    refine (HWD.out _).mono ?_
    rintro e w1 ⟨rfl, rfl⟩
    go_wp2_with fail
    refine bodyPost_ret (v := .tuple #[.agg #[.int .i64 0, .int .i64 0, .int .i64 0, .slice none 0 0], .int .i64 22]) ?_ rfl ?_
    · rw [results_cell_tmp (p := 4) (u := 5) (ty := 26) (by kernel_rfl)]
      go_simp
    · exact ⟨Dat.nil, by rw [HE.out]; rfl, nil_snd _, HBF.out, fun h => absurd h (by rw [HE.out]; decide), fun _ => rfl⟩
end Go.Proofs.Ytkdpalmdcnpnoaa.Wv
namespace Go.Proofs.Ytkdpalmdcnpnoaa.Wv
open Go.RowKit Gen Fld Pcm

def cnb (b : Bool) : Int := if b then 1 else 0
theorem fr_set4 (w : World) (g : Nat) (u0 u1 u2 u3 : Value) : Fr (fun b => b = g) w ((((w.setCell ⟨g, 0, none⟩ u0).setCell ⟨g, 1, none⟩ u1).setCell ⟨g, 2, none⟩ u2).setCell ⟨g, 3, none⟩ u3) :=
  (((((Fr.refl (fun b => b = g) w).setCell (p := ⟨g, 0, none⟩) rfl u0).setCell (p := ⟨g, 1, none⟩) rfl u1).setCell (p := ⟨g, 2, none⟩) rfl u2).setCell (p := ⟨g, 3, none⟩) rfl u3)
theorem Rx.set {w : World} {k : Nat} {v0 v1 v2 v3 : Value} (h : Rx w k v0 v1 v2 v3) (u0 u1 u2 u3 : Value) : Rx ((((w.setCell ⟨k, 0, none⟩ u0).setCell ⟨k, 1, none⟩ u1).setCell ⟨k, 2, none⟩ u2).setCell ⟨k, 3, none⟩ u3) k u0 u1 u2 u3 := by
  obtain ⟨y0, y1, y2, y3, _⟩ := four_set w k u0 u1 u2 u3 h.four
  obtain ⟨f0, f1, f2, f3⟩ := h.f
  refine ⟨⟨y0, y1, y2, y3⟩, ⟨?_, ?_, ?_, ?_⟩⟩ <;> simp [f0, f1, f2, f3]
/-- What the document's Read keeps. -/
structure DR (w1 wr : World) (F : Option (List Nat)) (S : Option (List Nat × List Nat)) (f : Fmt) (d : Dat) : Prop where
  fb : Cb wr w1.heap.size (.int .i64 f.ch) (.int .i64 f.bits) (.int .i64 f.rate)
  sb : Rx wr (w1.heap.size + 1) (.int .i64 d.f.ch) (.int .i64 d.f.bits) (.int .i64 d.f.rate) (.slice d.a d.n d.cap)
  fmt : ∀ x, F = some x → f = fmf x ∧ fcode x = 0
  snd : Snd wr d
  ok : Rok S d
  both : S.isSome = true → F.isSome = true
  new : S.isSome = true → NewSnd (w1.heap.size + 2) wr d
  bel : Below w1.heap.size w1 wr
  lt : w1.heap.size + 2 ≤ wr.heap.size
theorem DR.below {w1 A B : World} {F : Option (List Nat)} {S : Option (List Nat × List Nat)} {f : Fmt} {d : Dat} (h : DR w1 A F S f d) (hb : Below A.heap.size A B) : DR w1 B F S f d :=
  ⟨h.fb.below hb, h.sb.fr (fr_bel (X := fun _ => False) hb) (fun x => x), h.fmt, h.snd.below hb, h.ok, h.both, fun e => newsnd_below (h.new e) hb, h.bel.trans (hb.mono h.bel.size), Nat.le_trans h.lt hb.size⟩
theorem dr_new (w1 : World) : DR w1 ((w1.alloc (.cells #[.int .i64 0, .int .i64 0, .int .i64 0] 23)).alloc (.cells #[.int .i64 0, .int .i64 0, .int .i64 0, .slice none 0 0] 26)) none none ⟨0, 0, 0⟩ Dat.nil := by
  have hz : (w1.alloc (.cells #[.int .i64 0, .int .i64 0, .int .i64 0] 23)).heap.size = w1.heap.size + 1 := by simp
  have h1 := Rx.new (w1.alloc (.cells #[.int .i64 0, .int .i64 0, .int .i64 0] 23)) (.int .i64 0) (.int .i64 0) (.int .i64 0) (.slice none 0 0) 26
  rw [hz] at h1
  have h2 := bel_new (w1.alloc (.cells #[.int .i64 0, .int .i64 0, .int .i64 0] 23)) (.cells #[.int .i64 0, .int .i64 0, .int .i64 0, .slice none 0 0] 26)
  have h3 := bel_new w1 (.cells #[.int .i64 0, .int .i64 0, .int .i64 0] 23)
  exact ⟨(Cb.new w1 _ _ _ 23).below h2, h1, (fun x h => by cases h), nil_snd _, rfl, (fun h => by cases h), (fun h => by cases h), h3.trans (h2.mono h3.size), by simp⟩
theorem DR.setF {w1 A : World} {f : Fmt} {d : Dat} (h : DR w1 A none none f d) (x : List Nat) (hx : fcode x = 0) :
    DR w1 (((A.setCell ⟨w1.heap.size, 0, none⟩ (.int .i64 (fmc x : Int))).setCell ⟨w1.heap.size, 1, none⟩ (.int .i64 (fmn x : Int))).setCell ⟨w1.heap.size, 2, none⟩ (.int .i64 (fmr x : Int))) (some x) none (fmf x) d :=
  have hf := fr_set3 A w1.heap.size (.int .i64 (fmc x : Int)) (.int .i64 (fmn x : Int)) (.int .i64 (fmr x : Int))
  have hd : d = Dat.nil := h.ok
  ⟨h.fb.set _ _ _, h.sb.fr hf (by omega), fun y hy => by cases hy; exact ⟨rfl, hx⟩, by rw [hd]; exact nil_snd _, h.ok, (fun e => by cases e), (fun e => by cases e), bel_set3 h.bel (Nat.le_refl _) _ _ _, Nat.le_trans h.lt hf.size⟩
theorem DR.setS {w1 A : World} {f : Fmt} {d e : Dat} {x m : List Nat} (h : DR w1 A (some x) none f d) (hs : Snd A e) (hn : NewSnd (w1.heap.size + 2) A e) (ho : Rok (some (x, m)) e) :
    DR w1 ((((A.setCell ⟨w1.heap.size + 1, 0, none⟩ (.int .i64 e.f.ch)).setCell ⟨w1.heap.size + 1, 1, none⟩ (.int .i64 e.f.bits)).setCell ⟨w1.heap.size + 1, 2, none⟩ (.int .i64 e.f.rate)).setCell ⟨w1.heap.size + 1, 3, none⟩ (.slice e.a e.n e.cap)) (some x) (some (x, m)) f e :=
  have hf := fr_set4 A (w1.heap.size + 1) (.int .i64 e.f.ch) (.int .i64 e.f.bits) (.int .i64 e.f.rate) (.slice e.a e.n e.cap)
  ⟨h.fb.fr hf (by omega), h.sb.set _ _ _ _, h.fmt, snd_fr hs hn hf (by omega), ho, fun _ => rfl, fun _ => newsnd_fr hn hf (by omega), set4_below h.bel (Nat.le_succ _) _ _ _ _, Nat.le_trans h.lt hf.size⟩
theorem sum_in (a c : Nat) (h : a + c ≤ 1048576) : wrap64 ((a : Int) + (c : Int)) = ((a + c : Nat) : Int) := by
  rw [← Int.natCast_add]
  generalize a + c = z at *
  unfold wrap64
  omega
theorem stp_fmt {F : Option (List Nat)} {S : Option (List Nat × List Nat)} {nm m : List Nat} (h : nm = [102, 109, 116, 32]) : stp F S nm m = if F.isSome then (51, F, S) else (fcode m, some m, S) := if_pos h
theorem stp_data {f : List Nat} {S : Option (List Nat × List Nat)} {nm m : List Nat} (h1 : nm ≠ [102, 109, 116, 32]) (h : nm = [100, 97, 116, 97]) : stp (some f) S nm m = if S.isSome then (51, some f, S) else (dcode f m, some f, some (f, m)) := by unfold stp; rw [if_neg h1, if_pos h]
theorem stp_none {S : Option (List Nat × List Nat)} {nm m : List Nat} (h1 : nm ≠ [102, 109, 116, 32]) (h : nm = [100, 97, 116, 97]) : stp none S nm m = (51, none, S) := by unfold stp; rw [if_neg h1, if_pos h]
theorem stp_other {F : Option (List Nat)} {S : Option (List Nat × List Nat)} {nm m : List Nat} (h1 : nm ≠ [102, 109, 116, 32]) (h2 : nm ≠ [100, 97, 116, 97]) : stp F S nm m = (0, F, S) := by unfold stp; rw [if_neg h1, if_neg h2]
set_option maxRecDepth 20000 in
set_option maxHeartbeats 4000000 in
theorem rread_any {w : World} {a : Option Addr} {len cap : Nat} {b : List Nat} (hb : Byts w a b) (hlen : b.length = len) (hc : len ≤ cap) (hl5 : len ≤ 1048576) :
    Calls Try.prog 17 #[.slice a len cap] w (RdP w b) := by
  have hR0 := Rx.new w (.int .i64 0) (.int .i64 0) (.int .i64 0) (.slice none 0 0) 26
  have hB0 := bel_new w (.cells #[.int .i64 0, .int .i64 0, .int .i64 0, .slice none 0 0] 26)
  have HCH := hid (rchunks_any (hb.keep hB0) hlen hc (by omega))
  unfold RcP at HCH
  have HR0 := hid hR0
  have HB0 := hid hB0
  clear hR0 hB0
  have HBY := hid hb
  have HLN := hid hlen
  have HCP := hid hc
  clear hb hlen hc
  go_enter Try.func17, Try.ntmps17
  go_wp2_with fail
  generalize w.alloc (.cells #[.int .i64 0, .int .i64 0, .int .i64 0, .slice none 0 0] 26) = W0 at *
  refine HCH.out.mono ?_
  rintro e w1 ⟨ao, c1, rfl, hr1, hb1⟩
  have HR1 := hid (HR0.out.fr (fr_bel (X := fun _ => False) hb1) (fun x => x))
  have HB1 := hid (HB0.out.trans (hb1.mono HB0.out.size))
  have HROW := hid (row_at hr1)
  have HCI := hid (chunks_in_b HBY.out.lt)
  have HRDN := hid (rdw_no (b := b))
  have HRD : Hid ((chunks b).1 = 0 → rdw b = rdl b (chunks b).2 none none) := hid (fun h => if_pos h)
  clear hr1 hb1 HCH
  generalize (chunks b).1 = E at *
  generalize (chunks b).2 = l at *
  by_cases hE : E = 0
  · subst hE
    have HDR := hid (dr_new w1)
    have hlc : l.length ≤ 9223372036854775807 := by have h2 := HROW.out.1.1; have h3 := HROW.out.1.2; unfold maxLen at h3; omega
    have HRDE := hid (HRD.out rfl)
    clear HRD HRDN
    go_wp2_with fail
    generalize (w1.alloc (.cells #[.int .i64 0, .int .i64 0, .int .i64 0] 23)).alloc (.cells #[.int .i64 0, .int .i64 0, .int .i64 0, .slice none 0 0] 26) = W1 at *
    go_loopg [8, 9, 10] l.length (fun gg nf nd i wr => ∃ k : Nat, k ≤ l.length ∧ gg = l.length - k ∧ i = .int .i64 (k : Int) ∧ ∃ F S f d, nf = .int .i64 (cnb (Option.isSome F)) ∧ nd = .int .i64 (cnb (Option.isSome S)) ∧ Hid (DR w1 wr F S f d) ∧ Hid (rdw b = rdl b (l.drop k) F S))
    case atStart => exact ⟨0, Nat.zero_le _, rfl, rfl, none, none, _, _, rfl, rfl, HDR, hid (by rw [List.drop_zero]; exact HRDE.out)⟩
    case round =>
      obtain ⟨k, hk, hg, rfl, F, S, f, d, rfl, rfl, HD, HEQ⟩ := hrel
      have HG := hid hg
      clear hg HDR HRDE
      by_cases hlt : k < l.length
      · have hlt2 : (k : Int) < (l.length : Int) := by omega
        obtain ⟨x, hx⟩ : ∃ x, l[k]? = some x := ⟨_, List.getElem?_eq_getElem hlt⟩
        rcases HROW.out.2 with h0 | ⟨g1, rfl, hg1, _, hf1⟩
        · omega
        · obtain ⟨x0, x1, x2⟩ := hf1 k x hx
          have hci := HCI.out x (List.mem_of_getElem? hx)
          have HX := hid hx
          have HNM := hid hci.2
          have hle := HLN.out
          have hcp := HCP.out
          obtain ⟨m, hm⟩ : ∃ m, m = sub b x.at_ x.sz := ⟨_, rfl⟩
          have HML : Hid (m.length = x.sz) := hid (by rw [hm]; exact sub_len (by omega))
          have HMB := hid fun (W : World) (h : Below w.heap.size w W) => (show Byts W (bcut a cap x.at_) m by rw [hm]; exact (bcut_byts (cap := cap) (HBY.out.keep h) x.at_ (by omega)).take x.sz)
          have HMC := hid (show x.sz ≤ cap - x.at_ by omega)
          have HMS := hid (show x.sz ≤ 1048576 by omega)
          have hsl := bcut_run a len cap x.at_ (x.at_ + x.sz) (by omega) (by omega)
          rw [Nat.add_sub_cancel_left] at hsl
          have hwr := sum_in x.at_ x.sz (by omega)
          have HST : Hid (rdw b = if (stp F S x.nm m).1 = 0 then rdl b (l.drop (k + 1)) (stp F S x.nm m).2.1 (stp F S x.nm m).2.2 else ((stp F S x.nm m).1, none)) := hid (by rw [HEQ.out, drop_cons hx, rdl_step, ← hm])
          have hX0 := fun (W : World) (h : Below w1.heap.size w1 W) => (h.cell (p := ⟨g1, k * 3, none⟩) hg1).trans x0
          have X0 := (HD.out.bel.cell (p := ⟨g1, k * 3, none⟩) hg1).trans x0
          have X1 := (HD.out.bel.cell (p := ⟨g1, k * 3 + 1, none⟩) hg1).trans x1
          have X2 := (HD.out.bel.cell (p := ⟨g1, k * 3 + 2, none⟩) hg1).trans x2
          have HX0 := hid hX0
          clear x0 x1 x2 hf1 hx hci hle hcp hm hX0 hlt hk
          have e1 : (tos [102, 109, 116, 32]).toList = [102, 109, 116, 32] := toList_tos _
          have e2 : (tos [100, 97, 116, 97]).toList = [100, 97, 116, 97] := toList_tos _
          have q1 := tos_beq HNM.out (show ∀ b ∈ [102, 109, 116, 32], b < 256 by decide)
          have q2 := tos_beq HNM.out (show ∀ b ∈ [100, 97, 116, 97], b < 256 by decide)
          rw [e1] at q1
          rw [e2] at q2
          clear e1 e2
          generalize hs : tos x.nm = s at *
          clear hs
          generalize ((x.at_ + x.sz : Nat) : Int) = K3 at *
          generalize (x.at_ : Int) = I3 at *
          generalize (x.sz : Int) = J3 at *
          go_wp2_with fail
          go_quiet (fail)
          clear X1 X2 hwr hsl X0
          have hbq : Below wr.heap.size wr (wr.drewN nq) := ⟨rfl, rfl, rfl, Nat.le_refl _, fun _ _ => rfl⟩
          have HDQ := hid (HD.out.below hbq)
          generalize wr.drewN nq = wq at *
          have HRX := hid (HR1.out.fr (fr_bel (X := fun _ => False) HDQ.out.bel) (fun x => x))
          have HBW := hid (HB1.out.trans (HDQ.out.bel.mono HB1.out.size))
          have X0 := HX0.out wq HDQ.out.bel
          clear hbq HD
          by_cases h1 : x.nm = [102, 109, 116, 32]
          · rw [decide_eq_true h1] at q1
            have hn2 : ¬ x.nm = [100, 97, 116, 97] := by rw [h1]; decide
            rw [decide_eq_false hn2] at q2
            rw [stp_fmt h1] at HST
            clear h1 hn2
            cases F with
            | some y =>
              have HE : Hid (rdw b = (51, none)) := hid (by rw [HST.out]; rfl)
              have hcn : cnb (some y).isSome = 1 := rfl
              rw [hcn]
              clear HST q2
              obtain ⟨⟨r0, r1, r2, r3⟩, ⟨z0, z1, z2, z3⟩⟩ := HRX.out
              obtain ⟨y0, y1, y2, y3, _⟩ := four_set wq w.heap.size (.int .i64 0) (.int .i64 0) (.int .i64 0) (.slice none 0 0) HRX.out.four
              have HBF := hid (set4_below HBW.out (Nat.le_refl _) (.int .i64 0) (.int .i64 0) (.int .i64 0) (.slice none 0 0))
              go_wp2_with fail
              refine bodyPost_ret (v := .tuple #[.agg #[.int .i64 0, .int .i64 0, .int .i64 0, .slice none 0 0], .int .i64 51]) ?_ rfl ?_
              · rw [results_cell_tmp (p := 2) (u := 3) (ty := 26) (by kernel_rfl)]
                go_simp
              · exact ⟨Dat.nil, by rw [HE.out]; rfl, nil_snd _, HBF.out, by rw [HE.out]; rfl⟩
            | none =>
              have hcn : cnb (none : Option (List Nat)).isSome = 0 := rfl
              rw [hcn]
              have hST2 : rdw b = if fcode m = 0 then rdl b (l.drop (k + 1)) (some m) S else (fcode m, none) := HST.out
              have HS2 := hid hST2
              have HGF := hid (getformat_any (HMB.out wq HBW.out) HML.out HMC.out)
              unfold GfP at HGF
              obtain ⟨G, hG⟩ : ∃ G, G = gfv m := ⟨_, rfl⟩
              rw [← hG, show G.v = .agg #[.int .i64 G.ch, .int .i64 G.bits, .int .i64 G.rate] from rfl] at HGF
              have HGE := hid hG
              clear hST2 hG HST
              have hS0 : S = none := by
                cases S with
                | none => rfl
                | some _ => have := HDQ.out.both rfl; cases this
              subst hS0
              have hcm : cnb (none : Option (List Nat × List Nat)).isSome = 0 := rfl
              rw [hcm]
              go_wp2_with fail
              refine HGF.out.mono ?_
              rintro e w5 ⟨rfl, hb5⟩
              have hbn := bel_new w5 (.cells #[.int .i64 G.ch, .int .i64 G.bits, .int .i64 G.rate] 23)
              have HD6 := hid ((HDQ.out.below hb5).below hbn)
              have HC6 := hid (Cb.new w5 (.int .i64 G.ch) (.int .i64 G.bits) (.int .i64 G.rate) 23)
              have HR6 := hid ((HRX.out.fr (fr_bel (X := fun _ => False) hb5) (fun x => x)).fr (fr_bel (X := fun _ => False) hbn) (fun x => x))
              have HB6 := hid (HB1.out.trans (HD6.out.bel.mono HB1.out.size))
              clear hb5 hbn HDQ HRX HBW HGF X0
              go_upto_region 17 with fail
              generalize w5.alloc (.cells #[.int .i64 G.ch, .int .i64 G.bits, .int .i64 G.rate] 23) = W6 at *
              generalize w5.heap.size = g6 at *
              by_cases hf : fcode m = 0
              · have HNX : Hid (rdw b = rdl b (l.drop (k + 1)) (some m) none) := hid (by rw [HS2.out, if_pos hf])
                have hGm : G = fmf m := by rw [HGE.out]; exact if_pos hf
                have HFC := hid hf
                have hfz : ((fcode m : Int) != 0) = false := by rw [hf]; rfl
                subst hGm
                obtain ⟨c0, c1, c2, f0, f1, f2⟩ := HD6.out.fb
                obtain ⟨d0, d1, d2⟩ := HC6.out.get
                have HD7 := hid (HD6.out.setF m hf)
                clear hf HS2
                have e3 : (fmf m).ch = ((fmc m : Nat) : Int) := rfl
                have e4 : (fmf m).bits = ((fmn m : Nat) : Int) := rfl
                have e5 : (fmf m).rate = ((fmr m : Nat) : Int) := rfl
                rw [e3, e4, e5] at HC6 ⊢
                rw [e3] at d0
                rw [e4] at d1
                rw [e5] at d2
                go_upto_region 20 with fail
                clear c0 c1 c2 f0 f1 f2 d0 d1 d2 e3 e4 e5
                generalize (((W6.setCell ⟨w1.heap.size, 0, none⟩ (.int .i64 (fmc m : Int))).setCell ⟨w1.heap.size, 1, none⟩ (.int .i64 (fmn m : Int))).setCell ⟨w1.heap.size, 2, none⟩ (.int .i64 (fmr m : Int))) = W7 at *
                have X0 := HX0.out W7 HD7.out.bel
                go_wp2_with fail
                go_roundg (l.length - (k + 1))
                case measure => rw [HG.out]; omega
                case rel => exact ⟨k + 1, by omega, rfl, by go_num, some m, none, _, _, rfl, rfl, HD7, HNX⟩
              · have hfz : ((fcode m : Int) != 0) = true := by rw [bne_iff_ne]; omega
                have HE : Hid (rdw b = (fcode m, none)) := hid (by rw [HS2.out, if_neg hf])
                clear hf HS2
                obtain ⟨⟨r0, r1, r2, r3⟩, ⟨z0, z1, z2, z3⟩⟩ := HR6.out
                obtain ⟨y0, y1, y2, y3, _⟩ := four_set W6 w.heap.size (.int .i64 0) (.int .i64 0) (.int .i64 0) (.slice none 0 0) HR6.out.four
                have HBF := hid (set4_below HB6.out (Nat.le_refl _) (.int .i64 0) (.int .i64 0) (.int .i64 0) (.slice none 0 0))
                go_wp2_with fail
                refine bodyPost_ret (v := .tuple #[.agg #[.int .i64 0, .int .i64 0, .int .i64 0, .slice none 0 0], .int .i64 (fcode m : Int)]) ?_ rfl ?_
                · rw [results_cell_tmp (p := 2) (u := 3) (ty := 26) (by kernel_rfl)]
                  go_simp
                · exact ⟨Dat.nil, by rw [HE.out]; rfl, nil_snd _, HBF.out, by rw [HE.out]; rfl⟩
          · rw [decide_eq_false h1] at q1
            by_cases h2 : x.nm = [100, 97, 116, 97]
            · rw [decide_eq_true h2] at q2
              cases F with
              | none =>
                rw [stp_none h1 h2] at HST
                have HE : Hid (rdw b = (51, none)) := hid (by rw [HST.out]; rfl)
                have hS0 : S = none := by
                  cases S with
                  | none => rfl
                  | some _ => have := HDQ.out.both rfl; cases this
                subst hS0
                have hcn : cnb (none : Option (List Nat)).isSome = 0 := rfl
                have hcm : cnb (none : Option (List Nat × List Nat)).isSome = 0 := rfl
                rw [hcn, hcm]
                clear HST h1 h2
                obtain ⟨⟨r0, r1, r2, r3⟩, ⟨z0, z1, z2, z3⟩⟩ := HRX.out
                obtain ⟨y0, y1, y2, y3, _⟩ := four_set wq w.heap.size (.int .i64 0) (.int .i64 0) (.int .i64 0) (.slice none 0 0) HRX.out.four
                have HBF := hid (set4_below HBW.out (Nat.le_refl _) (.int .i64 0) (.int .i64 0) (.int .i64 0) (.slice none 0 0))
                go_wp2_with fail
                refine bodyPost_ret (v := .tuple #[.agg #[.int .i64 0, .int .i64 0, .int .i64 0, .slice none 0 0], .int .i64 51]) ?_ rfl ?_
                · rw [results_cell_tmp (p := 2) (u := 3) (ty := 26) (by kernel_rfl)]
                  go_simp
                · exact ⟨Dat.nil, by rw [HE.out]; rfl, nil_snd _, HBF.out, by rw [HE.out]; rfl⟩
              | some y =>
                rw [stp_data h1 h2] at HST
                have hcn : cnb (some y).isSome = 1 := rfl
                rw [hcn]
                cases S with
                | some z =>
                  have HE : Hid (rdw b = (51, none)) := hid (by rw [HST.out]; rfl)
                  have hcm : cnb (some z).isSome = 1 := rfl
                  rw [hcm]
                  clear HST h1 h2
                  obtain ⟨⟨r0, r1, r2, r3⟩, ⟨z0, z1, z2, z3⟩⟩ := HRX.out
                  obtain ⟨y0, y1, y2, y3, _⟩ := four_set wq w.heap.size (.int .i64 0) (.int .i64 0) (.int .i64 0) (.slice none 0 0) HRX.out.four
                  have HBF := hid (set4_below HBW.out (Nat.le_refl _) (.int .i64 0) (.int .i64 0) (.int .i64 0) (.slice none 0 0))
                  go_wp2_with fail
                  refine bodyPost_ret (v := .tuple #[.agg #[.int .i64 0, .int .i64 0, .int .i64 0, .slice none 0 0], .int .i64 51]) ?_ rfl ?_
                  · rw [results_cell_tmp (p := 2) (u := 3) (ty := 26) (by kernel_rfl)]
                    go_simp
                  · exact ⟨Dat.nil, by rw [HE.out]; rfl, nil_snd _, HBF.out, by rw [HE.out]; rfl⟩
                | none =>
                  have hcm : cnb (none : Option (List Nat × List Nat)).isSome = 0 := rfl
                  rw [hcm]
                  have hST2 : rdw b = if dcode y m = 0 then rdl b (l.drop (k + 1)) (some y) (some (y, m)) else (dcode y m, none) := HST.out
                  have HS2 := hid hST2
                  obtain ⟨hfy, hcy⟩ := HDQ.out.fmt y rfl
                  have HGD := hid (getdata_any hcy (HMB.out wq HBW.out) HML.out HMC.out HMS.out)
                  have HFY := hid hfy
                  have hfb := HDQ.out.fb
                  rw [hfy] at hfb
                  obtain ⟨c0, c1, c2⟩ := hfb.get
                  have e3 : (fmf y).ch = ((fmc y : Nat) : Int) := rfl
                  have e4 : (fmf y).bits = ((fmn y : Nat) : Int) := rfl
                  have e5 : (fmf y).rate = ((fmr y : Nat) : Int) := rfl
                  rw [e3] at c0
                  rw [e4] at c1
                  rw [e5] at c2
                  clear hST2 HST h1 h2 hfy hcy hfb e3 e4 e5
                  go_wp2_with fail
                  refine HGD.out.mono ?_
                  rintro e w5 ⟨D, rfl, hs5, hb5, hok5, -⟩
                  have hbn := bel_new w5 (.cells #[.int .i64 D.f.ch, .int .i64 D.f.bits, .int .i64 D.f.rate, .slice D.a D.n D.cap] 26)
                  have HD6 := hid ((HDQ.out.below hb5).below hbn)
                  have HC6 := hid (Rx.new w5 (.int .i64 D.f.ch) (.int .i64 D.f.bits) (.int .i64 D.f.rate) (.slice D.a D.n D.cap) 26)
                  have HR6 := hid ((HRX.out.fr (fr_bel (X := fun _ => False) hb5) (fun x => x)).fr (fr_bel (X := fun _ => False) hbn) (fun x => x))
                  have HB6 := hid (HB1.out.trans (HD6.out.bel.mono HB1.out.size))
                  have HS6 := hid (hs5.below hbn)
                  have HO6 := hid fun (h : ((dcode y m : Nat) : Int) = 0) => And.intro (hok5 h).1 (newsnd_below (newsnd_mono (hok5 h).2 HDQ.out.lt) hbn)
                  clear hs5 hb5 hok5 hbn HDQ HRX HBW HGD X0 c0 c1 c2
                  unfold Dat.v
                  go_upto_region 25 with fail
                  generalize w5.alloc (.cells #[.int .i64 D.f.ch, .int .i64 D.f.bits, .int .i64 D.f.rate, .slice D.a D.n D.cap] 26) = W6 at *
                  generalize w5.heap.size = g6 at *
                  by_cases hf : dcode y m = 0
                  · have HNX : Hid (rdw b = rdl b (l.drop (k + 1)) (some y) (some (y, m))) := hid (by rw [HS2.out, if_pos hf])
                    have hfz : ((dcode y m : Int) != 0) = false := by rw [hf]; rfl
                    obtain ⟨ho6, hn6⟩ := HO6.out (by rw [hf]; rfl)
                    have HD7 := hid (HD6.out.setS (m := m) HS6.out hn6 (by rw [← HML.out] at ho6; exact ho6))
                    obtain ⟨⟨c0, c1, c2, c3⟩, ⟨f0, f1, f2, f3⟩⟩ := HD6.out.sb
                    obtain ⟨⟨d0, d1, d2, d3⟩, -⟩ := HC6.out
                    clear hf HS2 ho6 hn6 HO6
                    go_wp2_with fail
                    go_roundg (l.length - (k + 1))
                    case measure => rw [HG.out]; omega
                    case rel => exact ⟨k + 1, by omega, rfl, by go_num, some y, some (y, m), _, _, rfl, rfl, HD7, HNX⟩
                  · have hfz : ((dcode y m : Int) != 0) = true := by rw [bne_iff_ne]; omega
                    have HE : Hid (rdw b = (dcode y m, none)) := hid (by rw [HS2.out, if_neg hf])
                    clear hf HS2 HO6
                    obtain ⟨⟨r0, r1, r2, r3⟩, ⟨z0, z1, z2, z3⟩⟩ := HR6.out
                    obtain ⟨y0, y1, y2, y3, _⟩ := four_set W6 w.heap.size (.int .i64 0) (.int .i64 0) (.int .i64 0) (.slice none 0 0) HR6.out.four
                    have HBF := hid (set4_below HB6.out (Nat.le_refl _) (.int .i64 0) (.int .i64 0) (.int .i64 0) (.slice none 0 0))
                    go_wp2_with fail
                    refine bodyPost_ret (v := .tuple #[.agg #[.int .i64 0, .int .i64 0, .int .i64 0, .slice none 0 0], .int .i64 (dcode y m : Int)]) ?_ rfl ?_
                    · rw [results_cell_tmp (p := 2) (u := 3) (ty := 26) (by kernel_rfl)]
                      go_simp
                    · exact ⟨Dat.nil, by rw [HE.out]; rfl, nil_snd _, HBF.out, by rw [HE.out]; rfl⟩
            · rw [decide_eq_false h2] at q2
              rw [stp_other h1 h2] at HST
              have HNX : Hid (rdw b = rdl b (l.drop (k + 1)) F S) := hid (by rw [HST.out]; rfl)
              clear HST h1 h2
              go_wp2_with fail
              go_roundg (l.length - (k + 1))
              case measure => rw [HG.out]; omega
              case rel => exact ⟨k + 1, by omega, rfl, by go_num, F, S, f, d, rfl, rfl, HDQ, HNX⟩
      · have hkl : k = l.length := by omega
        subst hkl
        have hge : ¬ (l.length : Int) < (l.length : Int) := by omega
        have heq := HEQ.out
        rw [List.drop_length] at heq
        have HQ := hid heq
        have HRX := hid (HR1.out.fr (fr_bel (X := fun _ => False) HD.out.bel) (fun x => x))
        have HBW := hid (HB1.out.trans (HD.out.bel.mono HB1.out.size))
        cases S with
        | none =>
          have HE : Hid (rdw b = (51, none)) := hid (by rw [HQ.out]; rfl)
          have hcm : cnb (none : Option (List Nat × List Nat)).isSome = 0 := rfl
          rw [hcm]
          clear heq
          obtain ⟨⟨r0, r1, r2, r3⟩, ⟨z0, z1, z2, z3⟩⟩ := HRX.out
          obtain ⟨y0, y1, y2, y3, _⟩ := four_set wr w.heap.size (.int .i64 0) (.int .i64 0) (.int .i64 0) (.slice none 0 0) HRX.out.four
          have HBF := hid (set4_below HBW.out (Nat.le_refl _) (.int .i64 0) (.int .i64 0) (.int .i64 0) (.slice none 0 0))
          go_wp2_with fail
          refine bodyPost_ret (v := .tuple #[.agg #[.int .i64 0, .int .i64 0, .int .i64 0, .slice none 0 0], .int .i64 51]) ?_ rfl ?_
          · rw [results_cell_tmp (p := 2) (u := 3) (ty := 26) (by kernel_rfl)]
            go_simp
          · exact ⟨Dat.nil, by rw [HE.out]; rfl, nil_snd _, HBF.out, by rw [HE.out]; rfl⟩
        | some y =>
          have HE : Hid (rdw b = (0, some y)) := hid (by rw [HQ.out]; exact rdl_ok b F y)
          have hcm : cnb (some y).isSome = 1 := rfl
          rw [hcm]
          obtain ⟨⟨c0, c1, c2, c3⟩, -⟩ := HD.out.sb
          obtain ⟨⟨r0, r1, r2, r3⟩, ⟨z0, z1, z2, z3⟩⟩ := HRX.out
          obtain ⟨y0, y1, y2, y3, _⟩ := four_set wr w.heap.size (.int .i64 d.f.ch) (.int .i64 d.f.bits) (.int .i64 d.f.rate) (.slice d.a d.n d.cap) HRX.out.four
          have hsz : w.heap.size < w1.heap.size := World.block_lt_of_cell? _ _ HR1.out.c.1
          have HBF := hid (set4_below HBW.out (Nat.le_refl _) (.int .i64 d.f.ch) (.int .i64 d.f.bits) (.int .i64 d.f.rate) (.slice d.a d.n d.cap))
          have HSD := hid (HD.out.snd.set4 (HD.out.new rfl) (by omega) HRX.out.four (.int .i64 d.f.ch) (.int .i64 d.f.bits) (.int .i64 d.f.rate) (.slice d.a d.n d.cap))
          have HOK := hid HD.out.ok
          clear heq hsz
          go_wp2_with fail
          refine bodyPost_ret (v := .tuple #[.agg #[.int .i64 d.f.ch, .int .i64 d.f.bits, .int .i64 d.f.rate, .slice d.a d.n d.cap], .int .i64 0]) ?_ rfl ?_
          · rw [results_cell_tmp (p := 2) (u := 3) (ty := 26) (by kernel_rfl)]
            go_simp
          · exact ⟨d, by rw [HE.out]; rfl, HSD.out, HBF.out, by rw [HE.out]; exact HOK.out⟩
  · have hE2 : ((E : Int) != 0) = true := by rw [bne_iff_ne]; omega
    have HE := hid (HRDN.out hE)
    clear hE HRD HRDN
    obtain ⟨⟨r0, r1, r2, r3⟩, ⟨z0, z1, z2, z3⟩⟩ := HR1.out
    obtain ⟨y0, y1, y2, y3, _⟩ := four_set w1 w.heap.size (.int .i64 0) (.int .i64 0) (.int .i64 0) (.slice none 0 0) HR1.out.four
    have HBF := hid (set4_below HB1.out (Nat.le_refl _) (.int .i64 0) (.int .i64 0) (.int .i64 0) (.slice none 0 0))
    go_wp2_with fail
    refine bodyPost_ret (v := .tuple #[.agg #[.int .i64 0, .int .i64 0, .int .i64 0, .slice none 0 0], .int .i64 (E : Int)]) ?_ rfl ?_
    · rw [results_cell_tmp (p := 2) (u := 3) (ty := 26) (by kernel_rfl)]
      go_simp
    · exact ⟨Dat.nil, by rw [HE.out]; rfl, nil_snd _, HBF.out, by rw [HE.out]; rfl⟩
end Go.Proofs.Ytkdpalmdcnpnoaa.Wv
namespace Go.Proofs.Ytkdpalmdcnpnoaa.Wv
open Go.RowKit Gen Fld Pcm

/-- Two sounds that were read of the same bytes. -/
theorem rok_same {s : Option (List Nat × List Nat)} {d e : Dat} (hd : Rok s d) (he : Rok s e) : same d e = true := by
  cases s with
  | none =>
    have h1 : d = Dat.nil := hd
    have h2 : e = Dat.nil := he
    rw [h1, h2]
    exact same_self _
  | some p =>
    obtain ⟨f, m⟩ := p
    obtain ⟨h1, h2, h3⟩ := (show PartOk (fmf f) (m.length / wd (fmn f : Int)) (smx (fmn f : Int) m) d from hd)
    obtain ⟨g1, g2, g3⟩ := (show PartOk (fmf f) (m.length / wd (fmn f : Int)) (smx (fmn f : Int) m) e from he)
    have hn : d.n = e.n := by omega
    rw [same_yes (h1.trans g1.symm)]
    refine eqS_all hn fun i hi => ?_
    obtain ⟨a1, a2⟩ := h3 i hi
    obtain ⟨b1, b2⟩ := g3 i (by omega)
    show eqI (d.X i) (e.X i) (d.ln i) (e.ln i) = true
    exact eqI_iff.2 ⟨by rw [a1, b1, hn], fun j _ => by rw [a2, b2, hn]⟩
set_option maxRecDepth 20000 in
set_option maxHeartbeats 2000000 in
theorem reads_walk (w : World) {a : Option Addr} {len cap : Nat} {b : List Nat} (hb : Byts w a b) (hlen : b.length = len) (hc : len ≤ cap) (hnil : a = none → b.length = 0 ∧ cap = 0) :
    Calls Try.prog 5 #[.slice a len cap] w fun e w' => e = .returned (.bool true) ∧ Below w.heap.size w w' := by
  have HKN := hid fun w' => known_true w'
  by_cases h5 : 500 < len
  · have h52 : (500 : Int) < (len : Int) := by omega
    clear hb hlen hc hnil h5
    go_enter Try.func5, Try.ntmps5
    go_wp2_with fail
    refine (HKN.out _).mono ?_
    rintro e w1 ⟨rfl, hb1⟩
    have HF := hid hb1
    clear hb1
    go_wp2_with fail
    go_ret
    exact ⟨rfl, HF.out⟩
  · have h52 : ¬ (500 : Int) < (len : Int) := by omega
    have HC1 := hid (read_any hb hlen hc hnil (by omega))
    have HC2 := hid fun w' (h : Below w.heap.size w w') => rread_any (hb.keep h) hlen hc (by omega)
    unfold RdP at HC1 HC2
    clear hb hlen hc hnil h5
    generalize (rdw b).1 = E at *
    generalize (rdw b).2 = s at *
    go_enter Try.func5, Try.ntmps5
    go_wp2_with fail
    refine HC1.out.mono ?_
    rintro e w1 ⟨d1, rfl, hs1, hb1, ho1⟩
    have hbn1 := bel_new w1 (.cells #[.int .i64 d1.f.ch, .int .i64 d1.f.bits, .int .i64 d1.f.rate, .slice d1.a d1.n d1.cap] 26)
    have HS1 := hid (hs1.below hbn1)
    have HO1 := hid ho1
    have HB1 := hid (hb1.trans (hbn1.mono hb1.size))
    have HR1 := hid (Rx.new w1 (.int .i64 d1.f.ch) (.int .i64 d1.f.bits) (.int .i64 d1.f.rate) (.slice d1.a d1.n d1.cap) 26)
    clear hs1 hb1 ho1 hbn1 HC1
    unfold Dat.v
    go_wp2_with fail
    generalize w1.alloc (.cells #[.int .i64 d1.f.ch, .int .i64 d1.f.bits, .int .i64 d1.f.rate, .slice d1.a d1.n d1.cap] 26) = W1 at *
    generalize w1.heap.size = p1 at *
    refine (HC2.out W1 HB1.out).mono ?_
    rintro e w2 ⟨d2, rfl, hs2, hb2, ho2⟩
    have hbn2 := bel_new w2 (.cells #[.int .i64 d2.f.ch, .int .i64 d2.f.bits, .int .i64 d2.f.rate, .slice d2.a d2.n d2.cap] 26)
    have hb3 := hb2.trans (hbn2.mono hb2.size)
    have HS2 := hid (hs2.below hbn2)
    have HSM := hid (rok_same HO1.out ho2)
    have HS3 := hid (HS1.out.below hb3)
    have HB3 := hid (HB1.out.trans (hb3.mono HB1.out.size))
    have HR3 := hid (HR1.out.fr (fr_bel (X := fun _ => False) hb3) (fun x => x))
    have HR2 := hid (Rx.new w2 (.int .i64 d2.f.ch) (.int .i64 d2.f.bits) (.int .i64 d2.f.rate) (.slice d2.a d2.n d2.cap) 26)
    clear hs2 hb2 ho2 hbn2 hb3 HC2
    obtain ⟨⟨r0, r1, r2, r3⟩, -⟩ := HR3.out
    have HSA := hid (rsame_any _ d1 d2 HS3.out HS2.out)
    rw [HSM.out] at HSA
    unfold Dat.v at HSA ⊢
    go_wp2_with fail
    refine HSA.out.mono ?_
    rintro e w3 ⟨rfl, hb3⟩
    have HB4 := hid (HB3.out.trans (hb3.mono HB3.out.size))
    clear hb3 r0 r1 r2 r3
    go_wp2_with fail
    refine (HKN.out _).mono ?_
    rintro e w4 ⟨rfl, hb4⟩
    have HF := hid (HB4.out.trans (hb4.mono HB4.out.size))
    clear hb4
    go_wp2_with fail
    go_ret
    exact ⟨rfl, HF.out⟩
end Go.Proofs.Ytkdpalmdcnpnoaa.Wv
