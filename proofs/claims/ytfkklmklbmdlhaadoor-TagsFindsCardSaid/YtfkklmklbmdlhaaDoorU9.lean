/- DeleteFunc, and Drop of the program. Conditions: at most 2^30 tags, texts of at most 2^40 bytes. -/
import Derived.Test.YtfkklmklbmdlhaaDoorU8
namespace Go.Proofs.YtfkklmklbmdlhaaDoor.Tg
open Go.RowKit Gen

/-- A row of tags at block g that may be written. -/
structure Rt (w : World) (g n : Nat) (R : Nat → Tag) : Prop where
  k : ∀ x, x < n → w.cell? ⟨g, x * 2, none⟩ = some (.string (R x).k)
  v : ∀ x, x < n → w.cell? ⟨g, x * 2 + 1, none⟩ = some (.string (R x).v)
  z : ∀ y, w.frozen? ⟨g, y, none⟩ = false
theorem Rt.keep {w w' : World} {g n : Nat} {R : Nat → Tag} (h : Rt w g n R) (hg : g < w.heap.size) (hb : Below w.heap.size w w') : Rt w' g n R := by
  refine ⟨fun x hx => ?_, fun x hx => ?_, fun y => ?_⟩
  · rw [World.cell?_of_block (hb.block g hg)]; exact h.k x hx
  · rw [World.cell?_of_block (hb.block g hg)]; exact h.v x hx
  · rw [World.frozen?_of_block (hb.block g hg)]; exact h.z y
theorem Rt.set {w : World} {g n : Nat} {R : Nat → Tag} (h : Rt w g n R) {i : Nat} (hi : i < n) (t : Tag) : Rt ((w.setCell ⟨g, i * 2, none⟩ (.string t.k)).setCell ⟨g, i * 2 + 1, none⟩ (.string t.v)) g n fun x => if x = i then t else R x := by
  have hne : ∀ {x y : Nat}, x ≠ y → (⟨g, x, none⟩ : Addr) ≠ ⟨g, y, none⟩ := fun hxy e => hxy (by cases e; rfl)
  refine ⟨fun x hx => ?_, fun x hx => ?_, fun y => by rw [World.frozen?_setCell, World.frozen?_setCell]; exact h.z y⟩
  · rw [World.cell?_setCell_other _ _ _ _ (hne (by omega))]
    by_cases e : x = i
    · subst e
      rw [if_pos rfl]
      exact World.cell?_setCell_same _ _ _ (h.k x hx)
    · rw [if_neg e, World.cell?_setCell_other _ _ _ _ (hne (by omega))]
      exact h.k x hx
  · by_cases e : x = i
    · subst e
      rw [if_pos rfl]
      exact World.cell?_setCell_same _ _ _ (by rw [World.cell?_setCell_other _ _ _ _ (hne (by omega))]; exact h.v x hx)
    · rw [if_neg e, World.cell?_setCell_other _ _ _ _ (hne (by omega)), World.cell?_setCell_other _ _ _ _ (hne (by omega))]
      exact h.v x hx
theorem Rt.tb {w : World} {g n : Nat} {R : Nat → Tag} (h : Rt w g n R) (hg : g < w.heap.size) (m : Nat) (hm : m ≤ n) : Tb w (some ⟨g, 0, none⟩) m g 0 R :=
  ⟨fun _ => rfl, fun i hi => by rw [Nat.zero_add]; exact h.k i (by omega), fun i hi => by rw [Nat.zero_add]; exact h.v i (by omega), fun _ => hg⟩
theorem Rt.congr {w : World} {g n : Nat} {R R' : Nat → Tag} (h : Rt w g n R) (e : ∀ x, x < n → R x = R' x) : Rt w g n R' := ⟨fun x hx => by rw [← e x hx]; exact h.k x hx, fun x hx => by rw [← e x hx]; exact h.v x hx, h.z⟩
theorem Ow.rt {w : World} {B g cap : Nat} {l : List Tag} (h : Ow w B (some ⟨g, 0, none⟩) cap l) : Rt w g l.length (gt l) := by
  refine ⟨fun x hx => ?_, fun x hx => ?_, fun y => h.frozenAt y⟩
  · have := h.cellAt (x * 2) (by omega)
    rwa [(flat_k l x _ (gt_at hx)).1] at this
  · have := h.cellAt (x * 2 + 1) (by omega)
    rwa [(flat_k l x _ (gt_at hx)).2] at this

theorem bel_cells {B g : Nat} (hB : B ≤ g) {w0 : World} : ∀ (vs : List Value) (o : Nat) {w : World}, Below B w0 w → Below B w0 (w.setCells g o vs)
  | [], _, _, h => h
  | v :: vs, o, _, h => bel_cells hB vs (o + 1) (h.setCell (p := ⟨g, o, none⟩) hB v)
/-- clear(s) of a slice of tags. -/
theorem run_clear_tags (w : World) (ty : TypeId) (g i m c : Nat) (hm : 0 < m) (hc : ∀ j, j < m * 2 → (w.cell? ⟨g, i * 2 + j, none⟩).isSome = true) (hf : ∀ y, w.frozen? ⟨g, y, none⟩ = false) :
    ∃ vs : List Value, vs.length = m * 2 ∧ (Builtin.clear_ #[22] ty #[.slice (some ⟨g, i * 2, none⟩) m c]).run Tryd.prog w = .ok (.tuple #[]) (w.setCells g (i * 2) vs) := by
  have hz : ∀ w, (zeroValue 30).run Tryd.prog w = .ok (.agg #[.string ⟨#[]⟩, .string ⟨#[]⟩]) w := fun w => by kernel_rfl
  have hl : (Builtin.zeroCells (Value.agg #[.string ⟨#[]⟩, .string ⟨#[]⟩]).cells m).toList.length = m * 2 := by
    simp [Builtin.zeroCells, Value.cells]
  have h1 : ∀ v ∈ (Builtin.zeroCells (Value.agg #[.string ⟨#[]⟩, .string ⟨#[]⟩]).cells m).toList, v.oneCell' = true := by
    intro v hv
    simp only [Builtin.zeroCells, Array.toList_map, List.mem_map] at hv
    obtain ⟨i, _, rfl⟩ := hv
    have e9 : i % (Value.agg #[.string ⟨#[]⟩, .string ⟨#[]⟩]).cells.size = 0 ∨ i % (Value.agg #[.string ⟨#[]⟩, .string ⟨#[]⟩]).cells.size = 1 := by
      show i % 2 = 0 ∨ i % 2 = 1
      omega
    rcases e9 with e9 | e9 <;> rw [e9] <;> rfl
  have hst := run_storeCells_cells (P := Tryd.prog) g (i * 2) _ 0 w (by rw [hl]; simpa using hc) (by intro j _; exact hf _) h1
  simp only [Nat.add_zero] at hst
  obtain ⟨n, rfl⟩ : ∃ n, m = n + 1 := ⟨m - 1, by omega⟩
  refine ⟨_, hl, ?_⟩
  simp [Builtin.clear_, run_underlying Tryd.underlying22, hz, hst]

theorem gt_app {l m : List Tag} {x : Nat} (hx : x < l.length) : gt (l ++ m) x = gt l x := by unfold gt; simp [List.getD, List.getElem?_append_left hx]
theorem gt_last {l : List Tag} {t : Tag} : gt (l ++ [t]) l.length = t := by unfold gt; simp [List.getD]

/-- What a call of DeleteFunc leaves. -/
def DelP (w : World) (B : Nat) (ao : Option Addr) (cap : Nat) (M : List Tag) (e : Ending) (w' : World) : Prop := ∃ b, e = .returned (.slice ao M.length cap) ∧ Tb w' ao M.length b 0 (gt M) ∧ Below B w w'
set_option maxRecDepth 20000 in
set_option maxHeartbeats 4000000 in
theorem delete_any (kf : ByteArray) (q : Nat) (w : World) (hq : w.cell? ⟨q, 0, none⟩ = some (.string kf)) {B : Nat} (hB : B ≤ w.heap.size) {ao : Option Addr} {len cap : Nat} {T : Nat → Tag} (ho : Ow w B ao cap (lst T len)) (hz : Sz T len) (hl : len ≤ 1073741824) (hqg : ∀ g, ao = some ⟨g, 0, none⟩ → g ≠ q) :
    Calls Tryd.prog 39 #[.slice ao len cap, .func (.func 58) #[] #[.pointer (some ⟨q, 0, none⟩)]] w (DelP w B ao cap (flt kf (lst T len))) := by
  obtain ⟨b0, tb0, _, _⟩ := ho.tb
  rw [lst_len] at tb0
  have hix := index_any kf q w hq tb0 (Sz.mk hz.n (fun i hi => by rw [gt_lst T len i hi]; exact hz.k i hi) (fun i hi => by rw [gt_lst T len i hi]; exact hz.v i hi)) cap
  rw [lk_lst] at hix
  have HIX := hid hix
  clear hix tb0
  rcases fx_cases (lk T kf) len with ⟨hfx, hno⟩ | ⟨k, hfx, hkl, hyes, hbef⟩
  · rw [hfx] at HIX
    have HF := hid (flt_all hno)
    have HO := hid ho
    clear hno hfx ho
    go_enter Tryd.func39, Tryd.ntmps39
    go_wp2_with fail
    refine HIX.out.mono ?_
    rintro e w1 ⟨rfl, hb1⟩
    have HB1 := hid hb1
    clear hb1
    go_wp2_with fail
    go_ret
    obtain ⟨b4, t4, _, _⟩ := (HO.out.keep HB1.out).tb
    exact ⟨b4, by rw [HF.out, lst_len]; rfl, by rw [HF.out]; exact t4, HB1.out.mono hB⟩
  · rw [hfx] at HIX
    rcases own_at ho with ⟨rfl, h0, _⟩ | ⟨g, rfl, hgB, hglt, hcl⟩
    · rw [lst_len] at h0; omega
    rw [lst_len] at hcl
    have hrt := ho.rt
    rw [lst_len] at hrt
    have HRT := hid (hrt.congr fun x hx => gt_lst T len x hx)
    have HQG := hid (hqg g rfl)
    have HQ := hid hq
    have HK0 := hid (show flt kf (lst T (k + 1)) = lst T k by rw [flt_yes hyes, flt_all hbef])
    have HAC := hid fun (i : Nat) (hi : i < len) (w' : World) (h : w'.cell? ⟨q, 0, none⟩ = some (.string kf)) => alike1_any (T i) kf q (hz.k i hi) w' h
    have HGB := hid hgB
    have HBR := hid hB
    have HKB := hid (show (flt kf (lst T (k + 1))).length = k by rw [HK0.out, lst_len])
    clear hrt ho hz hq hqg hbef hyes hfx hgB hB
    go_enter Tryd.func39, Tryd.ntmps39
    go_wp2_with fail
    refine HIX.out.mono ?_
    rintro e w1 ⟨rfl, hb1⟩
    have HB1 := hid hb1
    have HG1 := hid (Nat.lt_of_lt_of_le hglt hb1.size)
    have HR1 := hid (HRT.out.keep hglt hb1)
    have HQ1 := hid (show w1.cell? ⟨q, 0, none⟩ = some (.string kf) from (World.cell?_of_block (a := ⟨q, 0, none⟩) (hb1.block q (World.block_lt_of_cell? _ _ HQ.out))).trans HQ.out)
    have hk1 : ((k : Int) == -1) = false := by rw [beq_eq_false_iff_ne]; omega
    clear hb1 HRT
    go_wp2_with fail
    go_loopg [5, 6] (len - (k + 1)) (fun gh i j wr => ∃ (n m : Nat) (R : Nat → Tag), m ≤ len ∧ n < m ∧ gh = len - m ∧ i = .int .i64 (n : Int) ∧ j = .int .i64 (m : Int) ∧ Hid (n = (flt kf (lst T m)).length) ∧ Hid (∀ x, x < n → R x = gt (flt kf (lst T m)) x) ∧ Hid (∀ x, m ≤ x → x < len → R x = T x) ∧ Hid (Rt wr g len R) ∧ Hid (Below B w wr) ∧ Hid (g < wr.heap.size) ∧ Hid (wr.cell? ⟨q, 0, none⟩ = some (.string kf)))
    case atStart =>
      exact ⟨k, k + 1, T, by omega, by omega, rfl, rfl, by go_num, hid HKB.out.symm, hid fun x hx => by rw [HK0.out, gt_lst T k x hx], hid fun _ _ _ => rfl, HR1, hid (HB1.out.mono HBR.out), HG1, HQ1⟩
    case round =>
      obtain ⟨n, m, R, hm, hnm, hgh, rfl, rfl, HN, HRF, HRT, HRW, HB, HGL, HQR⟩ := hrel
      have HGH := hid hgh
      clear hgh
      by_cases hlt : m < len
      · have hlt2 : (m : Int) < (len : Int) := by omega
        have HRm := hid (HRT.out m (Nat.le_refl _) hlt)
        have ck := HRW.out.k m hlt
        have cv := HRW.out.v m hlt
        rw [HRm.out] at ck cv
        have HAL := hid fun w' h => HAC.out m hlt w' h
        have HD0 := hid (show lk T kf m = decide (fold (T m).k = kf) from rfl)
        have hbn := bel_new wr (.cells #[.string (T m).k, .string (T m).v] 30)
        have hsz : (wr.alloc (.cells #[.string (T m).k, .string (T m).v] 30)).heap.size = wr.heap.size + 1 := by simp
        have hx0 : (wr.alloc (.cells #[.string (T m).k, .string (T m).v] 30)).cell? ⟨wr.heap.size, 0, none⟩ = some (.string (T m).k) := by simp
        have hx1 : (wr.alloc (.cells #[.string (T m).k, .string (T m).v] 30)).cell? ⟨wr.heap.size, 1, none⟩ = some (.string (T m).v) := by simp
        have HX0 := hid hx0
        have HX1 := hid hx1
        have HB2 := hid (HB.out.trans (hbn.mono (Nat.le_trans HBR.out HB.out.size)))
        have HRW2 := hid (HRW.out.keep HGL.out hbn)
        have HGL2 := hid (show g < (wr.alloc (.cells #[.string (T m).k, .string (T m).v] 30)).heap.size by rw [hsz]; have := HGL.out; omega)
        have HQR2 := hid (show (wr.alloc (.cells #[.string (T m).k, .string (T m).v] 30)).cell? ⟨q, 0, none⟩ = some (.string kf) from (World.cell?_of_block (a := ⟨q, 0, none⟩) (hbn.block q (World.block_lt_of_cell? _ _ HQR.out))).trans HQR.out)
        clear hbn hsz hx0 hx1
        go_wp2_with fail
        refine (HAL.out _ HQR2.out).mono ?_
        rintro e w2 ⟨rfl, hb2⟩
        have hx0 := (World.cell?_of_block (a := ⟨wr.heap.size, 0, none⟩) (hb2.block wr.heap.size (World.block_lt_of_cell? _ _ HX0.out))).trans HX0.out
        have hx1 := (World.cell?_of_block (a := ⟨wr.heap.size, 1, none⟩) (hb2.block wr.heap.size (World.block_lt_of_cell? _ _ HX1.out))).trans HX1.out
        have HB3 := hid (HB2.out.trans (hb2.mono (Nat.le_trans HBR.out HB2.out.size)))
        have HRW3 := hid (HRW2.out.keep HGL2.out hb2)
        have HGL3 := hid (Nat.lt_of_lt_of_le HGL2.out hb2.size)
        have HQR3 := hid (show w2.cell? ⟨q, 0, none⟩ = some (.string kf) from (World.cell?_of_block (a := ⟨q, 0, none⟩) (hb2.block q (World.block_lt_of_cell? _ _ HQR2.out))).trans HQR2.out)
        clear hb2 ck cv HX0 HX1
        generalize hDD : decide (fold (T m).k = kf) = D at *
        clear hDD
        cases D with
        | true =>
          have HY := hid (flt_yes (T := T) HD0.out)
          clear hx0 hx1
          go_wp2_with fail
          go_roundg (len - (m + 1))
          case measure => rw [HGH.out]; omega
          case rel => exact ⟨n, m + 1, R, by omega, by omega, rfl, rfl, by go_num, hid (by rw [HY.out]; exact HN.out), hid (by rw [HY.out]; exact HRF.out), hid (fun x h1 h2 => HRT.out x (by omega) h2), HRW3, HB3, HGL3, HQR3⟩
        | false =>
          have HY := hid (flt_no (T := T) HD0.out)
          have hnl : n < len := by omega
          have ckn := HRW3.out.k n hnl
          have cvn := HRW3.out.v n hnl
          have zk := HRW3.out.z (n * 2)
          have zv := HRW3.out.z (n * 2 + 1)
          have HRW4 := hid (HRW3.out.set hnl (T m))
          have hgq : (⟨g, n * 2, none⟩ : Addr) ≠ ⟨q, 0, none⟩ := fun e => HQG.out (congrArg Addr.block e)
          have hgq1 : (⟨g, n * 2 + 1, none⟩ : Addr) ≠ ⟨q, 0, none⟩ := fun e => HQG.out (congrArg Addr.block e)
          have HQR4 := hid (show ((w2.setCell ⟨g, n * 2, none⟩ (.string (T m).k)).setCell ⟨g, n * 2 + 1, none⟩ (.string (T m).v)).cell? ⟨q, 0, none⟩ = some (.string kf) by rw [World.cell?_setCell_other _ _ _ _ hgq1, World.cell?_setCell_other _ _ _ _ hgq]; exact HQR3.out)
          have HB4 := hid ((HB3.out.setCell (p := ⟨g, n * 2, none⟩) HGB.out (.string (T m).k)).setCell (p := ⟨g, n * 2 + 1, none⟩) HGB.out (.string (T m).v))
          have HGL4 := hid (show g < ((w2.setCell ⟨g, n * 2, none⟩ (.string (T m).k)).setCell ⟨g, n * 2 + 1, none⟩ (.string (T m).v)).heap.size by simpa using HGL3.out)
          have hnl2 : (n : Int) < (len : Int) := by omega
          clear hgq hgq1
          go_wp2_with fail
          go_roundg (len - (m + 1))
          case measure => rw [HGH.out]; omega
          case rel =>
            refine ⟨n + 1, m + 1, _, by omega, by omega, rfl, by go_num, by go_num, hid (by rw [HY.out, List.length_append, ← HN.out]; rfl), hid (fun x hx => ?_), hid (fun x h1 h2 => ?_), HRW4, HB4, HGL4, HQR4⟩
            · show (if x = n then T m else R x) = _
              rw [HY.out]
              by_cases e : x = n
              · rw [if_pos e, e, HN.out, gt_last]
              · rw [if_neg e, gt_app (by rw [← HN.out]; omega)]; exact HRF.out x (by omega)
            · show (if x = n then T m else R x) = _
              rw [if_neg (by omega)]; exact HRT.out x (by omega) h2
      · have hge : ¬ (m : Int) < (len : Int) := by omega
        obtain rfl : m = len := by omega
        have hmc : (m : Int) ≤ (cap : Int) := by omega
        have hnm2 : (n : Int) ≤ (m : Int) := by omega
        have hcn : ¬ cap = n := by omega
        obtain ⟨vs, hvl, hcl2⟩ := run_clear_tags wr 0 g n (m - n) (cap - n) (by omega) (fun j hj => by
          have h1 := HRW.out.k (n + j / 2) (by omega)
          have h2 := HRW.out.v (n + j / 2) (by omega)
          by_cases e : j % 2 = 0
          · rw [show n * 2 + j = (n + j / 2) * 2 from by omega, h1]; rfl
          · rw [show n * 2 + j = (n + j / 2) * 2 + 1 from by omega, h2]; rfl) HRW.out.z
        have HE := hid (show Tb (wr.setCells g (n * 2) vs) (some ⟨g, 0, none⟩) n g 0 (gt (flt kf (lst T m))) from ⟨fun _ => rfl, fun x hx => by
            rw [Nat.zero_add, World.cell?_setCells_out g vs _ _ _ (fun _ _ => .inl (by show x * 2 < n * 2; omega)), ← HRF.out x hx]; exact HRW.out.k x (by omega), fun x hx => by
            rw [Nat.zero_add, World.cell?_setCells_out g vs _ _ _ (fun _ _ => .inl (by show x * 2 + 1 < n * 2; omega)), ← HRF.out x hx]; exact HRW.out.v x (by omega), fun _ => Nat.lt_of_lt_of_le HGL.out (bel_cells (Nat.zero_le _) vs (n * 2) (Below.refl 0 wr)).size⟩)
        have HBF := hid (bel_cells HGB.out vs (n * 2) HB.out)
        go_wp2_with fail
        go_ret
        exact ⟨g, by rw [← HN.out]; rfl, by rw [← HN.out]; exact HE.out, HBF.out⟩

theorem drop_any (w : World) {a : Option Addr} {len b off : Nat} {T : Nat → Tag} (h : Tb w a len b off T) {cap : Nat} (hn : a = none → len = 0 ∧ cap = 0) (hl : len ≤ 1073741824) (hz : Sz T len) (key : ByteArray) (hk : key.size ≤ 1099511627776) :
    Calls Tryd.prog 17 #[.slice a len cap, .string key] w (DropP w (flt (fold key) (lst T len))) := by
  have HC := hid (tclone_any w h hn hl)
  have HAL := hid fun w' => alike_any key hk w'
  have HZ := hid hz
  clear h hz
  go_enter Tryd.func17, Tryd.ntmps17
  go_wp2_with fail
  refine HC.out.mono ?_
  rintro e w1 ⟨ao, cp, rfl, ho1, hb1⟩
  have HO1 := hid ho1
  have HB1 := hid hb1
  have HGL := hid fun g (hg : ao = some ⟨g, 0, none⟩) => (show g < w1.heap.size by
    rcases own_at ho1 with ⟨e, _, _⟩ | ⟨g', e, _, hlt, _⟩
    · rw [e] at hg; cases hg
    · rw [e] at hg; cases hg; exact hlt)
  clear ho1 hb1
  go_wp2_with fail
  refine (HAL.out _).mono ?_
  rintro e w2 ⟨rfl, hq2, hb2⟩
  have HB2 := hid (HB1.out.trans (hb2.mono HB1.out.size))
  have HD := hid (delete_any (fold key) w1.heap.size w2 hq2 (B := w.heap.size) HB2.out.size (HO1.out.keep hb2) HZ.out hl (fun g hg => Nat.ne_of_lt (HGL.out g hg)))
  clear hq2 hb2
  go_wp2_with fail
  refine HD.out.mono ?_
  rintro e w3 ⟨b3, rfl, ht3, hb3⟩
  have HT3 := hid ht3
  have HB3 := hid (HB2.out.trans hb3)
  clear ht3 hb3
  go_wp2_with fail
  go_ret
  exact ⟨ao, cp, b3, 0, rfl, HT3.out, HB3.out⟩
end Go.Proofs.YtfkklmklbmdlhaaDoor.Tg
