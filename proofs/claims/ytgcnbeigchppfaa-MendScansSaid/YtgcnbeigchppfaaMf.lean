/- Scan of the document. Conditions: at most 2^30 bytes. -/
import Derived.Test.YtgcnbeigchppfaaMe
import Derived.Test.YtgcnbeigchppfaaJz
namespace Go.Proofs.Ytgcnbeigchppfaa.Mnd
open Go.RowKit Gen
attribute [local go_sem] Oper.semAt_some

theorem info40 : (Try.prog.info? 40).map (fun i => (i.zero, i.size, i.bytes)) = some (some (.agg #[.int .i64 0, .int .i64 0, .int .i64 0, .int .i64 0, .int .i64 0, .int .i64 0, .bool false, .int .u32 0, .int .i64 0, .slice none 0 0, .int .u32 0]), 11, 96) := by kernel_rfl
/-- What stands in the document's Scan; w: the world in which it began. -/
structure DI (w : World) (b S : List Nat) (aa : Option Addr) (ca : Nat) (X : List Fnd) (wr : World) : Prop where
  row : wr.ownsRow w.heap.size 40 11 (.slice aa S.length ca) S.length (fns X)
  fs : Fs wr b S X
  far : ∀ (j : Nat) (x : Fnd), X[j]? = some x → ∀ q, blk x.a = some q → q < w.heap.size
  bel : Below w.heap.size w wr
theorem DI.keep {w wr w' : World} {b S : List Nat} {aa : Option Addr} {ca : Nat} {X : List Fnd} (h : DI w b S aa ca X wr) (hb : Below wr.heap.size wr w') : DI w b S aa ca X w' :=
  ⟨ownsRow_block h.row fun q hq => hb.block q (h.row.lt q (by rw [ownBlock_slice]; exact hq)).2, h.fs.keep hb, h.far, h.bel.trans (hb.mono h.bel.size)⟩
theorem wr_6 {a z : Nat} (h : a ≤ 1073741824) (hz : z ≤ 1073741824) : wrap64 ((a : Int) + 36 + (z : Int)) = (a : Int) + 36 + (z : Int) := IntWalk.wrap64_in _ (by omega)
theorem wr_7 {a : Nat} (h : a ≤ 1073741824) : wrap64 ((a : Int) + 36) = (a : Int) + 36 := IntWalk.wrap64_in _ (by omega)
set_option maxHeartbeats 4000000 in
set_option maxRecDepth 100000 in
theorem rscan_any {w : World} {ba : Option Addr} {b : List Nat} {bn bc : Nat} (hb : Byts w ba b) (hbn : b.length = bn) (hbc : bn ≤ bc) (hm : bn ≤ 1073741824) :
    Calls Try.prog 12 #[.slice ba bn bc] w (ScP w 40 b) := by
  have HN := hid (And.intro hbn hbc)
  have HB := hid hb
  have HSC := hid (show ∀ e w', ScP w 40 b e w' = ∃ aa ca X, e = .returned (.slice aa (sc b 0).length ca) ∧ w'.ownsRow w.heap.size 40 11 (.slice aa (sc b 0).length ca) (sc b 0).length (fns X) ∧ Fs w' b (sc b 0) X ∧ Below w.heap.size w w' from fun _ _ => rfl)
  clear hb
  go_enter Try.func12, Try.ntmps12
  go_wp2_with fail
  go_loopg [3, 4, 5] bn (fun gh vo vp vk wr => ∃ (p k : Nat) (S : List Nat) (aa : Option Addr) (ca : Nat) (X : List Fnd), p ≤ bn ∧ k ≤ p ∧ gh = bn - p ∧ vo = .slice aa S.length ca ∧ vp = .int .i64 (p : Int) ∧ vk = .int .i64 (k : Int) ∧ DI w b S aa ca X wr ∧ S ++ sc b p = sc b 0 ∧ blen b S ≤ p)
  case atStart => exact ⟨0, 0, [], none, 0, [], Nat.zero_le _, Nat.le_refl _, rfl, rfl, rfl, rfl, ⟨World.ownsRow_nil _ _ _ _, Fs.nil _ _, (fun j x h => by simp at h), Below.refl _ _⟩, rfl, Nat.le_refl _⟩
  case round =>
    obtain ⟨p, k, S, aa, ca, X, hp, hkp, hgh, rfl, rfl, rfl, hi, hs, hbl⟩ := hrel
    have HG := hid hgh
    have HII := hid hi
    have HSS := hid hs
    have HBL := hid hbl
    have hkb : (k : Int) ≤ (bn : Int) := by omega
    have hk1 : wrap64 ((k : Int) + 1) = (k : Int) + 1 := wr_4 (by omega)
    clear hgh hi hs hbl
    by_cases hlt : p < bn
    rotate_left 1
    · obtain rfl : p = bn := by omega
      have hnl : ¬ (p : Int) < (p : Int) := by omega
      have hfin : S = sc b 0 := by rw [← HSS.out, sc_end (by rw [HN.out.1]; exact Nat.le_refl _), List.append_nil]
      subst hfin
      go_wp2_with fail
      go_ret
      rw [HSC.out]
      exact ⟨aa, ca, X, rfl, HII.out.row, HII.out.fs, HII.out.bel⟩
    have hlti : (p : Int) < (bn : Int) := by omega
    have hple : (p : Int) ≤ (bn : Int) := by omega
    have hpc : p ≤ bc := by have := HN.out.2; omega
    have hne : ¬ bc = p := by have := HN.out.2; omega
    obtain ⟨bq, bo, rfl⟩ : ∃ bq bo, ba = some ⟨bq, bo, none⟩ := by
      obtain ⟨q, off, e, _⟩ := HB.out.at_ 0 _ (List.getElem?_eq_getElem (by rw [HN.out.1]; omega))
      exact ⟨q, off, e⟩
    have HBQ := hid (show bq < w.heap.size from by
      obtain ⟨q, off, e, hc⟩ := HB.out.at_ 0 _ (List.getElem?_eq_getElem (by rw [HN.out.1]; omega))
      cases e
      exact World.block_lt_of_cell? _ _ hc)
    have hdl : (b.drop p).length = bn - p := by rw [List.length_drop, HN.out.1]
    have HOP := hid (hdl ▸ Head.ropenq_any (cap := bc - p) ((HB.out.keep HII.out.bel).drop p) (by have := HN.out.2; omega) (by omega) : Calls Try.prog 23 #[.slice (some ⟨bq, bo + p, none⟩) (bn - p) (bc - p)] wr (Head.ROpenQ wr (some ⟨bq, bo + p, none⟩) (Head.opH (b.drop p)) (Head.opP (b.drop p)) (Head.opS (b.drop p)) (Head.opE (b.drop p))))
    obtain ⟨r, hr⟩ : ∃ r, b.drop p = r := ⟨_, rfl⟩
    rw [hr] at HOP hdl
    have HR := hid hr
    obtain ⟨eo, heo⟩ : ∃ eo, Head.opE r = eo := ⟨_, rfl⟩
    obtain ⟨hd, hhd⟩ : ∃ hd, Head.opH r = hd := ⟨_, rfl⟩
    rw [heo, hhd] at HOP
    have HEO := hid heo
    have HHD := hid hhd
    have HDL := hid hdl
    clear hr heo hhd hdl
    go_wp2_with fail
    refine HOP.out.mono ?_
    rintro e w2 ⟨ao, co, rfl, hby, hb2, hq2⟩
    rw [show Head.hv hd = .agg (Head.hvl hd) from rfl]
    have HNQ := hid (show ∀ q, blk ao = some q → q < w.heap.size from fun q hq => by
      have h1 : bq = q := by have := hq2 q hq; simpa [blk] using this
      rw [← h1]; exact HBQ.out)
    have HAN := hid (heap_alloc_new w2 (.cells #[.int .i64 0, .int .i64 0, .int .i64 0, .int .i64 0, .int .i64 0, .bool false, .int .u32 0, .int .i64 0] 38))
    have hb3 : Below w2.heap.size w2 ((w2.alloc (.cells #[.int .i64 0, .int .i64 0, .int .i64 0, .int .i64 0, .int .i64 0, .bool false, .int .u32 0, .int .i64 0] 38)).setRow w2.heap.size (Head.hvl hd)) := Head.fr_rowBelow (Head.below_new w2 _) (Nat.le_refl _)
    have HX3 := hid (show Head.Bx ((w2.alloc (.cells #[.int .i64 0, .int .i64 0, .int .i64 0, .int .i64 0, .int .i64 0, .bool false, .int .u32 0, .int .i64 0] 38)).setRow w2.heap.size (Head.hvl hd)) w2.heap.size hd from ⟨setRow_heap _ _ _ _ _ _ HAN.out⟩)
    have HI3 := hid ((HII.out.keep hb2).keep hb3)
    have HNB3 := hid (hby.keep hb3)
    have HS3 := hid (And.intro hb2.size hb3.size)
    clear hby hb2 hb3 hq2 HOP
    obtain ⟨w3, hw3⟩ : ∃ w3, ((w2.alloc (.cells #[.int .i64 0, .int .i64 0, .int .i64 0, .int .i64 0, .int .i64 0, .bool false, .int .u32 0, .int .i64 0] 38)).setRow w2.heap.size (Head.hvl hd)) = w3 := ⟨_, rfl⟩
    rw [hw3] at HX3 HI3 HNB3 HS3
    have HW3 := hid hw3
    have hwp : wrap64 ((p : Int) + 1) = (p : Int) + 1 := wr_4 (by omega)
    have c0 := HX3.out.c0
    have c1 := HX3.out.c1
    have c2 := HX3.out.c2
    have c3 := HX3.out.c3
    have c4 := HX3.out.c4
    have c5 := HX3.out.c5
    have c6 := HX3.out.c6
    have c7 := HX3.out.c7
    clear hw3
    by_cases hE : eo = 0
    rotate_left 1
    · have hE' : (eo == 0) = false := by rw [beq_eq_false_iff_ne]; exact hE
      have hms : sc b p = sc b (p + 1) := sc_miss (by rw [HN.out.1]; exact hlt) (by rw [HR.out, HEO.out]; exact hE)
      have HMS := hid hms
      clear hms
      go_wp2_with (refine wpList_store_row rfl 38 _ _ rfl w2.heap.size (Head.hvl hd) rfl rfl 38 #[.int .i64 0, .int .i64 0, .int .i64 0, .int .i64 0, .int .i64 0, .bool false, .int .u32 0, .int .i64 0] HAN.out (Head.hvl_size hd) rfl (by simp [Head.hvl, Value.oneCell']) ?_; rw [HW3.out])
      go_roundg (bn - (p + 1))
      case measure => rw [HG.out]; omega
      case rel => exact ⟨p + 1, k + 1, S, aa, ca, X, by omega, by omega, rfl, rfl, by first | rfl | go_num, by first | rfl | go_num, HI3.out, by rw [← HMS.out]; exact HSS.out, by have := HBL.out; omega⟩
    subst hE
    have hho : Head.opE (b.drop p) = 0 := by rw [HR.out]; exact HEO.out
    have HHIT := hid (sc_hit (by rw [HN.out.1]; exact hlt) hho)
    obtain ⟨hrt, hsz', hle, hzl⟩ := Fil.op_ok hho
    rw [HR.out, HHD.out] at hsz'
    rw [HR.out] at hle hzl
    obtain ⟨z, hz⟩ : ∃ z, Head.szn r = z := ⟨_, rfl⟩
    rw [hz] at hsz' hle hzl
    have HSZ := hid hz
    have HSH := hid hsz'
    have HLE := hid (show p + (36 + z) ≤ bn from by have h1 := HDL.out; rw [h1] at hle; omega)
    have hp30 : p ≤ 1073741824 := by omega
    have hz30 : z ≤ 1073741824 := by omega
    have HFO := hid (show FnOk w3 b ⟨p, hd, ao, (Head.opP r).length, co, Head.opS r⟩ p from ⟨by rw [HR.out]; exact HHD.out.symm, by rw [HR.out], by rw [HR.out]; exact HNB3.out, by rw [HR.out], rfl⟩)
    have hSl : S.length ≤ 1073741824 := by have h1 := len_blen b S; have h2 := HBL.out; omega
    have hw7 := wr_7 hp30
    have hw6 := wr_6 hp30 hz30
    have hrow := HI3.out.row
    have hwsz := HI3.out.bel.size
    obtain ⟨i40, hi40, hz0, hz1, hz2⟩ := info_parts info40
    clear hrt hsz' hle hzl hz hho hwp hp30 hz30
    go_wp2_with (first
      | (refine wpList_store_row rfl 38 _ _ rfl w2.heap.size (Head.hvl hd) rfl rfl 38 #[.int .i64 0, .int .i64 0, .int .i64 0, .int .i64 0, .int .i64 0, .bool false, .int .u32 0, .int .i64 0] HAN.out (Head.hvl_size hd) rfl (by simp [Head.hvl, Value.oneCell']) ?_; rw [HW3.out])
      | (at_builtin; go_must (refine wpList_append_lies _ rfl (.tmp 33) (.tmp 39) 27 rfl w.heap.size 40 i40 _ 11 96 Try.underlying27 hi40 hz0 hz1 hz2 rfl (by decide) (.slice aa S.length ca) S.length (fns X) rfl (hrow.alloc _) ⟨w3.heap.size, 0, none⟩ 1 _ (fnl ⟨p, hd, ao, (Head.opP r).length, co, Head.opS r⟩) rfl rfl (cells_new1 _ _ _) (fnl_one _) (by decide) (by unfold maxLen; omega) (by omega) (by show w.heap.size ≤ (w3.heap.push _).size; rw [Array.size_push]; omega) (w3.heap.size + 1) (Array.size_push _) ?_)))
    intro gg cap9 w9 how9 hg9 hat9 hlt9
    rw [ownBlock_slice] at hg9 hat9
    have hfr : Fr (fun q => blk aa = some q) w3 w9 := ((Fr.refl _ w3).alloc _).grown hg9 (fun q hq _ => hq)
    have haa : ∀ q, blk aa = some q → w.heap.size ≤ q := fun q hq => (HI3.out.row.lt q (by rw [ownBlock_slice]; exact hq)).1
    have HX9 := hid (show Head.Bx w9 w2.heap.size hd from ⟨(hfr.block _ HX3.out.lt (fun e => by
      have h1 := (HII.out.row.lt _ (by rw [ownBlock_slice]; exact e)).2
      have h2 := HS3.out.1
      omega)).trans HX3.out.row⟩)
    have HD9 := hid (show DI w b (S ++ [p]) (some ⟨gg, 0, none⟩) cap9 (X ++ [⟨p, hd, ao, (Head.opP r).length, co, Head.opS r⟩]) w9 from by
      refine ⟨by rw [fns_snoc, List.length_append]; exact how9, (HI3.out.fs.stay hfr (fun j y hj q h1 h2 => by have h3 := HI3.out.far j y hj q h1; have h4 := haa q h2; omega)).snoc ⟨HFO.out.h, HFO.out.n, HFO.out.y.stay hfr (fun q off e h2 => by have h3 := HNQ.out q (by have e' : ao = some ⟨q, off, none⟩ := e; rw [e']; rfl); have h4 := haa q h2; omega), HFO.out.s, HFO.out.e⟩, fun j y hj q h1 => ?_, HI3.out.bel.trans ⟨hfr.os, hfr.tape, hfr.output, hfr.size, fun q hq => hfr.block q (Nat.lt_of_lt_of_le hq hwsz) (fun e => by have := haa q e; omega)⟩⟩
      by_cases hjl : j < X.length
      · rw [List.getElem?_append_left hjl] at hj
        exact HI3.out.far j y hj q h1
      · have hjl2 : j = X.length := by
          have := (List.getElem?_eq_some_iff.1 hj).1
          rw [List.length_append] at this
          simp at this
          omega
        subst hjl2
        simp at hj
        subst hj
        exact HNQ.out q h1)
    clear hfr haa how9 hg9 hat9 hlt9 hrow hi40 hz0 hz1 hz2 c0 c1 c2 c3 c4 c5 c6 c7
    have c7 := HX9.out.c7
    rw [HSH.out] at c7
    have HW6 := hid hw6
    go_wp2_with fail
    clear hw6 hw7 c7
    go_roundg (bn - (p + (36 + z)))
    case measure => rw [HG.out]; have := HLE.out; omega
    case rel => exact ⟨p + (36 + z), k + 1, S ++ [p], some ⟨gg, 0, none⟩, cap9, X ++ [⟨p, hd, ao, (Head.opP r).length, co, Head.opS r⟩], HLE.out, by omega, rfl, by rw [List.length_append]; rfl, by rw [show ((p + (36 + z) : Nat) : Int) = (p : Int) + 36 + (z : Int) by omega]; first | rfl | rw [HW6.out], by first | rfl | go_num, HD9.out, by rw [← HSS.out, HHIT.out, HR.out, HSZ.out]; simp, by rw [blen_snoc, HR.out, HSZ.out]; have := HBL.out; omega⟩
end Go.Proofs.Ytgcnbeigchppfaa.Mnd
