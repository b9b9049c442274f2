/- Get of the program. Conditions: a table, bytes in memory. -/
import Derived.Test.YthjjonbkfkpkmaaDoorY07
namespace Go.Proofs.YthjjonbkfkpkmaaDoor.Inf
open Go.RowKit Gen Fld
open Crc hiding hid

set_option maxRecDepth 100000 in
theorem tat_any {w : World} {q : Nat} {s : TS} (h : TkS w q s) : Calls Tryd.prog 44 #[.pointer (some ⟨q, 0, none⟩)] w fun e w' => e = .returned (.int .i64 (s.pos : Int)) ∧ w = w' := by
  obtain ⟨a, cap, ht, _, _⟩ := h
  have c2 := ht.c2
  go_enter Tryd.func44, Tryd.ntmps44
  go_wp2_with fail
  go_ret
  exact ⟨rfl, rfl⟩
set_option maxRecDepth 100000 in
theorem byts_lt {w : World} {b off : Nat} {l : List Nat} (h : Byts w (some ⟨b, off, none⟩) l) (hl : 0 < l.length) : b < w.heap.size := by
  obtain ⟨b', off', e, hc⟩ := h.at_ 0 l[0] (List.getElem?_eq_getElem hl)
  cases e
  exact World.block_lt_of_cell? _ _ hc
set_option maxRecDepth 100000 in
theorem at_take (l : List Nat) (j n m : Nat) (h : j + n ≤ m) : at_ (l.take m) j n = at_ l j n := by
  unfold at_
  rw [List.drop_take, List.take_take, Nat.min_eq_left (by omega)]
set_option maxRecDepth 100000 in
theorem inl_take (l : List Nat) : inl (l.take 19) = inl l := by
  unfold inl
  rw [at_take _ _ _ _ (by decide), at_take _ _ _ _ (by decide), at_take _ _ _ _ (by decide), at_take _ _ _ _ (by decide), at_take _ _ _ _ (by decide), at_take _ _ _ _ (by decide)]
/-- The sum behind the first 15 bytes is the right one. -/
def Sm (l : List Nat) : Prop := at_ l 15 4 = cs (l.take 15)
instance (l : List Nat) : Decidable (Sm l) := by unfold Sm; exact inferInstance
def getE (l : List Nat) : Int := if ¬ Bgn l then 31 else if l.length < 19 then 10 else if ¬ Sm l then 33 else if ¬ Rt (inl l) then 32 else 0
def getI (l : List Nat) : If := if getE l = 0 then inl l else iz
def InfP (w : World) (i : If) (x : Int) (e : Ending) (w' : World) : Prop := e = .returned (.tuple #[iv i, .int .i64 x]) ∧ Below w.heap.size w w'
set_option maxRecDepth 100000 in
theorem get_nil (v : Value) (w : World) : Calls Tryd.prog 21 #[.pointer none, v] w (InfP w iz 2) := by
  have HZ := hid (Bx.new w iz)
  have HB0 := hid (below_new w (.cells (ivl iz) 25))
  have HPO := hid (show ∀ e w', InfP w iz 2 e w' = (e = .returned (.tuple #[iv iz, .int .i64 2]) ∧ Below w.heap.size w w') from fun _ _ => rfl)
  go_enter Tryd.func21, Tryd.ntmps21
  go_wp2_with (refine wpList_store_row rfl 25 _ _ rfl w.heap.size (ivl iz) rfl rfl 25 (ivl iz) HZ.out.row (ivl_size _) rfl (ivl_one _) ?_)
  refine bodyPost_ret (res_ct (p := 4) (u := 5) (ty := 25) (by kernel_rfl) _ _ w.heap.size 25 (ivl iz) (0, 0) _ rfl (setRow_heap _ _ _ _ _ _ HZ.out.row) Tryd.underlying25 rfl (ivl_size _) rfl) rfl ?_
  rw [HPO.out]
  exact ⟨rfl, fr_rowBelow HB0.out (Nat.le_refl _)⟩
set_option maxRecDepth 100000 in
set_option maxHeartbeats 2000000 in
theorem get_any {w : World} {g : Nat} (ht : Tab w g) {a : Option Addr} {l : List Nat} {cap : Nat} (hb : Byts w a l) (hc : l.length ≤ cap) (hm : l.length ≤ 1099511627776) :
    Calls Tryd.prog 21 #[.pointer (some ⟨g, 0, none⟩), .slice a l.length cap] w (InfP w (getI l) (getE l)) := by
  have HBG := hid fun (w' : World) (hb' : Byts w' a l) => begins_any hb' hc hm
  have HZ := hid (Bx.new w iz)
  have HB0 := hid (below_new w (.cells (ivl iz) 25))
  have HBY := hid (hb.keep HB0.out)
  have HT := hid (ht.keep (HB0.out.block g ht.lt))
  have HGI := hid (show getI l = if getE l = 0 then inl l else iz from rfl)
  have HGE := hid (show getE l = if ¬ Bgn l then 31 else if l.length < 19 then 10 else if ¬ Sm l then 33 else if ¬ Rt (inl l) then 32 else 0 from rfl)
  have HPO := hid (show ∀ i x e w', InfP w i x e w' = (e = .returned (.tuple #[iv i, .int .i64 x]) ∧ Below w.heap.size w w') from fun _ _ _ _ => rfl)
  clear ht hb
  rw [HGI.out]
  have hge := HGE.out
  by_cases h1 : Bgn l
  · rw [decide_eq_true h1] at HBG
    rw [if_neg (fun h => h h1)] at hge
    by_cases h2 : l.length < 19
    · rw [if_pos h2] at hge
      rw [hge, if_neg (by decide)]
      have hl : (l.length : Int) < 19 := by omega
      clear hge HGE HGI h1 h2
      go_enter Tryd.func21, Tryd.ntmps21
      go_wp2_with fail
      refine (HBG.out _ HBY.out).mono ?_
      rintro e w' ⟨rfl, rfl⟩
      go_wp2_with (refine wpList_store_row rfl 25 _ _ rfl w.heap.size (ivl iz) rfl rfl 25 (ivl iz) HZ.out.row (ivl_size _) rfl (ivl_one _) ?_)
      refine bodyPost_ret (res_ct (p := 4) (u := 5) (ty := 25) (by kernel_rfl) _ _ w.heap.size 25 (ivl iz) (0, 0) _ rfl (setRow_heap _ _ _ _ _ _ HZ.out.row) Tryd.underlying25 rfl (ivl_size _) rfl) rfl ?_
      rw [HPO.out]
      exact ⟨rfl, fr_rowBelow HB0.out (Nat.le_refl _)⟩
    · rw [if_neg h2] at hge
      have hl : ¬ (l.length : Int) < 19 := by omega
      have hc19 : 19 ≤ cap := by omega
      have hb19 := HBY.out.take 19
      have hl19 : (l.take 19).length = 19 := by rw [List.length_take]; omega
      have hb15 := HBY.out.take 15
      have hl15 : (l.take 15).length = 15 := by rw [List.length_take]; omega
      obtain ⟨b, off, rfl⟩ := byts_at hb19 (by omega)
      have HTK := hid fun (w' : World) (hb' : Byts w' (some ⟨b, off, none⟩) (l.take 19)) => take4_any (c := cap) hl19 hb' (fun e => by cases e) (by decide)
      have HTN := hid fun (w' : World) (q : Nat) (h : TkS w' q ⟨0, l.take 19, 0⟩) => (taken_any q (l.take 19) w' h (by omega))
      have HU := hid fun (w' : World) (q : Nat) (h : TkS w' q ⟨0, (l.take 19).drop 15, 15⟩) => (tku_at 15 4 h (by decide) (by decide) (by omega))
      have HSU := hid fun (w' : World) (g' : Nat) (ht' : Tab w' g') (hb' : Byts w' (some ⟨b, off, none⟩) (l.take 15)) => tsum_any (cap := cap) ht' hb' (by omega)
      have hcl := cs_lt (l := l.take 15) (fun x hx => HBY.out.lt x (List.mem_of_mem_take hx))
      have uc : IntKind.u64.wrap (cs (l.take 15) : Int) = cs (l.take 15) := u64_small _ hcl
      rw [hl15] at HSU
      unfold TakP at HTN
      rw [inl_take] at HTN
      rw [at_take _ _ _ _ (by decide)] at HU
      have HB19 := hid hb19
      have HL19 := hid (show 0 < (l.take 19).length from by omega)
      have HB15 := hid hb15
      have HR := hid fun (w' : World) => right_any (inl l) w'
      have hsm : (((at_ l 15 4 : Nat) : Int) == ((cs (l.take 15) : Nat) : Int)) = decide (Sm l) := by rw [Bool.eq_iff_iff, beq_iff_eq, decide_eq_true_eq]; exact Int.ofNat_inj
      clear hb19 hl19 hb15 hl15 h1 h2 hcl
      generalize at_ l 15 4 = n4 at *
      generalize cs (l.take 15) = sv at *
      generalize inl l = ii at *
      by_cases h3 : Sm l
      ·
        rw [if_neg (fun h => h h3)] at hge
        rw [decide_eq_true h3] at hsm
        by_cases h4 : Rt ii
        · rw [if_neg (fun h => h h4)] at hge
          rw [hge, if_pos rfl]
          rw [decide_eq_true h4] at HR
          clear hge HGE HGI h3 h4
          go_enter Tryd.func21, Tryd.ntmps21
          go_wp2_with fail
          refine (HBG.out _ HBY.out).mono ?_
          rintro e w' ⟨rfl, rfl⟩
          go_wp2_with fail
          refine (HTK.out _ HB19.out).mono ?_
          rintro e w1 ⟨q, rfl, hq, hs1, hb1⟩
          have hw0 : (w.alloc (.cells (ivl iz) 25)).heap.size = w.heap.size + 1 := Deep.nblk_alloc _ _
          have hq' : w.heap.size < q := by omega
          have hgq : g < q := by have := HT.out.lt; omega
          have hbq : b < q := by have := byts_lt HB19.out HL19.out; omega
          clear hw0 hq
          have HQ := hid hq'
          have HT1 := hid (HT.out.keep (hb1.block g HT.out.lt))
          have HZ1 := hid (HZ.out.below hb1 HZ.out.lt)
          have HY1 := hid (HB15.out.keep hb1)
          have HB1 := hid (HB0.out.trans (hb1.mono HB0.out.size))
          have HS1 := hid hs1
          clear hs1 hb1
          go_wp2_with fail
          refine (HTN.out _ _ HS1.out).mono ?_
          rintro e w2 ⟨rfl, hs2, hf2⟩
          have HT2 := hid (HT1.out.keep (hf2.block g HT1.out.lt (by omega)))
          have HZ2 := hid (show Bx w2 w.heap.size iz from ⟨(hf2.block _ HZ1.out.lt (by have := HQ.out; omega)).trans HZ1.out.row⟩)
          have HY2 := hid (HY1.out.stay hf2 (fun b' off' e => by cases e; omega))
          have HB2 := hid (show Below w.heap.size w w2 from HB1.out.trans ⟨hf2.os, hf2.tape, hf2.output, hf2.size, fun x hx => hf2.block x (Nat.lt_of_lt_of_le hx HB1.out.size) (by have := HQ.out; omega)⟩)
          have hbn := below_new w2 (.cells #[.int .i64 ii.k, .int .i64 ii.f.ch, .int .i64 ii.f.bits, .int .i64 ii.f.rate, .int .i64 ii.bk, .int .i64 ii.sh] 25)
          have HX3 := hid (show Bx (w2.alloc (.cells #[.int .i64 ii.k, .int .i64 ii.f.ch, .int .i64 ii.f.bits, .int .i64 ii.f.rate, .int .i64 ii.bk, .int .i64 ii.sh] 25)) w2.heap.size ii from Bx.new w2 ii)
          have HT3 := hid (HT2.out.keep (hbn.block g HT2.out.lt))
          have HZ3 := hid (HZ2.out.below hbn HZ2.out.lt)
          have HY3 := hid (HY2.out.keep hbn)
          have HB3 := hid (HB2.out.trans (hbn.mono HB2.out.size))
          have HS3 := hid (hs2.below hbn)
          have HN := hid (show g < q ∧ b < q ∧ w.heap.size < q ∧ q < w2.heap.size from ⟨hgq, hbq, HQ.out, hs2.lt⟩)
          clear hs2 hf2 hbn HT1 HZ1 HY1 HB1 HS1 HT2 HZ2 HY2 HB2 hgq hbq hq' HQ
          rw [show iv ii = .agg #[.int .i64 ii.k, .int .i64 ii.f.ch, .int .i64 ii.f.bits, .int .i64 ii.f.rate, .int .i64 ii.bk, .int .i64 ii.sh] from rfl]
          go_wp2_with fail
          refine (tat_any HS3.out).mono ?_
          rintro e w' ⟨rfl, rfl⟩
          go_wp2_with fail
          refine (HU.out _ _ HS3.out).mono ?_
          rintro e w4 ⟨rfl, hs4, hf4⟩
          have HT4 := hid (HT3.out.keep (hf4.block g HT3.out.lt (by have := HN.out.1; omega)))
          have HZ4 := hid (show Bx w4 w.heap.size iz from ⟨(hf4.block _ HZ3.out.lt (by have := HN.out.2.2.1; omega)).trans HZ3.out.row⟩)
          have HX4 := hid (show Bx w4 w2.heap.size ii from ⟨(hf4.block _ HX3.out.lt (by have := HN.out.2.2.2; omega)).trans HX3.out.row⟩)
          have HY4 := hid (HY3.out.stay hf4 (fun b' off' e => by cases e; have := HN.out.2.1; omega))
          have HB4 := hid (show Below w.heap.size w w4 from HB3.out.trans ⟨hf4.os, hf4.tape, hf4.output, hf4.size, fun x hx => hf4.block x (Nat.lt_of_lt_of_le hx HB3.out.size) (by have := HN.out.2.2.1; omega)⟩)
          clear hs4 hf4 HT3 HZ3 HX3 HY3 HB3 HS3
          go_wp2_with fail
          refine (HSU.out _ _ HT4.out HY4.out).mono ?_
          rintro e w' ⟨rfl, rfl⟩
          rw [show iv ii = .agg #[.int .i64 ii.k, .int .i64 ii.f.ch, .int .i64 ii.f.bits, .int .i64 ii.f.rate, .int .i64 ii.bk, .int .i64 ii.sh] from rfl] at HR
          have c := HX4.out
          have d0 := c.c0; have d1 := c.c1; have d2 := c.c2; have d3 := c.c3; have d4 := c.c4; have d5 := c.c5
          clear c
          go_wp2_with fail
          refine (HR.out _).mono ?_
          rintro e w5 ⟨rfl, hb5⟩
          have HZ5 := hid (HZ4.out.below hb5 HZ4.out.lt)
          have HX5 := hid (HX4.out.below hb5 HX4.out.lt)
          have HB5 := hid (HB4.out.trans (hb5.mono HB4.out.size))
          clear hb5 HZ4 HX4 HB4 d0 d1 d2 d3 d4 d5
          go_wp2_with (first
            | (refine wpList_load_row rfl 25 _ rfl w2.heap.size rfl 25 (ivl ii) (0, 0) _ HX5.out.row Tryd.underlying25 rfl (ivl_size _) ?_)
            | (refine wpList_store_row rfl 25 _ _ rfl w.heap.size (ivl ii) rfl rfl 25 (ivl iz) HZ5.out.row (ivl_size _) rfl (ivl_one _) ?_))
          refine bodyPost_ret (res_ct (p := 4) (u := 5) (ty := 25) (by kernel_rfl) _ _ w.heap.size 25 (ivl ii) (0, 0) _ rfl (setRow_heap _ _ _ _ _ _ HZ5.out.row) Tryd.underlying25 rfl (ivl_size _) rfl) rfl ?_
          rw [HPO.out]
          exact ⟨rfl, fr_rowBelow HB5.out (Nat.le_refl _)⟩
        · rw [if_pos h4] at hge
          rw [hge, if_neg (by decide)]
          rw [decide_eq_false h4] at HR
          clear hge HGE HGI h3 h4
          go_enter Tryd.func21, Tryd.ntmps21
          go_wp2_with fail
          refine (HBG.out _ HBY.out).mono ?_
          rintro e w' ⟨rfl, rfl⟩
          go_wp2_with fail
          refine (HTK.out _ HB19.out).mono ?_
          rintro e w1 ⟨q, rfl, hq, hs1, hb1⟩
          have hw0 : (w.alloc (.cells (ivl iz) 25)).heap.size = w.heap.size + 1 := Deep.nblk_alloc _ _
          have hq' : w.heap.size < q := by omega
          have hgq : g < q := by have := HT.out.lt; omega
          have hbq : b < q := by have := byts_lt HB19.out HL19.out; omega
          clear hw0 hq
          have HQ := hid hq'
          have HT1 := hid (HT.out.keep (hb1.block g HT.out.lt))
          have HZ1 := hid (HZ.out.below hb1 HZ.out.lt)
          have HY1 := hid (HB15.out.keep hb1)
          have HB1 := hid (HB0.out.trans (hb1.mono HB0.out.size))
          have HS1 := hid hs1
          clear hs1 hb1
          go_wp2_with fail
          refine (HTN.out _ _ HS1.out).mono ?_
          rintro e w2 ⟨rfl, hs2, hf2⟩
          have HT2 := hid (HT1.out.keep (hf2.block g HT1.out.lt (by omega)))
          have HZ2 := hid (show Bx w2 w.heap.size iz from ⟨(hf2.block _ HZ1.out.lt (by have := HQ.out; omega)).trans HZ1.out.row⟩)
          have HY2 := hid (HY1.out.stay hf2 (fun b' off' e => by cases e; omega))
          have HB2 := hid (show Below w.heap.size w w2 from HB1.out.trans ⟨hf2.os, hf2.tape, hf2.output, hf2.size, fun x hx => hf2.block x (Nat.lt_of_lt_of_le hx HB1.out.size) (by have := HQ.out; omega)⟩)
          have hbn := below_new w2 (.cells #[.int .i64 ii.k, .int .i64 ii.f.ch, .int .i64 ii.f.bits, .int .i64 ii.f.rate, .int .i64 ii.bk, .int .i64 ii.sh] 25)
          have HX3 := hid (show Bx (w2.alloc (.cells #[.int .i64 ii.k, .int .i64 ii.f.ch, .int .i64 ii.f.bits, .int .i64 ii.f.rate, .int .i64 ii.bk, .int .i64 ii.sh] 25)) w2.heap.size ii from Bx.new w2 ii)
          have HT3 := hid (HT2.out.keep (hbn.block g HT2.out.lt))
          have HZ3 := hid (HZ2.out.below hbn HZ2.out.lt)
          have HY3 := hid (HY2.out.keep hbn)
          have HB3 := hid (HB2.out.trans (hbn.mono HB2.out.size))
          have HS3 := hid (hs2.below hbn)
          have HN := hid (show g < q ∧ b < q ∧ w.heap.size < q ∧ q < w2.heap.size from ⟨hgq, hbq, HQ.out, hs2.lt⟩)
          clear hs2 hf2 hbn HT1 HZ1 HY1 HB1 HS1 HT2 HZ2 HY2 HB2 hgq hbq hq' HQ
          rw [show iv ii = .agg #[.int .i64 ii.k, .int .i64 ii.f.ch, .int .i64 ii.f.bits, .int .i64 ii.f.rate, .int .i64 ii.bk, .int .i64 ii.sh] from rfl]
          go_wp2_with fail
          refine (tat_any HS3.out).mono ?_
          rintro e w' ⟨rfl, rfl⟩
          go_wp2_with fail
          refine (HU.out _ _ HS3.out).mono ?_
          rintro e w4 ⟨rfl, hs4, hf4⟩
          have HT4 := hid (HT3.out.keep (hf4.block g HT3.out.lt (by have := HN.out.1; omega)))
          have HZ4 := hid (show Bx w4 w.heap.size iz from ⟨(hf4.block _ HZ3.out.lt (by have := HN.out.2.2.1; omega)).trans HZ3.out.row⟩)
          have HX4 := hid (show Bx w4 w2.heap.size ii from ⟨(hf4.block _ HX3.out.lt (by have := HN.out.2.2.2; omega)).trans HX3.out.row⟩)
          have HY4 := hid (HY3.out.stay hf4 (fun b' off' e => by cases e; have := HN.out.2.1; omega))
          have HB4 := hid (show Below w.heap.size w w4 from HB3.out.trans ⟨hf4.os, hf4.tape, hf4.output, hf4.size, fun x hx => hf4.block x (Nat.lt_of_lt_of_le hx HB3.out.size) (by have := HN.out.2.2.1; omega)⟩)
          clear hs4 hf4 HT3 HZ3 HX3 HY3 HB3 HS3
          go_wp2_with fail
          refine (HSU.out _ _ HT4.out HY4.out).mono ?_
          rintro e w' ⟨rfl, rfl⟩
          rw [show iv ii = .agg #[.int .i64 ii.k, .int .i64 ii.f.ch, .int .i64 ii.f.bits, .int .i64 ii.f.rate, .int .i64 ii.bk, .int .i64 ii.sh] from rfl] at HR
          have c := HX4.out
          have d0 := c.c0; have d1 := c.c1; have d2 := c.c2; have d3 := c.c3; have d4 := c.c4; have d5 := c.c5
          clear c
          go_wp2_with fail
          refine (HR.out _).mono ?_
          rintro e w5 ⟨rfl, hb5⟩
          have HZ5 := hid (HZ4.out.below hb5 HZ4.out.lt)
          have HB5 := hid (HB4.out.trans (hb5.mono HB4.out.size))
          clear hb5 HZ4 HX4 HB4 d0 d1 d2 d3 d4 d5
          go_wp2_with (refine wpList_store_row rfl 25 _ _ rfl w.heap.size (ivl iz) rfl rfl 25 (ivl iz) HZ5.out.row (ivl_size _) rfl (ivl_one _) ?_)
          refine bodyPost_ret (res_ct (p := 4) (u := 5) (ty := 25) (by kernel_rfl) _ _ w.heap.size 25 (ivl iz) (0, 0) _ rfl (setRow_heap _ _ _ _ _ _ HZ5.out.row) Tryd.underlying25 rfl (ivl_size _) rfl) rfl ?_
          rw [HPO.out]
          exact ⟨rfl, fr_rowBelow HB5.out (Nat.le_refl _)⟩
      · rw [if_pos h3] at hge
        rw [decide_eq_false h3] at hsm
        rw [hge, if_neg (by decide)]
        clear hge HGE HGI h3
        go_enter Tryd.func21, Tryd.ntmps21
        go_wp2_with fail
        refine (HBG.out _ HBY.out).mono ?_
        rintro e w' ⟨rfl, rfl⟩
        go_wp2_with fail
        refine (HTK.out _ HB19.out).mono ?_
        rintro e w1 ⟨q, rfl, hq, hs1, hb1⟩
        have hw0 : (w.alloc (.cells (ivl iz) 25)).heap.size = w.heap.size + 1 := Deep.nblk_alloc _ _
        have hq' : w.heap.size < q := by omega
        have hgq : g < q := by have := HT.out.lt; omega
        have hbq : b < q := by have := byts_lt HB19.out HL19.out; omega
        clear hw0 hq
        have HQ := hid hq'
        have HT1 := hid (HT.out.keep (hb1.block g HT.out.lt))
        have HZ1 := hid (HZ.out.below hb1 HZ.out.lt)
        have HY1 := hid (HB15.out.keep hb1)
        have HB1 := hid (HB0.out.trans (hb1.mono HB0.out.size))
        have HS1 := hid hs1
        clear hs1 hb1
        go_wp2_with fail
        refine (HTN.out _ _ HS1.out).mono ?_
        rintro e w2 ⟨rfl, hs2, hf2⟩
        have HT2 := hid (HT1.out.keep (hf2.block g HT1.out.lt (by omega)))
        have HZ2 := hid (show Bx w2 w.heap.size iz from ⟨(hf2.block _ HZ1.out.lt (by have := HQ.out; omega)).trans HZ1.out.row⟩)
        have HY2 := hid (HY1.out.stay hf2 (fun b' off' e => by cases e; omega))
        have HB2 := hid (show Below w.heap.size w w2 from HB1.out.trans ⟨hf2.os, hf2.tape, hf2.output, hf2.size, fun x hx => hf2.block x (Nat.lt_of_lt_of_le hx HB1.out.size) (by have := HQ.out; omega)⟩)
        have hbn := below_new w2 (.cells #[.int .i64 ii.k, .int .i64 ii.f.ch, .int .i64 ii.f.bits, .int .i64 ii.f.rate, .int .i64 ii.bk, .int .i64 ii.sh] 25)
        have HX3 := hid (show Bx (w2.alloc (.cells #[.int .i64 ii.k, .int .i64 ii.f.ch, .int .i64 ii.f.bits, .int .i64 ii.f.rate, .int .i64 ii.bk, .int .i64 ii.sh] 25)) w2.heap.size ii from Bx.new w2 ii)
        have HT3 := hid (HT2.out.keep (hbn.block g HT2.out.lt))
        have HZ3 := hid (HZ2.out.below hbn HZ2.out.lt)
        have HY3 := hid (HY2.out.keep hbn)
        have HB3 := hid (HB2.out.trans (hbn.mono HB2.out.size))
        have HS3 := hid (hs2.below hbn)
        have HN := hid (show g < q ∧ b < q ∧ w.heap.size < q ∧ q < w2.heap.size from ⟨hgq, hbq, HQ.out, hs2.lt⟩)
        clear hs2 hf2 hbn HT1 HZ1 HY1 HB1 HS1 HT2 HZ2 HY2 HB2 hgq hbq hq' HQ
        rw [show iv ii = .agg #[.int .i64 ii.k, .int .i64 ii.f.ch, .int .i64 ii.f.bits, .int .i64 ii.f.rate, .int .i64 ii.bk, .int .i64 ii.sh] from rfl]
        go_wp2_with fail
        refine (tat_any HS3.out).mono ?_
        rintro e w' ⟨rfl, rfl⟩
        go_wp2_with fail
        refine (HU.out _ _ HS3.out).mono ?_
        rintro e w4 ⟨rfl, hs4, hf4⟩
        have HT4 := hid (HT3.out.keep (hf4.block g HT3.out.lt (by have := HN.out.1; omega)))
        have HZ4 := hid (show Bx w4 w.heap.size iz from ⟨(hf4.block _ HZ3.out.lt (by have := HN.out.2.2.1; omega)).trans HZ3.out.row⟩)
        have HX4 := hid (show Bx w4 w2.heap.size ii from ⟨(hf4.block _ HX3.out.lt (by have := HN.out.2.2.2; omega)).trans HX3.out.row⟩)
        have HY4 := hid (HY3.out.stay hf4 (fun b' off' e => by cases e; have := HN.out.2.1; omega))
        have HB4 := hid (show Below w.heap.size w w4 from HB3.out.trans ⟨hf4.os, hf4.tape, hf4.output, hf4.size, fun x hx => hf4.block x (Nat.lt_of_lt_of_le hx HB3.out.size) (by have := HN.out.2.2.1; omega)⟩)
        clear hs4 hf4 HT3 HZ3 HX3 HY3 HB3 HS3
        go_wp2_with fail
        refine (HSU.out _ _ HT4.out HY4.out).mono ?_
        rintro e w' ⟨rfl, rfl⟩
        go_wp2_with (refine wpList_store_row rfl 25 _ _ rfl w.heap.size (ivl iz) rfl rfl 25 (ivl iz) HZ4.out.row (ivl_size _) rfl (ivl_one _) ?_)
        refine bodyPost_ret (res_ct (p := 4) (u := 5) (ty := 25) (by kernel_rfl) _ _ w.heap.size 25 (ivl iz) (0, 0) _ rfl (setRow_heap _ _ _ _ _ _ HZ4.out.row) Tryd.underlying25 rfl (ivl_size _) rfl) rfl ?_
        rw [HPO.out]
        exact ⟨rfl, fr_rowBelow HB4.out (Nat.le_refl _)⟩
  · rw [decide_eq_false h1] at HBG
    rw [if_pos h1] at hge
    rw [hge, if_neg (by decide)]
    clear hge HGE HGI h1
    go_enter Tryd.func21, Tryd.ntmps21
    go_wp2_with fail
    refine (HBG.out _ HBY.out).mono ?_
    rintro e w' ⟨rfl, rfl⟩
    go_wp2_with (refine wpList_store_row rfl 25 _ _ rfl w.heap.size (ivl iz) rfl rfl 25 (ivl iz) HZ.out.row (ivl_size _) rfl (ivl_one _) ?_)
    refine bodyPost_ret (res_ct (p := 4) (u := 5) (ty := 25) (by kernel_rfl) _ _ w.heap.size 25 (ivl iz) (0, 0) _ rfl (setRow_heap _ _ _ _ _ _ HZ.out.row) Tryd.underlying25 rfl (ivl_size _) rfl) rfl ?_
    rw [HPO.out]
    exact ⟨rfl, fr_rowBelow HB0.out (Nat.le_refl _)⟩
end Go.Proofs.YthjjonbkfkpkmaaDoor.Inf
namespace Go.Proofs.YthjjonbkfkpkmaaDoor.Inf
open Go.RowKit Gen Fld
open Crc hiding hid

/-- What stands while the document compares the first bytes. -/
structure Lp (w : World) (a : Option Addr) (l : List Nat) (wr : World) : Prop where
  z : Bx wr w.heap.size iz
  m : wr.heap[w.heap.size + 1]? = some (.cells #[.int .u8 68, .int .u8 83, .int .u8 67, .int .u8 49] 5 (0, 0))
  y : Byts wr a l
  b : Below w.heap.size w wr
def Pr (l : List Nat) (j : Nat) : Prop := ∀ i, i < j → l[i]? = mk4[i]?
set_option maxRecDepth 100000 in
theorem pr_bgn {l : List Nat} {j : Nat} (h : Pr l j) (hj : j = 4 ∨ (j ≤ 4 ∧ l.length ≤ j)) : Bgn l := by
  unfold Bgn
  refine List.ext_getElem? fun i => ?_
  rw [List.getElem?_take, List.getElem?_take]
  by_cases h1 : i < 4
  · rw [if_pos h1]
    by_cases h2 : i < l.length
    · rw [if_pos h2]; exact h i (by omega)
    · rw [if_neg h2, List.getElem?_eq_none (by omega)]
  · rw [if_neg h1]
    by_cases h2 : i < l.length
    · rw [if_pos h2, List.getElem?_eq_none (show mk4.length ≤ i from by show 4 ≤ i; omega)]
    · rw [if_neg h2]
set_option maxRecDepth 100000 in
theorem bgn_pr {l : List Nat} (h : Bgn l) (j : Nat) (h4 : j < 4) (hl : j < l.length) : l[j]? = mk4[j]? := by
  unfold Bgn at h
  have := congrArg (fun (m : List Nat) => m[j]?) h
  simp only [List.getElem?_take, if_pos h4, if_pos hl] at this
  exact this
set_option maxRecDepth 100000 in
theorem pr_succ {l : List Nat} {j : Nat} (h : Pr l j) (h2 : l[j]? = mk4[j]?) : Pr l (j + 1) := fun i hi => by
  by_cases e : i = j
  · rw [e]; exact h2
  · exact h i (by omega)
end Go.Proofs.YthjjonbkfkpkmaaDoor.Inf
