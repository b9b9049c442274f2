/- Get of the program. Conditions: a table, bytes in memory. -/
import Derived.Test.YthjjonbkfkpkmaaDoorY11
import Derived.Test.YthjjonbkfkpkmaaDoorY06
import Derived.Deep.RegionLaw
import Derived.Deep.RegionWith
import Derived.BigRegion
import Derived.BigQuiet
import Derived.StillTailTactics
namespace Go.Proofs.YthjjonbkfkpkmaaDoor.Tl
open Go.RowKit Gen Fld Inf
open Crc hiding hid

set_option maxRecDepth 100000 in
theorem res_ct3 {P : Program} {fn : Func} {p u v : Tmp} {ty : TypeId} (h : fn.results = #[.cell p ty, .tmp u, .tmp v]) (tmps : Array Value) (w : World) (g : Nat) (t : TypeId) (cs : Array Value) (fr : Nat × Nat) (d : TypeDesc)
    (hp : tmps.getD p undef = .pointer (some ⟨g, 0, none⟩)) (hg : w.heap[g]? = some (.cells cs t fr))
    (hu : P.underlying ty = some d) (hd : (match d with | .struct _ | .array _ _ => true | _ => false) = true) (hi : (P.info? ty).map (·.size) = some cs.size) {x y : Value} (hx : tmps.getD u undef = x) (hy : tmps.getD v undef = y) :
    (results fn tmps).run P w = .ok (.tuple #[.agg cs, x, y]) w := by
  have hp' : tmps[p]?.getD undef = .pointer (some ⟨g, 0, none⟩) := by simpa using hp
  have hx' : tmps[u]?.getD undef = x := by simpa using hx
  have hy' : tmps[v]?.getD undef = y := by simpa using hy
  simp only [results, h]
  simp [Result.andThen, hp', hx', hy', asAddr, run_loadVar_row w g t ty cs fr d hg hu hd hi]
/-- The sum behind the places is the right one. -/
def tSm (l : List Nat) : Prop := at_ l (14 + 5 * np l) 4 = cs (l.take (14 + 5 * np l))
instance (l : List Nat) : Decidable (tSm l) := by unfold tSm; exact inferInstance
def tgE (l : List Nat) : Int := if ¬ tBgn l then 31 else if lgE l ≠ 0 then lgE l else if ¬ tSm l then 33 else if ¬ TRt (at_ l 2 4 : Int) (plc l (np l)) then 60 else 0
/-- What is got: a tail, and how many bytes it has; or an error. -/
def TGetP (w : World) (l : List Nat) (e : Ending) (w' : World) : Prop :=
  Below w.heap.size w w' ∧ ((tgE l ≠ 0 ∧ e = .returned (.tuple #[.agg #[.int .i64 0, .int .u32 0, .slice none 0 0], .int .i64 0, .int .i64 (tgE l)])) ∨
    (tgE l = 0 ∧ ∃ a cap, e = .returned (.tuple #[.agg #[.int .i64 (at_ l 2 4 : Int), .int .u32 (at_ l 6 4 : Int), .slice a (np l) cap], .int .i64 ((18 + 5 * np l : Nat) : Int), .int .i64 0]) ∧
      Nts w' a (plc l (np l)) ∧ np l ≤ cap ∧ cap ≤ 9223372036854775807 ∧ (a = none → np l = 0 ∧ cap = 0) ∧ ∀ b off, a = some ⟨b, off, none⟩ → w.heap.size ≤ b))
set_option maxRecDepth 100000 in
theorem lge_ok {l : List Nat} (h : lgE l = 0) : np l ≤ 16777216 ∧ 18 + 5 * np l ≤ l.length := by
  unfold lgE at h
  by_cases h1 : l.length < 14
  · rw [if_pos h1] at h; cases h
  · rw [if_neg h1] at h
    by_cases h2 : 16777216 < np l
    · rw [if_pos h2] at h; cases h
    · rw [if_neg h2] at h
      by_cases h3 : l.length < 18 + 5 * np l
      · rw [if_pos h3] at h; cases h
      · exact ⟨by omega, by omega⟩
set_option maxRecDepth 100000 in
theorem plc_take (l : List Nat) (m n : Nat) (h : 14 + 5 * n ≤ m) : plc (l.take m) n = plc l n := by
  unfold plc
  refine List.map_congr_left fun i hi => ?_
  have := List.mem_range.1 hi
  rw [at_take _ _ _ _ (by omega)]
set_option maxRecDepth 100000 in
theorem tget_nil (v : Value) (w : World) : Calls Tryd.prog 50 #[.pointer none, v] w fun e w' => e = .returned (.tuple #[.agg #[.int .i64 0, .int .u32 0, .slice none 0 0], .int .i64 0, .int .i64 2]) ∧ Below w.heap.size w w' := by
  have HZ := hid (show Tx (w.alloc (.cells #[.int .i64 0, .int .u32 0, .slice none 0 0] 41)) w.heap.size 0 0 none 0 0 from Tx.new w 0 0 none 0 0)
  have HB0 := hid (below_new w (.cells #[.int .i64 0, .int .u32 0, .slice none 0 0] 41))
  go_enter Tryd.func50, Tryd.ntmps50
  go_wp2_with (refine wpList_store_row rfl 41 _ _ rfl w.heap.size #[.int .i64 0, .int .u32 0, .slice none 0 0] rfl rfl 41 #[.int .i64 0, .int .u32 0, .slice none 0 0] HZ.out.row Tryd.size41 rfl (by simp [Value.oneCell']) ?_)
  refine bodyPost_ret (res_ct3 (p := 4) (u := 5) (v := 6) (ty := 41) (by kernel_rfl) _ _ w.heap.size 41 #[.int .i64 0, .int .u32 0, .slice none 0 0] (0, 0) _ rfl (setRow_heap _ _ _ _ _ _ HZ.out.row) Tryd.underlying41 rfl Tryd.size41 rfl rfl) rfl ?_
  exact ⟨rfl, fr_rowBelow HB0.out (Nat.le_refl _)⟩
set_option maxRecDepth 100000 in
set_option maxHeartbeats 4000000 in
theorem tget_any {w : World} {g : Nat} (ht : Tab w g) {a : Option Addr} {l : List Nat} {N cap : Nat} (hN : l.length = N) (hb : Byts w a l) (hc : N ≤ cap) (hm : N ≤ 274877906944) :
    Calls Tryd.prog 50 #[.pointer (some ⟨g, 0, none⟩), .slice a N cap] w (TGetP w l) := by
  have HBG := hid fun (w' : World) (hb' : Byts w' a l) => tbegins_any hN hb' hc (by omega)
  have HLO := hid fun (w' : World) (hb' : Byts w' a l) => long_any (cap := cap) hN hb' hc (by omega)
  have HZ := hid (show Tx (w.alloc (.cells #[.int .i64 0, .int .u32 0, .slice none 0 0] 41)) w.heap.size 0 0 none 0 0 from Tx.new w 0 0 none 0 0)
  have HB0 := hid (below_new w (.cells #[.int .i64 0, .int .u32 0, .slice none 0 0] 41))
  have HBY := hid (hb.keep HB0.out)
  have HT := hid (ht.keep (HB0.out.block g ht.lt))
  have HGE := hid (show tgE l = if ¬ tBgn l then 31 else if lgE l ≠ 0 then lgE l else if ¬ tSm l then 33 else if ¬ TRt (at_ l 2 4 : Int) (plc l (np l)) then 60 else 0 from rfl)
  have HBAD := hid (show ∀ x w', tgE l = x → x ≠ 0 → Below w.heap.size w w' → TGetP w l (.returned (.tuple #[.agg #[.int .i64 0, .int .u32 0, .slice none 0 0], .int .i64 0, .int .i64 x])) w' from fun x w' h h0 hb => ⟨hb, .inl ⟨by rw [h]; exact h0, by rw [h]⟩⟩)
  have HOK := hid (show ∀ g' w', tgE l = 0 → Below w.heap.size w w' → w.heap.size ≤ g' → Nts w' (some ⟨g', 0, none⟩) (plc l (np l)) → np l ≤ 16777216 → TGetP w l (.returned (.tuple #[.agg #[.int .i64 (at_ l 2 4 : Int), .int .u32 (at_ l 6 4 : Int), .slice (some ⟨g', 0, none⟩) (np l) (np l)], .int .i64 ((18 + 5 * np l : Nat) : Int), .int .i64 0])) w' from
    fun g' w' h hb hg hn h16 => ⟨hb, .inr ⟨h, _, _, rfl, hn, Nat.le_refl _, by omega, fun e => (by cases e), fun b off e => by cases e; exact hg⟩⟩)
  have HLB := hid hb.lt
  clear ht hb
  by_cases h1 : tBgn l
  · rw [decide_eq_true h1] at HBG
    have hge := HGE.out
    rw [if_neg (fun h => h h1)] at hge
    by_cases h2 : lgE l = 0
    · rw [if_neg (fun h => h h2)] at hge
      have HGE2 := hid hge
      obtain ⟨hm16, hlen⟩ := lge_ok h2
      rw [show lgL l = 18 + 5 * np l from if_pos h2, h2] at HLO
      obtain ⟨b, off, rfl⟩ := byts_at HBY.out (by omega)
      have hTl : (l.take (18 + 5 * np l)).length = 18 + 5 * np l := by rw [List.length_take]; omega
      have hSl : (l.take (14 + 5 * np l)).length = 14 + 5 * np l := by rw [List.length_take]; omega
      have hnp : np (l.take (18 + 5 * np l)) = np l := at_take _ _ _ _ (by omega)
      have HTK := hid fun (w' : World) (hb' : Byts w' (some ⟨b, off, none⟩) (l.take (18 + 5 * np l))) => take4_any (c := cap) hTl hb' (fun e => by cases e) (by omega)
      have HTN := hid fun (w' : World) (q : Nat) (h : TkS w' q ⟨0, l.take (18 + 5 * np l), 0⟩) => ttaken_any q (l.take (18 + 5 * np l)) (np l) hnp hm16 w' h (by omega)
      unfold TTakP at HTN
      rw [at_take _ _ _ _ (by omega), at_take _ _ _ _ (by omega), plc_take _ _ _ (by omega)] at HTN
      have HU := hid fun (w' : World) (q : Nat) (h : TkS w' q ⟨0, (l.take (18 + 5 * np l)).drop (14 + 5 * np l), 14 + 5 * np l⟩) => (tku_at (14 + 5 * np l) 4 h (by decide) (by decide) (by omega))
      rw [at_take _ _ _ _ (by omega)] at HU
      have HSU := hid fun (w' : World) (g' : Nat) (ht' : Tab w' g') (hb' : Byts w' (some ⟨b, off, none⟩) (l.take (14 + 5 * np l))) => tsum_any (cap := cap) ht' hb' (by omega)
      rw [hSl] at HSU
      have hcl := cs_lt (l := l.take (14 + 5 * np l)) (fun x hx => HLB.out x (List.mem_of_mem_take hx))
      have uc : IntKind.u64.wrap (cs (l.take (14 + 5 * np l)) : Int) = cs (l.take (14 + 5 * np l)) := u64_small _ hcl
      have HBT := hid (HBY.out.take (18 + 5 * np l))
      have HBS := hid (HBY.out.take (14 + 5 * np l))
      have HRR := hid fun (w' : World) (g' : Nat) (cp : Nat) (hn' : Nts w' (some ⟨g', 0, none⟩) (plc l (np l))) => tright_any (s := at_ l 6 4) (cap := cp) (c := (at_ l 2 4 : Int)) (plc_len l (np l)) hn' (by omega)
      have hsm : (((at_ l (14 + 5 * np l) 4 : Nat) : Int) == ((cs (l.take (14 + 5 * np l)) : Nat) : Int)) = decide (tSm l) := by rw [Bool.eq_iff_iff, beq_iff_eq, decide_eq_true_eq]; exact Int.ofNat_inj
      have HLT0 := hid (byts_lt HBY.out (by omega))
      have h18 : 18 + 5 * np l ≤ cap := by omega
      have h14 : 14 + 5 * np l ≤ cap := by omega
      clear hTl hSl hnp hcl hlen h1 h2 hge
      generalize at_ l (14 + 5 * np l) 4 = n4 at *
      generalize cs (l.take (14 + 5 * np l)) = sv at *
      generalize l.take (18 + 5 * np l) = lT at *
      generalize l.take (14 + 5 * np l) = lS at *
      generalize plc l (np l) = PL at *
      generalize at_ l 2 4 = n1 at *
      generalize at_ l 6 4 = n2 at *
      generalize np l = m at *
      by_cases h3 : tSm l
      · have hge := HGE2.out
        rw [if_neg (fun h => h h3)] at hge
        rw [decide_eq_true h3] at hsm
        by_cases h4 : TRt (n1 : Int) PL
        · have HE := hid (hge.trans (if_neg (fun h => h h4)))
          rw [decide_eq_true h4] at HRR
          clear hge HGE HGE2 h3 h4
          go_enter Tryd.func50, Tryd.ntmps50
          go_wp2_with fail
          refine (HBG.out _ HBY.out).mono ?_
          rintro e w' ⟨rfl, rfl⟩
          go_wp2_with fail
          refine (HLO.out _ HBY.out).mono ?_
          rintro e w1 ⟨rfl, hb1⟩
          have hw0 : (w.alloc (.cells #[.int .i64 0, .int .u32 0, .slice none 0 0] 41)).heap.size = w.heap.size + 1 := Deep.nblk_alloc _ _
          have HS1 := hid (show w.heap.size + 1 ≤ w1.heap.size ∧ g < w1.heap.size ∧ b < w1.heap.size from by
            have h1 := hb1.size; have h2 := HT.out.lt; have h3 := HLT0.out; omega)
          have HT1 := hid (HT.out.keep (hb1.block g HT.out.lt))
          have HZ1 := hid (HZ.out.below hb1 HZ.out.lt)
          have HY1 := hid (HBT.out.keep hb1)
          have HYS1 := hid (HBS.out.keep hb1)
          have HB1 := hid (HB0.out.trans (hb1.mono HB0.out.size))
          clear hb1 hw0
          go_wp2_with fail
          refine (HTK.out _ HY1.out).mono ?_
          rintro e w2 ⟨q, rfl, hq, hs2, hb2⟩
          have HQ := hid (show w.heap.size < q ∧ g < q ∧ b < q from by have := HS1.out; omega)
          have HT2 := hid (HT1.out.keep (hb2.block g HT1.out.lt))
          have HZ2 := hid (HZ1.out.below hb2 HZ1.out.lt)
          have HYS2 := hid (HYS1.out.keep hb2)
          have HB2 := hid (HB1.out.trans (hb2.mono HB1.out.size))
          have HK2 := hid hs2
          clear hq hs2 hb2
          go_wp2_with fail
          refine (HTN.out _ _ HK2.out).mono ?_
          rintro e w3 ⟨gp, rfl, hgp, hnt, hk3, hf3⟩
          have HT3 := hid (HT2.out.keep (hf3.block g HT2.out.lt (by have := HQ.out; omega)))
          have HZ3 := hid (HZ2.out.set hf3 (by have := HQ.out; omega))
          have HYS3 := hid (HYS2.out.stay hf3 (fun b' off' e => by cases e; have := HQ.out; omega))
          have HB3 := hid (below_frq HB2.out hf3 (by have := HQ.out; omega) HB2.out.size)
          have hbn := below_new w3 (.cells #[.int .i64 (n1 : Int), .int .u32 (n2 : Int), .slice (some ⟨gp, 0, none⟩) m m] 41)
          have HX4 := hid (show Tx (w3.alloc (.cells #[.int .i64 (n1 : Int), .int .u32 (n2 : Int), .slice (some ⟨gp, 0, none⟩) m m] 41)) w3.heap.size (n1 : Int) n2 (some ⟨gp, 0, none⟩) m m from Tx.new w3 _ _ _ _ _)
          have HGP := hid (show w.heap.size ≤ gp ∧ q < w3.heap.size from ⟨by have := HB2.out.size; omega, hk3.lt⟩)
          have HT4 := hid (HT3.out.keep (hbn.block g HT3.out.lt))
          have HZ4 := hid (HZ3.out.below hbn HZ3.out.lt)
          have HYS4 := hid (HYS3.out.keep hbn)
          have HN4 := hid (hnt.keep hbn)
          have HK4 := hid (hk3.below hbn)
          have HB4 := hid (HB3.out.trans (hbn.mono HB3.out.size))
          have HKQ := hid (show q < gp from by have := HK2.out.lt; omega)
          clear hgp hnt hk3 hf3 hbn HT2 HZ2 HYS2 HB2 HT3 HZ3 HYS3 HB3 HT1 HZ1 HY1 HYS1 HB1
          go_wp2_with fail
          refine (Inf.tat_any HK4.out).mono ?_
          rintro e w' ⟨rfl, rfl⟩
          go_wp2_with fail
          refine (HU.out _ _ HK4.out).mono ?_
          rintro e w5 ⟨rfl, hk5, hf5⟩
          have HT5 := hid (HT4.out.keep (hf5.block g HT4.out.lt (by have := HQ.out; omega)))
          have HZ5 := hid (HZ4.out.set hf5 (by have := HQ.out; omega))
          have HX5 := hid (HX4.out.set hf5 (by have := HGP.out; omega))
          have HYS5 := hid (HYS4.out.stay hf5 (fun b' off' e => by cases e; have := HQ.out; omega))
          have HN5 := hid (HN4.out.stay hf5 (fun b' off' e => by cases e; have := HKQ.out; omega))
          have HB5 := hid (below_frq HB4.out hf5 (by have := HQ.out; omega) HB4.out.size)
          clear hk5 hf5 HT4 HZ4 HX4 HYS4 HN4 HB4 HK4
          go_wp2_with fail
          refine (HSU.out _ _ HT5.out HYS5.out).mono ?_
          rintro e w' ⟨rfl, rfl⟩
          go_wp2_with (refine wpList_load_row rfl 41 _ rfl w3.heap.size rfl 41 #[.int .i64 (n1 : Int), .int .u32 (n2 : Int), .slice (some ⟨gp, 0, none⟩) m m] (0, 0) _ HX5.out.row Tryd.underlying41 rfl Tryd.size41 ?_)
          refine (HRR.out _ _ _ HN5.out).mono ?_
          rintro e w6 ⟨rfl, hb6⟩
          have HZ6 := hid (HZ5.out.below hb6 HZ5.out.lt)
          have HX6 := hid (HX5.out.below hb6 HX5.out.lt)
          have HN6 := hid (HN5.out.keep hb6)
          have HB6 := hid (HB5.out.trans (hb6.mono HB5.out.size))
          clear hb6
          go_wp2_with (first
            | (refine wpList_load_row rfl 41 _ rfl w3.heap.size rfl 41 #[.int .i64 (n1 : Int), .int .u32 (n2 : Int), .slice (some ⟨gp, 0, none⟩) m m] (0, 0) _ HX6.out.row Tryd.underlying41 rfl Tryd.size41 ?_)
            | (refine wpList_store_row rfl 41 _ _ rfl w.heap.size #[.int .i64 (n1 : Int), .int .u32 (n2 : Int), .slice (some ⟨gp, 0, none⟩) m m] rfl rfl 41 #[.int .i64 0, .int .u32 0, .slice none 0 0] HZ6.out.row Tryd.size41 rfl (by simp [Value.oneCell']) ?_))
          refine bodyPost_ret (res_ct3 (p := 4) (u := 5) (v := 6) (ty := 41) (by kernel_rfl) _ _ w.heap.size 41 #[.int .i64 (n1 : Int), .int .u32 (n2 : Int), .slice (some ⟨gp, 0, none⟩) m m] (0, 0) _ rfl (setRow_heap _ _ _ _ _ _ HZ6.out.row) Tryd.underlying41 rfl Tryd.size41 rfl rfl) rfl ?_
          exact HOK.out gp _ HE.out (fr_rowBelow HB6.out (Nat.le_refl _)) HGP.out.1 (HN6.out.stay (fr_setRow _ w.heap.size _) (fun b' off' e => by cases e; have := HKQ.out; have := HQ.out; omega)) hm16
        · have HE := hid (hge.trans (if_pos h4))
          rw [decide_eq_false h4] at HRR
          clear hge HGE HGE2 h3 h4 HOK
          go_enter Tryd.func50, Tryd.ntmps50
          go_wp2_with fail
          refine (HBG.out _ HBY.out).mono ?_
          rintro e w' ⟨rfl, rfl⟩
          go_wp2_with fail
          refine (HLO.out _ HBY.out).mono ?_
          rintro e w1 ⟨rfl, hb1⟩
          have hw0 : (w.alloc (.cells #[.int .i64 0, .int .u32 0, .slice none 0 0] 41)).heap.size = w.heap.size + 1 := Deep.nblk_alloc _ _
          have HS1 := hid (show w.heap.size + 1 ≤ w1.heap.size ∧ g < w1.heap.size ∧ b < w1.heap.size from by
            have h1 := hb1.size; have h2 := HT.out.lt; have h3 := HLT0.out; omega)
          have HT1 := hid (HT.out.keep (hb1.block g HT.out.lt))
          have HZ1 := hid (HZ.out.below hb1 HZ.out.lt)
          have HY1 := hid (HBT.out.keep hb1)
          have HYS1 := hid (HBS.out.keep hb1)
          have HB1 := hid (HB0.out.trans (hb1.mono HB0.out.size))
          clear hb1 hw0
          go_wp2_with fail
          refine (HTK.out _ HY1.out).mono ?_
          rintro e w2 ⟨q, rfl, hq, hs2, hb2⟩
          have HQ := hid (show w.heap.size < q ∧ g < q ∧ b < q from by have := HS1.out; omega)
          have HT2 := hid (HT1.out.keep (hb2.block g HT1.out.lt))
          have HZ2 := hid (HZ1.out.below hb2 HZ1.out.lt)
          have HYS2 := hid (HYS1.out.keep hb2)
          have HB2 := hid (HB1.out.trans (hb2.mono HB1.out.size))
          have HK2 := hid hs2
          clear hq hs2 hb2
          go_wp2_with fail
          refine (HTN.out _ _ HK2.out).mono ?_
          rintro e w3 ⟨gp, rfl, hgp, hnt, hk3, hf3⟩
          have HT3 := hid (HT2.out.keep (hf3.block g HT2.out.lt (by have := HQ.out; omega)))
          have HZ3 := hid (HZ2.out.set hf3 (by have := HQ.out; omega))
          have HYS3 := hid (HYS2.out.stay hf3 (fun b' off' e => by cases e; have := HQ.out; omega))
          have HB3 := hid (below_frq HB2.out hf3 (by have := HQ.out; omega) HB2.out.size)
          have hbn := below_new w3 (.cells #[.int .i64 (n1 : Int), .int .u32 (n2 : Int), .slice (some ⟨gp, 0, none⟩) m m] 41)
          have HX4 := hid (show Tx (w3.alloc (.cells #[.int .i64 (n1 : Int), .int .u32 (n2 : Int), .slice (some ⟨gp, 0, none⟩) m m] 41)) w3.heap.size (n1 : Int) n2 (some ⟨gp, 0, none⟩) m m from Tx.new w3 _ _ _ _ _)
          have HGP := hid (show w.heap.size ≤ gp ∧ q < w3.heap.size from ⟨by have := HB2.out.size; omega, hk3.lt⟩)
          have HT4 := hid (HT3.out.keep (hbn.block g HT3.out.lt))
          have HZ4 := hid (HZ3.out.below hbn HZ3.out.lt)
          have HYS4 := hid (HYS3.out.keep hbn)
          have HN4 := hid (hnt.keep hbn)
          have HK4 := hid (hk3.below hbn)
          have HB4 := hid (HB3.out.trans (hbn.mono HB3.out.size))
          have HKQ := hid (show q < gp from by have := HK2.out.lt; omega)
          clear hgp hnt hk3 hf3 hbn HT2 HZ2 HYS2 HB2 HT3 HZ3 HYS3 HB3 HT1 HZ1 HY1 HYS1 HB1
          go_wp2_with fail
          refine (Inf.tat_any HK4.out).mono ?_
          rintro e w' ⟨rfl, rfl⟩
          go_wp2_with fail
          refine (HU.out _ _ HK4.out).mono ?_
          rintro e w5 ⟨rfl, hk5, hf5⟩
          have HT5 := hid (HT4.out.keep (hf5.block g HT4.out.lt (by have := HQ.out; omega)))
          have HZ5 := hid (HZ4.out.set hf5 (by have := HQ.out; omega))
          have HX5 := hid (HX4.out.set hf5 (by have := HGP.out; omega))
          have HYS5 := hid (HYS4.out.stay hf5 (fun b' off' e => by cases e; have := HQ.out; omega))
          have HN5 := hid (HN4.out.stay hf5 (fun b' off' e => by cases e; have := HKQ.out; omega))
          have HB5 := hid (below_frq HB4.out hf5 (by have := HQ.out; omega) HB4.out.size)
          clear hk5 hf5 HT4 HZ4 HX4 HYS4 HN4 HB4 HK4
          go_wp2_with fail
          refine (HSU.out _ _ HT5.out HYS5.out).mono ?_
          rintro e w' ⟨rfl, rfl⟩
          go_wp2_with (refine wpList_load_row rfl 41 _ rfl w3.heap.size rfl 41 #[.int .i64 (n1 : Int), .int .u32 (n2 : Int), .slice (some ⟨gp, 0, none⟩) m m] (0, 0) _ HX5.out.row Tryd.underlying41 rfl Tryd.size41 ?_)
          refine (HRR.out _ _ _ HN5.out).mono ?_
          rintro e w6 ⟨rfl, hb6⟩
          have HZ6 := hid (HZ5.out.below hb6 HZ5.out.lt)
          have HB6 := hid (HB5.out.trans (hb6.mono HB5.out.size))
          clear hb6
          go_wp2_with (refine wpList_store_row rfl 41 _ _ rfl w.heap.size #[.int .i64 0, .int .u32 0, .slice none 0 0] rfl rfl 41 #[.int .i64 0, .int .u32 0, .slice none 0 0] HZ6.out.row Tryd.size41 rfl (by simp [Value.oneCell']) ?_)
          refine bodyPost_ret (res_ct3 (p := 4) (u := 5) (v := 6) (ty := 41) (by kernel_rfl) _ _ w.heap.size 41 #[.int .i64 0, .int .u32 0, .slice none 0 0] (0, 0) _ rfl (setRow_heap _ _ _ _ _ _ HZ6.out.row) Tryd.underlying41 rfl Tryd.size41 rfl rfl) rfl ?_
          exact HBAD.out _ _ HE.out (by decide) (fr_rowBelow HB6.out (Nat.le_refl _))
      · have HE := hid (HGE2.out.trans (if_pos h3))
        rw [decide_eq_false h3] at hsm
        clear HGE HGE2 h3 HOK
        go_enter Tryd.func50, Tryd.ntmps50
        go_wp2_with fail
        refine (HBG.out _ HBY.out).mono ?_
        rintro e w' ⟨rfl, rfl⟩
        go_wp2_with fail
        refine (HLO.out _ HBY.out).mono ?_
        rintro e w1 ⟨rfl, hb1⟩
        have hw0 : (w.alloc (.cells #[.int .i64 0, .int .u32 0, .slice none 0 0] 41)).heap.size = w.heap.size + 1 := Deep.nblk_alloc _ _
        have HS1 := hid (show w.heap.size + 1 ≤ w1.heap.size ∧ g < w1.heap.size ∧ b < w1.heap.size from by
          have h1 := hb1.size; have h2 := HT.out.lt; have h3 := HLT0.out; omega)
        have HT1 := hid (HT.out.keep (hb1.block g HT.out.lt))
        have HZ1 := hid (HZ.out.below hb1 HZ.out.lt)
        have HY1 := hid (HBT.out.keep hb1)
        have HYS1 := hid (HBS.out.keep hb1)
        have HB1 := hid (HB0.out.trans (hb1.mono HB0.out.size))
        clear hb1 hw0
        go_wp2_with fail
        refine (HTK.out _ HY1.out).mono ?_
        rintro e w2 ⟨q, rfl, hq, hs2, hb2⟩
        have HQ := hid (show w.heap.size < q ∧ g < q ∧ b < q from by have := HS1.out; omega)
        have HT2 := hid (HT1.out.keep (hb2.block g HT1.out.lt))
        have HZ2 := hid (HZ1.out.below hb2 HZ1.out.lt)
        have HYS2 := hid (HYS1.out.keep hb2)
        have HB2 := hid (HB1.out.trans (hb2.mono HB1.out.size))
        have HK2 := hid hs2
        clear hq hs2 hb2
        go_wp2_with fail
        refine (HTN.out _ _ HK2.out).mono ?_
        rintro e w3 ⟨gp, rfl, hgp, hnt, hk3, hf3⟩
        have HT3 := hid (HT2.out.keep (hf3.block g HT2.out.lt (by have := HQ.out; omega)))
        have HZ3 := hid (HZ2.out.set hf3 (by have := HQ.out; omega))
        have HYS3 := hid (HYS2.out.stay hf3 (fun b' off' e => by cases e; have := HQ.out; omega))
        have HB3 := hid (below_frq HB2.out hf3 (by have := HQ.out; omega) HB2.out.size)
        have hbn := below_new w3 (.cells #[.int .i64 (n1 : Int), .int .u32 (n2 : Int), .slice (some ⟨gp, 0, none⟩) m m] 41)
        have HX4 := hid (show Tx (w3.alloc (.cells #[.int .i64 (n1 : Int), .int .u32 (n2 : Int), .slice (some ⟨gp, 0, none⟩) m m] 41)) w3.heap.size (n1 : Int) n2 (some ⟨gp, 0, none⟩) m m from Tx.new w3 _ _ _ _ _)
        have HGP := hid (show w.heap.size ≤ gp ∧ q < w3.heap.size from ⟨by have := HB2.out.size; omega, hk3.lt⟩)
        have HT4 := hid (HT3.out.keep (hbn.block g HT3.out.lt))
        have HZ4 := hid (HZ3.out.below hbn HZ3.out.lt)
        have HYS4 := hid (HYS3.out.keep hbn)
        have HN4 := hid (hnt.keep hbn)
        have HK4 := hid (hk3.below hbn)
        have HB4 := hid (HB3.out.trans (hbn.mono HB3.out.size))
        have HKQ := hid (show q < gp from by have := HK2.out.lt; omega)
        clear hgp hnt hk3 hf3 hbn HT2 HZ2 HYS2 HB2 HT3 HZ3 HYS3 HB3 HT1 HZ1 HY1 HYS1 HB1
        go_wp2_with fail
        refine (Inf.tat_any HK4.out).mono ?_
        rintro e w' ⟨rfl, rfl⟩
        go_wp2_with fail
        refine (HU.out _ _ HK4.out).mono ?_
        rintro e w5 ⟨rfl, hk5, hf5⟩
        have HT5 := hid (HT4.out.keep (hf5.block g HT4.out.lt (by have := HQ.out; omega)))
        have HZ5 := hid (HZ4.out.set hf5 (by have := HQ.out; omega))
        have HX5 := hid (HX4.out.set hf5 (by have := HGP.out; omega))
        have HYS5 := hid (HYS4.out.stay hf5 (fun b' off' e => by cases e; have := HQ.out; omega))
        have HN5 := hid (HN4.out.stay hf5 (fun b' off' e => by cases e; have := HKQ.out; omega))
        have HB5 := hid (below_frq HB4.out hf5 (by have := HQ.out; omega) HB4.out.size)
        clear hk5 hf5 HT4 HZ4 HX4 HYS4 HN4 HB4 HK4
        go_wp2_with fail
        refine (HSU.out _ _ HT5.out HYS5.out).mono ?_
        rintro e w' ⟨rfl, rfl⟩
        go_wp2_with (refine wpList_store_row rfl 41 _ _ rfl w.heap.size #[.int .i64 0, .int .u32 0, .slice none 0 0] rfl rfl 41 #[.int .i64 0, .int .u32 0, .slice none 0 0] HZ5.out.row Tryd.size41 rfl (by simp [Value.oneCell']) ?_)
        refine bodyPost_ret (res_ct3 (p := 4) (u := 5) (v := 6) (ty := 41) (by kernel_rfl) _ _ w.heap.size 41 #[.int .i64 0, .int .u32 0, .slice none 0 0] (0, 0) _ rfl (setRow_heap _ _ _ _ _ _ HZ5.out.row) Tryd.underlying41 rfl Tryd.size41 rfl rfl) rfl ?_
        exact HBAD.out _ _ HE.out (by decide) (fr_rowBelow HB5.out (Nat.le_refl _))
    · have hge2 : tgE l = lgE l := by rw [hge, if_pos h2]
      have HGE2 := hid hge2
      have hne : (lgE l != 0) = true := by rw [bne_iff_ne]; exact h2
      have H2 := hid h2
      rw [show lgL l = 0 from if_neg h2] at HLO
      clear hge hge2 HGE h1 h2 HOK
      generalize lgE l = x at *
      go_enter Tryd.func50, Tryd.ntmps50
      go_wp2_with fail
      refine (HBG.out _ HBY.out).mono ?_
      rintro e w' ⟨rfl, rfl⟩
      go_wp2_with fail
      refine (HLO.out _ HBY.out).mono ?_
      rintro e w1 ⟨rfl, hb1⟩
      have HZ1 := hid (HZ.out.below hb1 HZ.out.lt)
      have HB1 := hid (HB0.out.trans (hb1.mono HB0.out.size))
      clear hb1
      go_wp2_with (refine wpList_store_row rfl 41 _ _ rfl w.heap.size #[.int .i64 0, .int .u32 0, .slice none 0 0] rfl rfl 41 #[.int .i64 0, .int .u32 0, .slice none 0 0] HZ1.out.row Tryd.size41 rfl (by simp [Value.oneCell']) ?_)
      refine bodyPost_ret (res_ct3 (p := 4) (u := 5) (v := 6) (ty := 41) (by kernel_rfl) _ _ w.heap.size 41 #[.int .i64 0, .int .u32 0, .slice none 0 0] (0, 0) _ rfl (setRow_heap _ _ _ _ _ _ HZ1.out.row) Tryd.underlying41 rfl Tryd.size41 rfl rfl) rfl ?_
      exact HBAD.out _ _ HGE2.out H2.out (fr_rowBelow HB1.out (Nat.le_refl _))
  · rw [decide_eq_false h1] at HBG
    have HE := hid (HGE.out.trans (if_pos h1))
    clear HGE h1 HOK
    go_enter Tryd.func50, Tryd.ntmps50
    go_wp2_with fail
    refine (HBG.out _ HBY.out).mono ?_
    rintro e w' ⟨rfl, rfl⟩
    go_wp2_with (refine wpList_store_row rfl 41 _ _ rfl w.heap.size #[.int .i64 0, .int .u32 0, .slice none 0 0] rfl rfl 41 #[.int .i64 0, .int .u32 0, .slice none 0 0] HZ.out.row Tryd.size41 rfl (by simp [Value.oneCell']) ?_)
    refine bodyPost_ret (res_ct3 (p := 4) (u := 5) (v := 6) (ty := 41) (by kernel_rfl) _ _ w.heap.size 41 #[.int .i64 0, .int .u32 0, .slice none 0 0] (0, 0) _ rfl (setRow_heap _ _ _ _ _ _ HZ.out.row) Tryd.underlying41 rfl Tryd.size41 rfl rfl) rfl ?_
    exact HBAD.out _ _ HE.out (by decide) (fr_rowBelow HB0.out (Nat.le_refl _))
end Go.Proofs.YthjjonbkfkpkmaaDoor.Tl
namespace Go.Proofs.YthjjonbkfkpkmaaDoor.Tl
open Go.RowKit Gen Fld Inf
open Crc hiding hid

set_option maxRecDepth 100000 in
theorem tbgn0 {l : List Nat} (h : 0 < l.length) (hx : l[0] ≠ 69) : ¬ tBgn l := by
  intro hb
  match l, h with
  | x :: t, _ =>
    unfold tBgn at hb
    cases t with
    | nil => simp at hb; exact hx (by simpa using hb)
    | cons y t => simp at hb; exact hx (by simpa using hb.1)
set_option maxRecDepth 100000 in
theorem tbgn1 {l : List Nat} (h : 1 < l.length) (hx : l[1] ≠ 78) : ¬ tBgn l := by
  intro hb
  match l, h with
  | x :: y :: t, _ =>
    unfold tBgn at hb
    simp at hb; exact hx (by simpa using hb.2)
set_option maxRecDepth 100000 in
theorem tbgn_ok {l : List Nat} (h0 : 0 < l.length → l[0]? = some 69) (h1 : 1 < l.length → l[1]? = some 78) : tBgn l := by
  unfold tBgn
  match l with
  | [] => rfl
  | [x] => have := h0 (by simp); simp at this; subst this; rfl
  | x :: y :: t =>
    have e0 := h0 (by simp); have e1 := h1 (by simp)
    simp at e0 e1
    subst e0 e1
    simp
/-- What stands while the document gets a tail. -/
structure Lq (w : World) (a : Option Addr) (l : List Nat) (wr : World) : Prop where
  z : Tx wr w.heap.size 0 0 none 0 0
  y : Byts wr a l
  b : Below w.heap.size w wr
set_option maxRecDepth 100000 in
theorem Lq.more {w wr w' : World} {a : Option Addr} {l : List Nat} (h : Lq w a l wr) (hb : Below wr.heap.size wr w') : Lq w a l w' := ⟨h.z.below hb h.z.lt, h.y.keep hb, h.b.trans (hb.mono h.b.size)⟩
set_option maxRecDepth 100000 in
theorem plc_succ (l : List Nat) (k : Nat) : plc l (k + 1) = plc l k ++ [(at_ l (14 + 5 * k) 5 : Int)] := by
  unfold plc
  rw [List.range_succ, List.map_append]
  rfl
def il (l : List Int) : List Value := l.map fun x => .int .i64 x
set_option maxRecDepth 100000 in
theorem il_app (l m : List Int) : il (l ++ m) = il l ++ il m := List.map_append
set_option maxRecDepth 100000 in
theorem nts_own {w : World} {base n cap : Nat} {a : Option Addr} {P : List Int} (h : w.ownsRow base 3 1 (.slice a n cap) n (il P)) : Nts w a P :=
  ⟨fun j x hj => by
    have hi : (il P)[j]? = some (.int .i64 x) := by unfold il; rw [List.getElem?_map, hj]; rfl
    rcases ownsRow_at h with ⟨_, _, _, h1⟩ | ⟨g, rfl⟩
    · rw [h1] at hi; cases hi
    · exact ⟨g, 0, rfl, by rw [Nat.zero_add]; exact ownsRow_cell h j _ hi⟩⟩
end Go.Proofs.YthjjonbkfkpkmaaDoor.Tl
namespace Go.Proofs.YthjjonbkfkpkmaaDoor.Fil
open Go.RowKit Gen
open Tl (il il_app)

/-- Notes at block g. -/
structure Nx (w : World) (g : Nat) (i : Inf.If) (at_ : Int) (a : Option Addr) (n cap : Nat) (c : Int) (sh : Bool) : Prop where
  c0 : w.cell? ⟨g, 0, none⟩ = some (.int .i64 i.k)
  c1 : w.cell? ⟨g, 1, none⟩ = some (.int .i64 i.f.ch)
  c2 : w.cell? ⟨g, 2, none⟩ = some (.int .i64 i.f.bits)
  c3 : w.cell? ⟨g, 3, none⟩ = some (.int .i64 i.f.rate)
  c4 : w.cell? ⟨g, 4, none⟩ = some (.int .i64 i.bk)
  c5 : w.cell? ⟨g, 5, none⟩ = some (.int .i64 i.sh)
  c6 : w.cell? ⟨g, 6, none⟩ = some (.int .i64 at_)
  c7 : w.cell? ⟨g, 7, none⟩ = some (.slice a n cap)
  c8 : w.cell? ⟨g, 8, none⟩ = some (.int .i64 c)
  c9 : w.cell? ⟨g, 9, none⟩ = some (.bool sh)
  fz : ∀ j, w.frozen? ⟨g, j, none⟩ = false
variable {w w' : World} {g : Nat} {i : Inf.If} {at_ : Int} {a : Option Addr} {n cap : Nat} {c : Int} {sh : Bool}
set_option maxRecDepth 100000 in
theorem Nx.lt (h : Nx w g i at_ a n cap c sh) : g < w.heap.size := World.block_lt_of_cell? w _ h.c0
set_option maxRecDepth 100000 in
theorem Nx.keep (h : Nx w g i at_ a n cap c sh) {X : Nat → Prop} (hf : Fr X w w') (hg : ¬ X g) : Nx w' g i at_ a n cap c sh :=
  ⟨(hf.cell (p := ⟨g, 0, none⟩) h.lt hg).trans h.c0, (hf.cell (p := ⟨g, 1, none⟩) h.lt hg).trans h.c1, (hf.cell (p := ⟨g, 2, none⟩) h.lt hg).trans h.c2, (hf.cell (p := ⟨g, 3, none⟩) h.lt hg).trans h.c3, (hf.cell (p := ⟨g, 4, none⟩) h.lt hg).trans h.c4, (hf.cell (p := ⟨g, 5, none⟩) h.lt hg).trans h.c5, (hf.cell (p := ⟨g, 6, none⟩) h.lt hg).trans h.c6, (hf.cell (p := ⟨g, 7, none⟩) h.lt hg).trans h.c7, (hf.cell (p := ⟨g, 8, none⟩) h.lt hg).trans h.c8, (hf.cell (p := ⟨g, 9, none⟩) h.lt hg).trans h.c9, fun j => (hf.frozen (p := ⟨g, j, none⟩) h.lt hg).trans (h.fz j)⟩
set_option maxRecDepth 100000 in
theorem below_fr {B : Nat} (hb : Below B w w') : Fr (fun k => B ≤ k) w w' := ⟨hb.os, hb.tape, hb.output, hb.size, fun k _ hk => hb.block k (by omega)⟩
set_option maxRecDepth 100000 in
theorem Nx.below (h : Nx w g i at_ a n cap c sh) {B : Nat} (hb : Below B w w') (hg : g < B) : Nx w' g i at_ a n cap c sh := h.keep (below_fr hb) (by omega)
set_option maxRecDepth 100000 in
theorem Nx.drew (h : Nx w g i at_ a n cap c sh) : Nx w.drew g i at_ a n cap c sh := h.keep (X := fun _ => False) (Fr.refl _ _).drew (fun e => e)
set_option maxRecDepth 100000 in
theorem Nx.set6 (h : Nx w g i at_ a n cap c sh) (x : Int) : Nx (w.setCell ⟨g, 6, none⟩ (.int .i64 x)) g i x a n cap c sh := by
  refine ⟨?_, ?_, ?_, ?_, ?_, ?_, ?_, ?_, ?_, ?_, fun j => by rw [World.frozen?_setCell]; exact h.fz j⟩
  · rw [World.cell?_setCell_other _ _ _ _ (by intro e; simp at e)]; exact h.c0
  · rw [World.cell?_setCell_other _ _ _ _ (by intro e; simp at e)]; exact h.c1
  · rw [World.cell?_setCell_other _ _ _ _ (by intro e; simp at e)]; exact h.c2
  · rw [World.cell?_setCell_other _ _ _ _ (by intro e; simp at e)]; exact h.c3
  · rw [World.cell?_setCell_other _ _ _ _ (by intro e; simp at e)]; exact h.c4
  · rw [World.cell?_setCell_other _ _ _ _ (by intro e; simp at e)]; exact h.c5
  · exact World.cell?_setCell_same _ _ _ (by rw [h.c6])
  · rw [World.cell?_setCell_other _ _ _ _ (by intro e; simp at e)]; exact h.c7
  · rw [World.cell?_setCell_other _ _ _ _ (by intro e; simp at e)]; exact h.c8
  · rw [World.cell?_setCell_other _ _ _ _ (by intro e; simp at e)]; exact h.c9
set_option maxRecDepth 100000 in
theorem Nx.set7 (h : Nx w g i at_ a n cap c sh) (a' : Option Addr) (n' cap' : Nat) : Nx (w.setCell ⟨g, 7, none⟩ (.slice a' n' cap')) g i at_ a' n' cap' c sh := by
  refine ⟨?_, ?_, ?_, ?_, ?_, ?_, ?_, ?_, ?_, ?_, fun j => by rw [World.frozen?_setCell]; exact h.fz j⟩
  · rw [World.cell?_setCell_other _ _ _ _ (by intro e; simp at e)]; exact h.c0
  · rw [World.cell?_setCell_other _ _ _ _ (by intro e; simp at e)]; exact h.c1
  · rw [World.cell?_setCell_other _ _ _ _ (by intro e; simp at e)]; exact h.c2
  · rw [World.cell?_setCell_other _ _ _ _ (by intro e; simp at e)]; exact h.c3
  · rw [World.cell?_setCell_other _ _ _ _ (by intro e; simp at e)]; exact h.c4
  · rw [World.cell?_setCell_other _ _ _ _ (by intro e; simp at e)]; exact h.c5
  · rw [World.cell?_setCell_other _ _ _ _ (by intro e; simp at e)]; exact h.c6
  · exact World.cell?_setCell_same _ _ _ (by rw [h.c7])
  · rw [World.cell?_setCell_other _ _ _ _ (by intro e; simp at e)]; exact h.c8
  · rw [World.cell?_setCell_other _ _ _ _ (by intro e; simp at e)]; exact h.c9
set_option maxRecDepth 100000 in
theorem Nx.set8 (h : Nx w g i at_ a n cap c sh) (x : Int) : Nx (w.setCell ⟨g, 8, none⟩ (.int .i64 x)) g i at_ a n cap x sh := by
  refine ⟨?_, ?_, ?_, ?_, ?_, ?_, ?_, ?_, ?_, ?_, fun j => by rw [World.frozen?_setCell]; exact h.fz j⟩
  · rw [World.cell?_setCell_other _ _ _ _ (by intro e; simp at e)]; exact h.c0
  · rw [World.cell?_setCell_other _ _ _ _ (by intro e; simp at e)]; exact h.c1
  · rw [World.cell?_setCell_other _ _ _ _ (by intro e; simp at e)]; exact h.c2
  · rw [World.cell?_setCell_other _ _ _ _ (by intro e; simp at e)]; exact h.c3
  · rw [World.cell?_setCell_other _ _ _ _ (by intro e; simp at e)]; exact h.c4
  · rw [World.cell?_setCell_other _ _ _ _ (by intro e; simp at e)]; exact h.c5
  · rw [World.cell?_setCell_other _ _ _ _ (by intro e; simp at e)]; exact h.c6
  · rw [World.cell?_setCell_other _ _ _ _ (by intro e; simp at e)]; exact h.c7
  · exact World.cell?_setCell_same _ _ _ (by rw [h.c8])
  · rw [World.cell?_setCell_other _ _ _ _ (by intro e; simp at e)]; exact h.c9
set_option maxRecDepth 100000 in
theorem Nx.set9 (h : Nx w g i at_ a n cap c sh) (b : Bool) : Nx (w.setCell ⟨g, 9, none⟩ (.bool b)) g i at_ a n cap c b := by
  refine ⟨?_, ?_, ?_, ?_, ?_, ?_, ?_, ?_, ?_, ?_, fun j => by rw [World.frozen?_setCell]; exact h.fz j⟩
  · rw [World.cell?_setCell_other _ _ _ _ (by intro e; simp at e)]; exact h.c0
  · rw [World.cell?_setCell_other _ _ _ _ (by intro e; simp at e)]; exact h.c1
  · rw [World.cell?_setCell_other _ _ _ _ (by intro e; simp at e)]; exact h.c2
  · rw [World.cell?_setCell_other _ _ _ _ (by intro e; simp at e)]; exact h.c3
  · rw [World.cell?_setCell_other _ _ _ _ (by intro e; simp at e)]; exact h.c4
  · rw [World.cell?_setCell_other _ _ _ _ (by intro e; simp at e)]; exact h.c5
  · rw [World.cell?_setCell_other _ _ _ _ (by intro e; simp at e)]; exact h.c6
  · rw [World.cell?_setCell_other _ _ _ _ (by intro e; simp at e)]; exact h.c7
  · rw [World.cell?_setCell_other _ _ _ _ (by intro e; simp at e)]; exact h.c8
  · exact World.cell?_setCell_same _ _ _ (by rw [h.c9])
end Go.Proofs.YthjjonbkfkpkmaaDoor.Fil
