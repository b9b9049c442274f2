/- Get of the document, walked. Conditions: bytes in memory. -/
import Derived.Test.YthjjonbkfkpkmaaGreatDoorY13
import Derived.Test.YthjjonbkfkpkmaaGreatDoorY14
import Derived.Deep.DeepCutAuto
import Derived.Deep.RegionWith
namespace Go.Proofs.YthjjonbkfkpkmaaGreatDoor.Tl
open Go.RowKit Gen Fld Inf
open Crc hiding hid

set_option maxHeartbeats 8000000 in
set_option maxRecDepth 100000 in
theorem trget_any {w : World} {a : Option Addr} {l : List Nat} {N cap : Nat} (hN : l.length = N) (hb : Byts w a l) (hc : N ≤ cap) (hm : N ≤ 274877906944) :
    Calls Tryz.prog 40 #[.slice a N cap] w (TGetP w l) := by
  have HZ := hid (show Tx (w.alloc (.cells #[.int .i64 0, .int .u32 0, .slice none 0 0] 43)) w.heap.size 0 0 none 0 0 from Tx.new w 0 0 none 0 0)
  have HB0 := hid (below_new w (.cells #[.int .i64 0, .int .u32 0, .slice none 0 0] 43))
  have HY0 := hid (hb.keep HB0.out)
  have HLN := hid hN
  have HGE := hid (show tgE l = if ¬ tBgn l then 31 else if lgE l ≠ 0 then lgE l else if ¬ tSm l then 33 else if ¬ TRt (at_ l 2 4 : Int) (plc l (np l)) then 60 else 0 from rfl)
  have HLE := hid (show lgE l = if l.length < 14 then 10 else if 16777216 < np l then 60 else if l.length < 18 + 5 * np l then 10 else 0 from rfl)
  have HBAD := hid (show ∀ x w', tgE l = x → x ≠ 0 → Below w.heap.size w w' → TGetP w l (.returned (.tuple #[.agg #[.int .i64 0, .int .u32 0, .slice none 0 0], .int .i64 0, .int .i64 x])) w' from fun x w' h h0 hb => ⟨hb, .inl ⟨by rw [h]; exact h0, by rw [h]⟩⟩)
  rw [hN] at HLE
  have HLB := hid hb.lt
  clear hb hN
  by_cases h0 : N = 0
  · subst h0
    have HE := hid (show tgE l = 10 from by rw [HGE.out, if_neg (fun h => h (tbgn_ok (fun h => by have := HLN.out; omega) (fun h => by have := HLN.out; omega))), show lgE l = 10 from by rw [HLE.out, if_pos (by decide)], if_pos (by decide)])
    clear HGE HLE
    go_enter Tryz.func40, Tryz.ntmps40
    go_wp2_with (refine wpList_store_row rfl 43 _ _ rfl w.heap.size #[.int .i64 0, .int .u32 0, .slice none 0 0] rfl rfl 43 #[.int .i64 0, .int .u32 0, .slice none 0 0] HZ.out.row Tryz.size43 rfl (by simp [Value.oneCell']) ?_)
    refine bodyPost_ret (res_ct3 (p := 2) (u := 3) (v := 4) (ty := 43) (by kernel_rfl) _ _ w.heap.size 43 #[.int .i64 0, .int .u32 0, .slice none 0 0] (0, 0) _ rfl (setRow_heap _ _ _ _ _ _ HZ.out.row) Tryz.underlying43 rfl Tryz.size43 rfl rfl) rfl ?_
    exact HBAD.out _ _ HE.out (by decide) (fr_rowBelow HB0.out (Nat.le_refl _))
  obtain ⟨b, off, rfl⟩ := byts_at HY0.out (by have := HLN.out; omega)
  have hl0 : 0 < l.length := by have := HLN.out; omega
  have cb0 := u8_at HY0.out 0 hl0
  simp only [Nat.add_zero] at cb0
  have hN0 : (0 : Int) < (N : Int) := by omega
  have HX0 := hid (fun e : l[0] ≠ 69 => tbgn0 hl0 e)
  have HX0' := hid (List.getElem?_eq_getElem hl0)
  generalize l[0] = x0 at *
  by_cases hx0 : x0 = 69
  rotate_left 1
  · have hne : ((x0 : Int) != 69) = true := by rw [bne_iff_ne]; omega
    have HE := hid (HGE.out.trans (if_pos (HX0.out hx0)))
    clear HGE HLE hx0
    go_enter Tryz.func40, Tryz.ntmps40
    go_wp2_with (refine wpList_store_row rfl 43 _ _ rfl w.heap.size #[.int .i64 0, .int .u32 0, .slice none 0 0] rfl rfl 43 #[.int .i64 0, .int .u32 0, .slice none 0 0] HZ.out.row Tryz.size43 rfl (by simp [Value.oneCell']) ?_)
    refine bodyPost_ret (res_ct3 (p := 2) (u := 3) (v := 4) (ty := 43) (by kernel_rfl) _ _ w.heap.size 43 #[.int .i64 0, .int .u32 0, .slice none 0 0] (0, 0) _ rfl (setRow_heap _ _ _ _ _ _ HZ.out.row) Tryz.underlying43 rfl Tryz.size43 rfl rfl) rfl ?_
    exact HBAD.out _ _ HE.out (by decide) (fr_rowBelow HB0.out (Nat.le_refl _))
  subst hx0
  have hne0 : (((69 : Nat) : Int) != 69) = false := by decide
  by_cases h1 : N = 1
  · subst h1
    have HE := hid (show tgE l = 10 from by rw [HGE.out, if_neg (fun h => h (tbgn_ok (fun _ => HX0'.out) (fun h => by have := HLN.out; omega))), show lgE l = 10 from by rw [HLE.out, if_pos (by decide)], if_pos (by decide)])
    clear HGE HLE
    go_enter Tryz.func40, Tryz.ntmps40
    go_wp2_with (refine wpList_store_row rfl 43 _ _ rfl w.heap.size #[.int .i64 0, .int .u32 0, .slice none 0 0] rfl rfl 43 #[.int .i64 0, .int .u32 0, .slice none 0 0] HZ.out.row Tryz.size43 rfl (by simp [Value.oneCell']) ?_)
    refine bodyPost_ret (res_ct3 (p := 2) (u := 3) (v := 4) (ty := 43) (by kernel_rfl) _ _ w.heap.size 43 #[.int .i64 0, .int .u32 0, .slice none 0 0] (0, 0) _ rfl (setRow_heap _ _ _ _ _ _ HZ.out.row) Tryz.underlying43 rfl Tryz.size43 rfl rfl) rfl ?_
    exact HBAD.out _ _ HE.out (by decide) (fr_rowBelow HB0.out (Nat.le_refl _))
  have hl1 : 1 < l.length := by have := HLN.out; omega
  have cb1 := u8_at HY0.out 1 hl1
  have hN1 : (1 : Int) < (N : Int) := by omega
  have HX1 := hid (fun e : l[1] ≠ 78 => tbgn1 hl1 e)
  have HX1' := hid (List.getElem?_eq_getElem hl1)
  generalize l[1] = x1 at *
  by_cases hx1 : x1 = 78
  rotate_left 1
  · have hne : ((x1 : Int) != 78) = true := by rw [bne_iff_ne]; omega
    have HE := hid (HGE.out.trans (if_pos (HX1.out hx1)))
    clear HGE HLE hx1
    go_enter Tryz.func40, Tryz.ntmps40
    go_wp2_with (refine wpList_store_row rfl 43 _ _ rfl w.heap.size #[.int .i64 0, .int .u32 0, .slice none 0 0] rfl rfl 43 #[.int .i64 0, .int .u32 0, .slice none 0 0] HZ.out.row Tryz.size43 rfl (by simp [Value.oneCell']) ?_)
    refine bodyPost_ret (res_ct3 (p := 2) (u := 3) (v := 4) (ty := 43) (by kernel_rfl) _ _ w.heap.size 43 #[.int .i64 0, .int .u32 0, .slice none 0 0] (0, 0) _ rfl (setRow_heap _ _ _ _ _ _ HZ.out.row) Tryz.underlying43 rfl Tryz.size43 rfl rfl) rfl ?_
    exact HBAD.out _ _ HE.out (by decide) (fr_rowBelow HB0.out (Nat.le_refl _))
  subst hx1
  have hne1 : (((78 : Nat) : Int) != 78) = false := by decide
  have HG1 := hid (HGE.out.trans (if_neg (fun h => h (tbgn_ok (fun _ => HX0'.out) (fun _ => HX1'.out)))))
  clear HGE HX0 HX0' HX1 HX1' hl0 hl1 h0 h1
  by_cases h14 : N < 14
  · have HE := hid (show tgE l = 10 from by rw [HG1.out, show lgE l = 10 from by rw [HLE.out, if_pos h14], if_pos (by decide)])
    have h14i : (N : Int) < 14 := by omega
    clear HG1 HLE h14
    go_enter Tryz.func40, Tryz.ntmps40
    go_wp2_with (refine wpList_store_row rfl 43 _ _ rfl w.heap.size #[.int .i64 0, .int .u32 0, .slice none 0 0] rfl rfl 43 #[.int .i64 0, .int .u32 0, .slice none 0 0] HZ.out.row Tryz.size43 rfl (by simp [Value.oneCell']) ?_)
    refine bodyPost_ret (res_ct3 (p := 2) (u := 3) (v := 4) (ty := 43) (by kernel_rfl) _ _ w.heap.size 43 #[.int .i64 0, .int .u32 0, .slice none 0 0] (0, 0) _ rfl (setRow_heap _ _ _ _ _ _ HZ.out.row) Tryz.underlying43 rfl Tryz.size43 rfl rfl) rfl ?_
    exact HBAD.out _ _ HE.out (by decide) (fr_rowBelow HB0.out (Nat.le_refl _))
  have h14i : ¬ (N : Int) < 14 := by omega
  have h14c : 14 ≤ cap := by omega
  have HLQ := hid (show Lq w (some ⟨b, off, none⟩) l (w.alloc (.cells #[.int .i64 0, .int .u32 0, .slice none 0 0] 43)) from ⟨HZ.out, HY0.out, HB0.out⟩)
  have hl4 : ((l.drop 10).take 4).length = 4 := by rw [List.length_take, List.length_drop]; have := HLN.out; omega
  have HV := hid fun c => (show Calls Tryz.prog 80 #[.slice (some ⟨b, off + 10, none⟩) 4 c] (w.alloc (.cells #[.int .i64 0, .int .u32 0, .slice none 0 0] 43)) fun e w' => e = .returned (.int .u64 (np l : Int)) ∧ w.alloc (.cells #[.int .i64 0, .int .u32 0, .slice none 0 0] 43) = w' from value7_any ((HY0.out.drop 10).take 4) hl4 (by decide))
  have hmlt : np l < 4294967296 := at_lt HLB.out 10 4 (by decide)
  have HLE2 := hid (HLE.out.trans (if_neg h14))
  clear hl4 HLE h14
  generalize hmm : np l = m at *
  have HM := hid hmm
  clear hmm
  have um : IntKind.i64.wrap (m : Int) = m := IntWalk.i64_in _ (by omega)
  have um2 : wrap64 (m : Int) = m := by unfold wrap64; omega
  by_cases h16 : 16777216 < m
  · have h16i : (16777216 : Int) < (m : Int) := by omega
    have HE := hid (show tgE l = 60 from by rw [HG1.out, show lgE l = 60 from by rw [HLE2.out, if_pos h16], if_pos (by decide)])
    clear HG1 HLE2 h16
    go_enter Tryz.func40, Tryz.ntmps40
    go_wp2_with fail
    refine (HV.out _).mono ?_
    rintro e w' ⟨rfl, rfl⟩
    go_wp2_with (refine wpList_store_row rfl 43 _ _ rfl w.heap.size #[.int .i64 0, .int .u32 0, .slice none 0 0] rfl rfl 43 #[.int .i64 0, .int .u32 0, .slice none 0 0] HZ.out.row Tryz.size43 rfl (by simp [Value.oneCell']) ?_)
    refine bodyPost_ret (res_ct3 (p := 2) (u := 3) (v := 4) (ty := 43) (by kernel_rfl) _ _ w.heap.size 43 #[.int .i64 0, .int .u32 0, .slice none 0 0] (0, 0) _ rfl (setRow_heap _ _ _ _ _ _ HZ.out.row) Tryz.underlying43 rfl Tryz.size43 rfl rfl) rfl ?_
    exact HBAD.out _ _ HE.out (by decide) (fr_rowBelow HB0.out (Nat.le_refl _))
  have h16i : ¬ (16777216 : Int) < (m : Int) := by omega
  have um3 : wrap64 (5 * (m : Int)) = 5 * (m : Int) := by unfold wrap64; omega
  have um4 : wrap64 (14 + 5 * (m : Int)) = 14 + 5 * (m : Int) := by unfold wrap64; omega
  have um5 : wrap64 (14 + 5 * (m : Int) + 4) = 14 + 5 * (m : Int) + 4 := by unfold wrap64; omega
  have HSM := hid (show tSm l ↔ at_ l (14 + 5 * m) 4 = cs (l.take (14 + 5 * m)) from by unfold tSm; rw [HM.out])
  by_cases h18 : N < 18 + 5 * m
  · have h18i : (N : Int) < 14 + 5 * (m : Int) + 4 := by omega
    have HE := hid (show tgE l = 10 from by rw [HG1.out, show lgE l = 10 from by rw [HLE2.out, if_neg h16, if_pos h18], if_pos (by decide)])
    clear HG1 HLE2 h16 h18
    go_enter Tryz.func40, Tryz.ntmps40
    go_wp2_with fail
    refine (HV.out _).mono ?_
    rintro e w' ⟨rfl, rfl⟩
    go_wp2_with (refine wpList_store_row rfl 43 _ _ rfl w.heap.size #[.int .i64 0, .int .u32 0, .slice none 0 0] rfl rfl 43 #[.int .i64 0, .int .u32 0, .slice none 0 0] HZ.out.row Tryz.size43 rfl (by simp [Value.oneCell']) ?_)
    refine bodyPost_ret (res_ct3 (p := 2) (u := 3) (v := 4) (ty := 43) (by kernel_rfl) _ _ w.heap.size 43 #[.int .i64 0, .int .u32 0, .slice none 0 0] (0, 0) _ rfl (setRow_heap _ _ _ _ _ _ HZ.out.row) Tryz.underlying43 rfl Tryz.size43 rfl rfl) rfl ?_
    exact HBAD.out _ _ HE.out (by decide) (fr_rowBelow HB0.out (Nat.le_refl _))
  have h18i : ¬ (N : Int) < 14 + 5 * (m : Int) + 4 := by omega
  have HG2 := hid (HG1.out.trans (if_neg (fun h => h (by rw [HLE2.out, if_neg h16, if_neg h18]))))
  have HM16 := hid h16
  have HM18 := hid (show 18 + 5 * m ≤ l.length from by have := HLN.out; omega)
  clear HG1 HLE2 h16
  have HEL := hid (show (14 + 5 * m) + 4 ≤ l.length from by have := HLN.out; omega)
  have HCS := hid fun (n' c' : Nat) => (show Calls Tryz.prog 45 #[.slice (some ⟨b, off, none⟩) (14 + 5 * m) c'] ((w.alloc (.cells #[.int .i64 0, .int .u32 0, .slice none 0 0] 43)).drewN n') fun e w' => e = .returned (.int .u32 (cs (l.take (14 + 5 * m)) : Int)) ∧ (w.alloc (.cells #[.int .i64 0, .int .u32 0, .slice none 0 0] 43)).drewN n' = w' from by
    have hl : (l.take (14 + 5 * m)).length = (14 + 5 * m) := by rw [List.length_take]; have := HEL.out; omega
    have := rcsum_any (cap := c') (l := l.take (14 + 5 * m)) ((HLQ.out.more (drew_below _ n')).y.take (14 + 5 * m)) (by omega)
    rw [hl] at this
    exact this)
  have HVS := hid fun (n' c' : Nat) => (show Calls Tryz.prog 80 #[.slice (some ⟨b, off + (14 + 5 * m), none⟩) 4 c'] ((w.alloc (.cells #[.int .i64 0, .int .u32 0, .slice none 0 0] 43)).drewN n') fun e w' => e = .returned (.int .u64 (at_ l (14 + 5 * m) 4 : Int)) ∧ (w.alloc (.cells #[.int .i64 0, .int .u32 0, .slice none 0 0] 43)).drewN n' = w' from
    value7_any (((HLQ.out.more (drew_below _ n')).y.drop (14 + 5 * m)).take 4) (by rw [List.length_take, List.length_drop]; have := HEL.out; omega) (by decide))
  have hcl := cs_lt (l := l.take (14 + 5 * m)) (fun x hx => HLB.out x (List.mem_of_mem_take hx))
  have uc : IntKind.u64.wrap (cs (l.take (14 + 5 * m)) : Int) = cs (l.take (14 + 5 * m)) := u64_small _ hcl
  have hsm : (((cs (l.take (14 + 5 * m)) : Nat) : Int) != ((at_ l (14 + 5 * m) 4 : Nat) : Int)) = !(decide (tSm l)) := by
    rw [show decide (tSm l) = decide (at_ l (14 + 5 * m) 4 = cs (l.take (14 + 5 * m))) from decide_eq_decide.2 HSM.out, Bool.eq_iff_iff]
    simp only [bne_iff_ne, Bool.not_eq_true', decide_eq_false_iff_not]
    omega
  have c1 : (14 + 5 * m) ≤ cap := by have := HEL.out; have := HLN.out; omega
  have c2 : (14 + 5 * m) + 4 ≤ cap := by have := HEL.out; have := HLN.out; omega
  have c3 : ¬ cap = (14 + 5 * m) := by omega
  have c4 : (14 + 5 * m) + 4 - (14 + 5 * m) = 4 := by omega
  have c5 : ¬ (14 + 5 * (m : Int) + 4 < 14 + 5 * (m : Int)) := by omega
  clear hcl h18 HSM
  generalize cs (l.take (14 + 5 * m)) = sv at *
  generalize at_ l (14 + 5 * m) 4 = n4 at *
  by_cases h3 : tSm l
  rotate_left 1
  · rw [decide_eq_false h3] at hsm
    have HE := hid (HG2.out.trans (if_pos h3))
    clear h3 HG2
    go_enter Tryz.func40, Tryz.ntmps40
    go_wp2_with fail
    refine (HV.out _).mono ?_
    rintro e w' ⟨rfl, rfl⟩
    go_wp2_with fail
    have hws : w.heap.size ≤ (w.alloc (.cells #[.int .i64 0, .int .u32 0, .slice none 0 0] 43)).heap.size := HB0.out.size
    clear um um2 um3 um4 cb0 cb1
    generalize w.alloc (.cells #[.int .i64 0, .int .u32 0, .slice none 0 0] 43) = W at *
    go_quiet (first | (go_at_call 45; exact Calls.quiet_of_same ((HCS.out _ _).mono fun _ _ ⟨a, b⟩ => ⟨a, b.symm⟩)) | (go_at_call 80; exact Calls.quiet_of_same ((HVS.out _ _).mono fun _ _ ⟨a, b⟩ => ⟨a, b.symm⟩)))
    have HLQ := hid (HLQ.out.more (drew_below _ nq))
    clear HCS HVS
    go_wp2_with (refine wpList_store_row rfl 43 _ _ rfl w.heap.size #[.int .i64 0, .int .u32 0, .slice none 0 0] rfl rfl 43 #[.int .i64 0, .int .u32 0, .slice none 0 0] HLQ.out.z.row Tryz.size43 rfl (by simp [Value.oneCell']) ?_)
    refine bodyPost_ret (res_ct3 (p := 2) (u := 3) (v := 4) (ty := 43) (by kernel_rfl) _ _ w.heap.size 43 #[.int .i64 0, .int .u32 0, .slice none 0 0] (0, 0) _ rfl (setRow_heap _ _ _ _ _ _ HLQ.out.z.row) Tryz.underlying43 rfl Tryz.size43 rfl rfl) rfl ?_
    exact HBAD.out _ _ HE.out (by decide) (fr_rowBelow HLQ.out.b (Nat.le_refl _))
  · rw [decide_eq_true h3] at hsm
    simp only [Bool.not_true] at hsm
    have HG3 := hid (HG2.out.trans (if_neg (fun h => h h3)))
    clear h3 HG2
    go_enter Tryz.func40, Tryz.ntmps40
    go_wp2_with fail
    refine (HV.out _).mono ?_
    rintro e w' ⟨rfl, rfl⟩
    go_wp2_with fail
    have hws : w.heap.size + 1 ≤ (w.alloc (.cells #[.int .i64 0, .int .u32 0, .slice none 0 0] 43)).heap.size := Nat.le_of_eq (Deep.nblk_alloc _ _).symm
    have hbs := byts_lt HY0.out (by have := HLN.out; omega)
    clear um um2 um3 um4 cb0 cb1
    generalize w.alloc (.cells #[.int .i64 0, .int .u32 0, .slice none 0 0] 43) = W at *
    go_quiet (first | (go_at_call 45; exact Calls.quiet_of_same ((HCS.out _ _).mono fun _ _ ⟨a, b⟩ => ⟨a, b.symm⟩)) | (go_at_call 80; exact Calls.quiet_of_same ((HVS.out _ _).mono fun _ _ ⟨a, b⟩ => ⟨a, b.symm⟩)))
    have HLQ := hid (HLQ.out.more (drew_below _ nq))
    have hws2 : w.heap.size + 1 ≤ (W.drewN nq).heap.size := hws
    have hbs2 : b < (W.drewN nq).heap.size := hbs
    clear HCS HVS hsm uc hws hbs c1 c2 c3 c4 c5 HZ HY0 HB0 HV
    generalize W.drewN nq = W2 at *
    go_wp2_with fail
    have ha2 : ∀ (w' : World) (c : Nat), Byts w' (some ⟨b, off, none⟩) l → Calls Tryz.prog 80 #[.slice (some ⟨b, off + 2, none⟩) 4 c] w' fun e w'' => e = .returned (.int .u64 (at_ l 2 4 : Int)) ∧ w' = w'' := fun w' c hb' => value7_any ((hb'.drop 2).take 4) (by rw [List.length_take, List.length_drop]; have := HEL.out; omega) (by decide)
    have ha6 : ∀ (w' : World) (c : Nat), Byts w' (some ⟨b, off, none⟩) l → Calls Tryz.prog 80 #[.slice (some ⟨b, off + 6, none⟩) 4 c] w' fun e w'' => e = .returned (.int .u64 (at_ l 6 4 : Int)) ∧ w' = w'' := fun w' c hb' => value7_any ((hb'.drop 6).take 4) (by rw [List.length_take, List.length_drop]; have := HEL.out; omega) (by decide)
    have v2 := i64_small _ (at_lt HLB.out 2 4 (by decide))
    have x2 : IntKind.i64.wrap (at_ l 2 4 : Int) = at_ l 2 4 := IntWalk.i64_in _ (by have := at_lt HLB.out 2 4 (by decide); omega)
    have v6 : IntKind.u32.wrap (at_ l 6 4 : Int) = at_ l 6 4 := by have := at_lt HLB.out 6 4 (by decide); rw [wrap_u32n]; omega
    have HA2 := hid ha2
    have HA6 := hid ha6
    have d1 : 6 ≤ cap := by omega
    have d2 : 10 ≤ cap := by omega
    have d3 : ¬ cap = 2 := by omega
    have d4 : ¬ cap = 6 := by omega
    have d5 : (6 : Int) ≤ (cap : Int) := by omega
    have d6 : (10 : Int) ≤ (cap : Int) := by omega
    have HRS := hid (show TGetP w l = fun e w' => TGetP w l e w' from rfl)
    clear ha2 ha6 HRS
    have HOK := hid (show ∀ ao ca w', tgE l = 0 → Below w.heap.size w w' → Nts w' ao (plc l m) → m ≤ ca → ca ≤ 9223372036854775807 → (ao = none → m = 0 ∧ ca = 0) → (∀ b off, ao = some ⟨b, off, none⟩ → w.heap.size ≤ b) → TGetP w l (.returned (.tuple #[.agg #[.int .i64 (at_ l 2 4 : Int), .int .u32 (at_ l 6 4 : Int), .slice ao m ca], .int .i64 ((18 + 5 * m : Nat) : Int), .int .i64 0])) w' from by
      intro ao ca w' h hb hn h1 h2 h3 h4
      rw [← HM.out] at hn h1 h3 ⊢
      exact ⟨hb, .inr ⟨h, _, _, rfl, hn, h1, h2, h3, h4⟩⟩)
    generalize at_ l 2 4 = n1 at *
    generalize at_ l 6 4 = n2 at *
    go_cut [7] (fun p wx => p = .pointer (some ⟨W2.heap.size, 0, none⟩) ∧ Tx wx W2.heap.size (n1 : Int) n2 none 0 0 ∧ Lq w (some ⟨b, off, none⟩) l wx)
    case first =>
      have hb1 : Byts W2.drew (some ⟨b, off, none⟩) l := HLQ.out.y.keep (drew1 _)
      have hb2 : Byts (W2.alloc (.cells #[.int .i64 0, .int .u32 0, .slice none 0 0] 43)).drew (some ⟨b, off, none⟩) l := HLQ.out.y.keep (below_new _ _).drew
      have HSW := hid fun o => (show (W2.alloc o).drew.cell? ⟨w.heap.size, 0, none⟩ = some (.int .i64 0) from (HLQ.out.z.below (below_new W2 o).drew HLQ.out.z.lt).c0)
      have S1 := (HLQ.out.z.below (drew1 W2) HLQ.out.z.lt).c0
      have S2 := HSW.out (.cells #[.int .i64 0, .int .u32 0, .slice none 0 0] 43)
      go_region_held3 (fun w' => w'.cell? ⟨w.heap.size, 0, none⟩ = some (.int .i64 0))
        (first | with_reducible exact S1 | with_reducible exact S2 | with_reducible exact HSW.out _ | go_keep)
        ((first
          | (go_at_call 80; (with_reducible refine (HA2.out _ _ ‹Byts _ _ _›).mono ?_); rintro e w' ⟨rfl, rfl⟩)
          | (go_at_call 80; (with_reducible refine (HA6.out _ _ ‹Byts _ _ _›).mono ?_); rintro e w' ⟨rfl, rfl⟩)))
      all_goals
        clear hb1 hb2 S1 S2
        go_wp2_with fail
        go_meet
        exact ⟨rfl, ⟨heap_alloc_new _ _⟩, HLQ.out.more (below_new _ _).drew⟩
    case rest =>
      obtain ⟨rfl, htx, hlq⟩ := hcut
      have HTX := hid htx
      have HLQ := hid hlq
      have HGI := hid (show w.heap.size < W2.heap.size ∧ b < W2.heap.size from ⟨by omega, hbs2⟩)
      clear htx hlq HA2 HA6 v2 x2 v6 hws2 hbs2 d1 d2 d3 d4 d5 d6
      generalize W2.heap.size = gi at *
      go_wp2_with fail
      obtain ⟨i3, hi3, hy0, hy1, hy2⟩ := info_parts Tryz.info3
      have HFA := hid (show ∀ (wr w' : World), Lq w (some ⟨b, off, none⟩) l wr → Fr (fun k => gi ≤ k) wr w' → Lq w (some ⟨b, off, none⟩) l w' from fun wr w' h hf =>
        ⟨h.z.set hf (by have := HGI.out; omega), h.y.stay hf (fun b' off' e => by cases e; have := HGI.out; omega), h.b.trans ⟨hf.os, hf.tape, hf.output, hf.size, fun k hk => hf.block k (Nat.lt_of_lt_of_le hk h.b.size) (by have := HGI.out; omega)⟩⟩)
      have HLV := hid fun (k : Nat) (hk : k < m) (w' : World) (c : Nat) (hb' : Byts w' (some ⟨b, off, none⟩) l) => (show Calls Tryz.prog 80 #[.slice (some ⟨b, off + (14 + 5 * k), none⟩) 5 c] w' fun e w'' => e = .returned (.int .u64 (at_ l (14 + 5 * k) 5 : Int)) ∧ w' = w'' from
        value7_any ((hb'.drop (14 + 5 * k)).take 5) (by rw [List.length_take, List.length_drop]; have := HEL.out; omega) (by decide))
      have HA5 := hid fun k => (show wrap64 (at_ l (14 + 5 * k) 5 : Int) = at_ l (14 + 5 * k) 5 ∧ IntKind.i64.wrap (at_ l (14 + 5 * k) 5 : Int) = at_ l (14 + 5 * k) 5 from ⟨by have := at5_lt HLB.out (14 + 5 * k); unfold wrap64; omega, IntWalk.i64_in _ (by have := at5_lt HLB.out (14 + 5 * k); omega)⟩)
      have HCC := hid (show 14 + 5 * m + 4 ≤ cap from by have := HEL.out; have := HLN.out; omega)
      have HUM := hid um5
      clear um5 h14i h16i h18i hne0 hne1 hN0 hN1
      go_loopg [8] m (fun gg i wr => ∃ (k : Nat) (ao : Option Addr) (ca : Nat), k ≤ m ∧ gg = m - k ∧ i = .int .i64 k ∧ Tx wr gi (n1 : Int) n2 ao k ca ∧ wr.ownsRow (gi + 1) 3 1 (.slice ao k ca) k (il (plc l k)) ∧ Lq w (some ⟨b, off, none⟩) l wr)
      case atStart => exact ⟨0, none, 0, Nat.zero_le _, rfl, rfl, HTX.out, World.ownsRow_nil _ _ _ _, HLQ.out⟩
      case round =>
        obtain ⟨k, ao, ca, hk, hgg, rfl, htx, hown, hlq⟩ := hrel
        have HG := hid hgg
        have HTX := hid htx
        have HOW := hid hown
        have HLQ := hid hlq
        clear hgg htx hown hlq
        by_cases hlt : k < m
        · have hlt2 : (k : Int) < (m : Int) := by omega
          have HVK := hid (fun c => HLV.out k hlt wr.drew c (HLQ.out.more (drew1 wr)).y)
          have hu1 := (HA5.out k).1
          have hu2 := (HA5.out k).2
          have HPS := hid (plc_succ l k)
          generalize at_ l (14 + 5 * k) 5 = x at *
          obtain ⟨p1, hp1⟩ : ∃ p1, p1 = 14 + 5 * k := ⟨_, rfl⟩
          obtain ⟨p2, hp2⟩ : ∃ p2, p2 = 19 + 5 * k := ⟨_, rfl⟩
          rw [← hp1] at HVK
          have e1 : wrap64 (5 * (k : Int)) = 5 * (k : Int) := by unfold wrap64; omega
          have e2 : wrap64 (14 + 5 * (k : Int)) = (p1 : Int) := by unfold wrap64; omega
          have e3 : wrap64 (19 + 5 * (k : Int)) = (p2 : Int) := by unfold wrap64; omega
          have g1 : IntKind.i64.wrap (5 * (k : Int)) = 5 * (k : Int) := IntWalk.i64_in _ (by omega)
          have g2 : IntKind.i64.wrap (14 + 5 * (k : Int)) = (p1 : Int) := (IntWalk.i64_in _ (by omega)).trans (by omega)
          have g3 : IntKind.i64.wrap (19 + 5 * (k : Int)) = (p2 : Int) := (IntWalk.i64_in _ (by omega)).trans (by omega)
          have f1 : p1 ≤ p2 := by omega
          have f2 : p2 ≤ cap := by have := HCC.out; omega
          have f3 : p2 - p1 = 5 := by omega
          have f4 : ¬ cap = p1 := by have := HCC.out; omega
          have f5 : ¬ ((p2 : Int) < (p1 : Int)) := by omega
          have f6 : (p1 : Int) ≤ (p2 : Int) := by omega
          have f7 : (p2 : Int) ≤ (cap : Int) := by omega
          clear hp1 hp2
          go_wp2_with fail
          have s0 : wr.cell? ⟨gi, 2, none⟩ = some (.slice ao k ca) := HTX.out.c2
          have bn : Below wr.heap.size wr (wr.alloc (.cells #[.int .i64 (x : Int)] 3)).drew := (below_new wr _).drew
          have s1 : (wr.alloc (.cells #[.int .i64 (x : Int)] 3)).cell? ⟨gi, 2, none⟩ = some (.slice ao k ca) := (HTX.out.below (below_new wr _) HTX.out.lt).c2
          have hownW : (wr.alloc (.cells #[.int .i64 (x : Int)] 3)).drew.ownsRow (gi + 1) 3 1 (.slice ao k ca) k (il (plc l k)) := ownsRow_block HOW.out fun g hg => bn.block g ((HOW.out.lt g (by rw [ownBlock_slice]; exact hg)).2)
          have hcW : (wr.alloc (.cells #[.int .i64 (x : Int)] 3)).drew.cell? ⟨wr.heap.size, 0, none⟩ = some (.int .i64 (x : Int)) := (World.cell?_alloc_at _ _ _ _ (by simp)).trans rfl
          have hgs : gi + 1 ≤ (wr.alloc (.cells #[.int .i64 (x : Int)] 3)).drew.heap.size := by have h1 := HTX.out.lt; have h2 := bn.size; omega
          have HTT : Hid (∀ l, Pcm.Till (fun _ => True) (fun w' => w'.cell? ⟨gi, 2, none⟩ = some (.slice ao k ca)) 15 l wr.drew) := hid fun l => ⟨trivial, fun _ => s0⟩
          refine Pcm.region_T (T := Pcm.Till (fun _ => True) (fun w' => w'.cell? ⟨gi, 2, none⟩ = some (.slice ao k ca)) 15) (by kernel_rfl) ?_
          refine Pcm.take_1 (i := 0) (oi := ({ dst := some 77, op := Op.fieldAddr 43 (Operand.tmp 7) 2, type := 0, pos := _, after := #[], guard := none } : Oper)) (v := .pointer (some ⟨gi, 2, none⟩)) rfl (by kernel_rfl) (by kernel_rfl) (by kernel_rfl) (by decide) (fun _ _ _ h => h) (HTT.out _) (.inl ⟨by rfl, fun w' hSw => ?_⟩) ?_
          · (try dsimp only at hSw)
            go_simp
          (try simp only [Act.put, List.setIfInBounds_toArray, List.set_cons_zero, List.set_cons_succ])
          refine Pcm.take_2 (i := 1) (oi := ({ dst := some 78, op := Op.load 41 (Operand.tmp 77), type := 41, pos := _, after := #[{ on := 0, ground := Ground.data }], guard := none } : Oper)) (v := .slice ao k ca) rfl (by kernel_rfl) (by kernel_rfl) (by kernel_rfl) (by decide) (by kernel_rfl) (by kernel_rfl) (fun _ _ _ h => h) (HTT.out _) (.inl ⟨by rfl, fun w' hSw => ?_⟩) ?_
          · (try dsimp only at hSw)
            go_simp
          (try simp only [Act.put, List.setIfInBounds_toArray, List.set_cons_zero, List.set_cons_succ])
          refine Pcm.take_1 (i := 2) (oi := ({ dst := some 79, op := Op.move (Operand.tmp 0), type := 32, pos := _, after := #[], guard := none } : Oper)) (v := .slice (some ⟨b, off, none⟩) N cap) rfl (by kernel_rfl) (by kernel_rfl) (by kernel_rfl) (by decide) (fun _ _ _ h => h) (HTT.out _) (.inl ⟨by rfl, fun w' hSw => ?_⟩) ?_
          · (try dsimp only at hSw)
            go_simp
          (try simp only [Act.put, List.setIfInBounds_toArray, List.set_cons_zero, List.set_cons_succ])
          refine Pcm.take_1 (i := 3) (oi := ({ dst := some 80, op := Op.move (Operand.tmp 8), type := 3, pos := _, after := #[], guard := none } : Oper)) (v := .int .i64 (k : Int)) rfl (by kernel_rfl) (by kernel_rfl) (by kernel_rfl) (by decide) (fun _ _ _ h => h) (HTT.out _) (.inl ⟨by rfl, fun w' hSw => ?_⟩) ?_
          · (try dsimp only at hSw)
            go_simp
          (try simp only [Act.put, List.setIfInBounds_toArray, List.set_cons_zero, List.set_cons_succ])
          refine Pcm.take_1 (i := 4) (oi := ({ dst := some 81, op := Op.binOp BinOp.mul 3 (Operand.const (Value.int IntKind.i64 5)) (Operand.tmp 80) 3, type := 3, pos := _, after := #[{ on := 3, ground := Ground.data }], guard := none } : Oper)) (v := .int .i64 (5 * (k : Int))) rfl (by kernel_rfl) (by kernel_rfl) (by kernel_rfl) (by decide) (fun _ _ _ h => h) (HTT.out _) (.inl ⟨by rfl, fun w' hSw => ?_⟩) ?_
          · (try dsimp only at hSw)
            go_simp
          (try simp only [Act.put, List.setIfInBounds_toArray, List.set_cons_zero, List.set_cons_succ])
          refine Pcm.take_1 (i := 5) (oi := ({ dst := some 82, op := Op.binOp BinOp.add 3 (Operand.const (Value.int IntKind.i64 14)) (Operand.tmp 81) 3, type := 3, pos := _, after := #[{ on := 4, ground := Ground.data }], guard := none } : Oper)) (v := .int .i64 (p1 : Int)) rfl (by kernel_rfl) (by kernel_rfl) (by kernel_rfl) (by decide) (fun _ _ _ h => h) (HTT.out _) (.inl ⟨by rfl, fun w' hSw => ?_⟩) ?_
          · (try dsimp only at hSw)
            go_simp
          (try simp only [Act.put, List.setIfInBounds_toArray, List.set_cons_zero, List.set_cons_succ])
          refine Pcm.take_1 (i := 6) (oi := ({ dst := some 83, op := Op.move (Operand.tmp 8), type := 3, pos := _, after := #[], guard := none } : Oper)) (v := .int .i64 (k : Int)) rfl (by kernel_rfl) (by kernel_rfl) (by kernel_rfl) (by decide) (fun _ _ _ h => h) (HTT.out _) (.inl ⟨by rfl, fun w' hSw => ?_⟩) ?_
          · (try dsimp only at hSw)
            go_simp
          (try simp only [Act.put, List.setIfInBounds_toArray, List.set_cons_zero, List.set_cons_succ])
          refine Pcm.take_1 (i := 7) (oi := ({ dst := some 84, op := Op.binOp BinOp.mul 3 (Operand.const (Value.int IntKind.i64 5)) (Operand.tmp 83) 3, type := 3, pos := _, after := #[{ on := 6, ground := Ground.data }], guard := none } : Oper)) (v := .int .i64 (5 * (k : Int))) rfl (by kernel_rfl) (by kernel_rfl) (by kernel_rfl) (by decide) (fun _ _ _ h => h) (HTT.out _) (.inl ⟨by rfl, fun w' hSw => ?_⟩) ?_
          · (try dsimp only at hSw)
            go_simp
          (try simp only [Act.put, List.setIfInBounds_toArray, List.set_cons_zero, List.set_cons_succ])
          refine Pcm.take_1 (i := 8) (oi := ({ dst := some 85, op := Op.binOp BinOp.add 3 (Operand.const (Value.int IntKind.i64 19)) (Operand.tmp 84) 3, type := 3, pos := _, after := #[{ on := 7, ground := Ground.data }], guard := none } : Oper)) (v := .int .i64 (p2 : Int)) rfl (by kernel_rfl) (by kernel_rfl) (by kernel_rfl) (by decide) (fun _ _ _ h => h) (HTT.out _) (.inl ⟨by rfl, fun w' hSw => ?_⟩) ?_
          · (try dsimp only at hSw)
            go_simp
          (try simp only [Act.put, List.setIfInBounds_toArray, List.set_cons_zero, List.set_cons_succ])
          refine Pcm.take_1 (i := 9) (oi := ({ dst := some 86, op := Op.slice 32 (Operand.tmp 79) (some (Operand.tmp 82)) (some (Operand.tmp 85)) none, type := 32, pos := _, after := #[{ on := 2, ground := Ground.data }, { on := 5, ground := Ground.data }, { on := 8, ground := Ground.data }], guard := none } : Oper)) (v := .slice (some ⟨b, off + p1, none⟩) 5 (cap - p1)) rfl (by kernel_rfl) (by kernel_rfl) (by kernel_rfl) (by decide) (fun _ _ _ h => h) (HTT.out _) (.inl ⟨by rfl, fun w' hSw => ?_⟩) ?_
          · (try dsimp only at hSw)
            go_simp
          (try simp only [Act.put, List.setIfInBounds_toArray, List.set_cons_zero, List.set_cons_succ])
          refine Pcm.anyT_one (i := 10) (o := ({ dst := some 87, op := Op.call { callee := Callee.value (Operand.func 80), args := #[Operand.tmp 86], argTypes := #[32] }, type := 111, pos := _, after := #[{ on := 9, ground := Ground.data }], guard := none } : Oper)) (by kernel_rfl) rfl (fun K HK => ?_)
          go_simp
          (with_reducible refine (HVK.out _).mono ?_)
          rintro e w7 ⟨rfl, rfl⟩
          refine HK.out _ _ ⟨trivial, fun _ => s0⟩ ?_
          clear HK K
          (try simp only [Act.put, List.setIfInBounds_toArray, List.set_cons_zero, List.set_cons_succ])
          refine Pcm.take_1 (i := 11) (oi := ({ dst := some 88, op := Op.convert 111 3 (Operand.tmp 87), type := 3, pos := _, after := #[{ on := 10, ground := Ground.data }], guard := none } : Oper)) (v := .int .i64 (x : Int)) rfl (by kernel_rfl) (by kernel_rfl) (by kernel_rfl) (by decide) (fun _ _ _ h => h) (HTT.out _) (.inl ⟨by rfl, fun w' hSw => ?_⟩) ?_
          · (try dsimp only at hSw)
            go_simp
          (try simp only [Act.put, List.setIfInBounds_toArray, List.set_cons_zero, List.set_cons_succ])
          refine Pcm.anyT_one (i := 12) (o := ({ dst := some 89, op := Op.buildSlice 41 1 #[(0, Operand.tmp 88)], type := 41, pos := _, after := #[{ on := 11, ground := Ground.data }], guard := none } : Oper)) (by kernel_rfl) rfl (fun K HK => ?_)
          go_simp
          refine HK.out _ _ ⟨trivial, fun _ => s1⟩ ?_
          clear HK K
          (try simp only [Act.put, List.setIfInBounds_toArray, List.set_cons_zero, List.set_cons_succ])
          refine Pcm.anyT_one (i := 13) (o := ({ dst := some 90, op := Op.call { callee := Callee.builtin Builtin.append, args := #[Operand.tmp 78, Operand.tmp 89], argTypes := #[41, 41] }, type := 41, pos := _, after := #[{ on := 1, ground := Ground.data }, { on := 12, ground := Ground.data }, { on := 10, ground := Ground.chain }], guard := none } : Oper)) (by kernel_rfl) rfl (fun K HK => ?_)
          refine step_append_one (by rfl) (.tmp 78) (.tmp 89) 41 (by rfl) (gi + 1) 3 i3 (.int .i64 0) 8 Tryz.underlying41 hi3 hy0 hy1 hy2 rfl ao k ca (il (plc l k)) (by rfl) hownW ⟨wr.heap.size, 0, none⟩ 1 (.int .i64 (x : Int)) (by rfl) hcW rfl (by unfold maxLen; omega) (by omega) hgs ?_
          intro gg cap4 w4 hown4 hkept
          have x4 : Tx w4 gi (n1 : Int) n2 ao k ca := ⟨(hkept.grown.block gi (by omega) (fun e => by have := (World.ownsRow.lt hownW gi (by rw [ownBlock_slice]; exact e.symm)).1; omega)).trans (HTX.out.below bn HTX.out.lt).row⟩
          have c4 := x4.c2
          have z4 := x4.fz 2
          refine HK.out _ _ ⟨trivial, fun _ => c4⟩ ?_
          have HT4 : Hid (∀ l : Array Bool, Pcm.Till (fun _ => True) (fun w' => w'.cell? ⟨gi, 2, none⟩ = some (.slice ao k ca)) 15 l w4) := hid fun l => ⟨trivial, fun _ => c4⟩
          clear HK K
          (try simp only [Act.put, List.setIfInBounds_toArray, List.set_cons_zero, List.set_cons_succ])
          refine Pcm.take_1 (i := 14) (oi := ({ dst := some 91, op := Op.fieldAddr 43 (Operand.tmp 7) 2, type := 0, pos := _, after := #[{ on := 0, ground := Ground.phase }, { on := 1, ground := Ground.phase }, { on := 2, ground := Ground.phase }, { on := 3, ground := Ground.phase }, { on := 4, ground := Ground.phase }, { on := 5, ground := Ground.phase }, { on := 6, ground := Ground.phase }, { on := 7, ground := Ground.phase }, { on := 8, ground := Ground.phase }, { on := 9, ground := Ground.phase }, { on := 10, ground := Ground.phase }, { on := 11, ground := Ground.phase }, { on := 12, ground := Ground.phase }, { on := 13, ground := Ground.phase }], guard := none } : Oper)) (v := .pointer (some ⟨gi, 2, none⟩)) rfl (by kernel_rfl) (by kernel_rfl) (by kernel_rfl) (by decide) (fun _ _ _ h => h) (HT4.out _) (.inl ⟨by rfl, fun w' hSw => ?_⟩) ?_
          · (try dsimp only at hSw)
            go_simp
          (try simp only [Act.put, List.setIfInBounds_toArray, List.set_cons_zero, List.set_cons_succ])
          refine Pcm.anyT_one (i := 15) (o := ({ dst := none, op := Op.store 41 (Operand.tmp 91) (Operand.tmp 90), type := 0, pos := _, after := #[{ on := 14, ground := Ground.data }, { on := 13, ground := Ground.data }, { on := 13, ground := Ground.chain }, { on := 0, ground := Ground.phase }, { on := 1, ground := Ground.phase }, { on := 2, ground := Ground.phase }, { on := 3, ground := Ground.phase }, { on := 4, ground := Ground.phase }, { on := 5, ground := Ground.phase }, { on := 6, ground := Ground.phase }, { on := 7, ground := Ground.phase }, { on := 8, ground := Ground.phase }, { on := 9, ground := Ground.phase }, { on := 10, ground := Ground.phase }, { on := 11, ground := Ground.phase }, { on := 12, ground := Ground.phase }, { on := 13, ground := Ground.phase }], guard := none } : Oper)) (by kernel_rfl) rfl (fun K HK => ?_)
          go_simp
          refine HK.out _ _ ⟨trivial, fun h => absurd (show true = false from h) (by decide)⟩ ?_
          clear HK K
          refine Pcm.anyT_done (by kernel_rfl) ?_ _
          have HF := hid (show Fr (fun k => gi ≤ k) wr (w4.setCell ⟨gi, 2, none⟩ (.slice (some ⟨gg, 0, none⟩) (k + 1) cap4)) from
            (((((Fr.refl _ wr).alloc (.cells #[.int .i64 (x : Int)] 3)).drew).grown hkept.grown (fun j hj _ => by have := (World.ownsRow.lt hownW j (by rw [ownBlock_slice]; exact hj)).1; omega)).setCell (p := ⟨gi, 2, none⟩) (Nat.le_refl gi) _))
          have hown5 : (w4.setCell ⟨gi, 2, none⟩ (.slice (some ⟨gg, 0, none⟩) (k + 1) cap4)).ownsRow (gi + 1) 3 1 (.slice (some ⟨gg, 0, none⟩) (k + 1) cap4) (k + 1) (il (plc l (k + 1))) := by
            rw [HPS.out, il_app]
            refine ownsRow_block hown4 fun g hg => heap_setCell_other _ _ _ _ ?_
            have := (World.ownsRow.lt hown4 g (by rw [ownBlock_slice]; exact hg)).1
            show g ≠ gi
            omega
          have HX5 := hid (x4.set2 (some ⟨gg, 0, none⟩) (k + 1) cap4)
          have HO5 := hid hown5
          have HL5 := hid (HFA.out _ _ HLQ.out HF.out)
          clear hown5 hown4 hkept x4 c4 z4 s0 s1 bn hownW hcW hgs HTT HT4
          go_wp2_with fail
          go_roundg (m - (k + 1))
          case measure => rw [HG.out]; omega
          case rel => exact ⟨k + 1, some ⟨gg, 0, none⟩, cap4, by omega, rfl, by go_num, HX5.out, HO5.out, HL5.out⟩
        · have hge : ¬ (k : Int) < (k : Int) := by omega
          obtain rfl : m = k := by omega
          have hlk : (il (plc l m)).length = m := by unfold il; rw [List.length_map, plc_len]
          have hca : m ≤ ca ∧ ca ≤ 9223372036854775807 ∧ (ao = none → m = 0 ∧ ca = 0) := by
            obtain ⟨_, ho⟩ := HOW.out
            rcases ho with ⟨hv, hz⟩ | ⟨_, _, _, hv, _, _, h1, h2, _⟩
            · cases hv; exact ⟨by omega, by decide, fun _ => ⟨rfl, rfl⟩⟩
            · cases hv; exact ⟨h1, h2, fun e => by cases e⟩
          have HCA := hid hca
          have HNT := hid (nts_own HOW.out)
          have HGB := hid (show ∀ b' off', ao = some ⟨b', off', none⟩ → gi < b' from fun b' off' e => by
            have := (World.ownsRow.lt HOW.out b' (by rw [ownBlock_slice, e]; rfl)).1
            omega)
          have HRR := hid (trright_any (s := n2) (cap := ca) (c := (n1 : Int)) (plc_len l m) HNT.out)
          have HE5 := hid (show ((18 + 5 * m : Nat) : Int) = 14 + 5 * (m : Int) + 4 by omega)
          have um6 := HUM.out
          clear hca hlk HOW
          generalize plc l m = PL at *
          by_cases h4 : TRt (n1 : Int) PL
          · have HE := hid (HG3.out.trans (if_neg (fun h => h h4)))
            rw [decide_eq_true h4] at HRR
            clear h4 HG3
            go_wp2_with (refine wpList_load_row rfl 43 _ rfl gi rfl 43 #[.int .i64 (n1 : Int), .int .u32 (n2 : Int), .slice ao m ca] (0, 0) _ HTX.out.row Tryz.underlying43 rfl Tryz.size43 ?_)
            refine HRR.out.mono ?_
            rintro e w6 ⟨rfl, hb6⟩
            have HZ6 := hid (HLQ.out.z.below hb6 HLQ.out.z.lt)
            have HX6 := hid (HTX.out.below hb6 HTX.out.lt)
            have HN6 := hid (HNT.out.keep hb6)
            have HB6 := hid (HLQ.out.b.trans (hb6.mono HLQ.out.b.size))
            clear hb6
            go_wp2_with (first
              | (refine wpList_load_row rfl 43 _ rfl gi rfl 43 #[.int .i64 (n1 : Int), .int .u32 (n2 : Int), .slice ao m ca] (0, 0) _ HX6.out.row Tryz.underlying43 rfl Tryz.size43 ?_)
              | (refine wpList_store_row rfl 43 _ _ rfl w.heap.size #[.int .i64 (n1 : Int), .int .u32 (n2 : Int), .slice ao m ca] rfl rfl 43 #[.int .i64 0, .int .u32 0, .slice none 0 0] HZ6.out.row Tryz.size43 rfl (by simp [Value.oneCell']) ?_))
            refine bodyPost_ret (res_ct3 (p := 2) (u := 3) (v := 4) (ty := 43) (by kernel_rfl) _ _ w.heap.size 43 #[.int .i64 (n1 : Int), .int .u32 (n2 : Int), .slice ao m ca] (0, 0) _ rfl (setRow_heap _ _ _ _ _ _ HZ6.out.row) Tryz.underlying43 rfl Tryz.size43 rfl rfl) rfl ?_
            have hh := HOK.out ao ca _ HE.out (fr_rowBelow (cs := #[.int .i64 (n1 : Int), .int .u32 (n2 : Int), .slice ao m ca]) (g := w.heap.size) HB6.out (Nat.le_refl _)) (HN6.out.stay (fr_setRow _ w.heap.size _) (fun b' off' e => by have := HGB.out b' off' e; have := HGI.out; omega)) HCA.out.1 HCA.out.2.1 HCA.out.2.2 (fun b' off' e => by have := HGB.out b' off' e; have := HGI.out; omega)
            rw [HE5.out] at hh
            exact hh
          · have HE := hid (HG3.out.trans (if_pos h4))
            rw [decide_eq_false h4] at HRR
            clear h4 HG3 HOK
            go_wp2_with (refine wpList_load_row rfl 43 _ rfl gi rfl 43 #[.int .i64 (n1 : Int), .int .u32 (n2 : Int), .slice ao m ca] (0, 0) _ HTX.out.row Tryz.underlying43 rfl Tryz.size43 ?_)
            refine HRR.out.mono ?_
            rintro e w6 ⟨rfl, hb6⟩
            have HZ6 := hid (HLQ.out.z.below hb6 HLQ.out.z.lt)
            have HB6 := hid (HLQ.out.b.trans (hb6.mono HLQ.out.b.size))
            clear hb6
            go_wp2_with (refine wpList_store_row rfl 43 _ _ rfl w.heap.size #[.int .i64 0, .int .u32 0, .slice none 0 0] rfl rfl 43 #[.int .i64 0, .int .u32 0, .slice none 0 0] HZ6.out.row Tryz.size43 rfl (by simp [Value.oneCell']) ?_)
            refine bodyPost_ret (res_ct3 (p := 2) (u := 3) (v := 4) (ty := 43) (by kernel_rfl) _ _ w.heap.size 43 #[.int .i64 0, .int .u32 0, .slice none 0 0] (0, 0) _ rfl (setRow_heap _ _ _ _ _ _ HZ6.out.row) Tryz.underlying43 rfl Tryz.size43 rfl rfl) rfl ?_
            exact HBAD.out _ _ HE.out (by decide) (fr_rowBelow HB6.out (Nat.le_refl _))
end Go.Proofs.YthjjonbkfkpkmaaGreatDoor.Tl
