/- known of mend's statements. No condition. -/
import Derived.Test.YtgcnbeigchppfaaMh
import Derived.Test.YtgcnbeigchppfaaIx
namespace Go.Proofs.Ytgcnbeigchppfaa.Mnd
open Go.RowKit Gen
attribute [local go_sem] Oper.semAt_some

def h0 : Head.Hh := ⟨3, 0, 1, 1, 0, false, 0, 0⟩
/-- A block, one byte ahead of it and one behind it. -/
def kb : List Nat := [120] ++ (Head.smd (Head.blo h0 [9]) ++ [121])
theorem k_lt : ∀ b ∈ [9], b < 256 := by decide
theorem k_rt : Head.Rt (Head.szd h0 [9].length) := by decide
theorem sm_len : (Head.smd (Head.blo h0 [9])).length = 37 := by rw [Head.smd_len, Head.blo_len]; rfl
theorem sm_lt : ∀ b ∈ Head.smd (Head.blo h0 [9]), b < 256 := Head.smd_lt (Head.blo_lt k_lt)
theorem kb_len : kb.length = 39 := by unfold kb; rw [List.length_append, List.length_append, sm_len]; rfl
theorem miss_of {l : List Nat} {x : Nat} (h : l.getD 0 0 = x) (hx : x ≠ 222) : ¬ Head.opE l = 0 := fun e => hx (h ▸ Head.op_first e)
theorem sc_kb : sc kb 0 = [1] ∧ blen kb [1] = 37 := by
  have hd1 : kb.drop 1 = Head.smd (Head.blo h0 [9]) ++ [121] := rfl
  obtain ⟨o1, o2, _, _⟩ := Head.open_smd h0 [9] k_lt k_rt (by decide) [121]
  rw [← hd1] at o1 o2
  obtain ⟨_, hsz, _, _⟩ := Fil.op_ok o1
  rw [o2] at hsz
  have hz : Head.szn (kb.drop 1) = 1 := by
    have h1 : (Head.szd h0 [9].length).sz = 1 := rfl
    omega
  have hd38 : kb.drop 38 = [121] := by
    have e : kb = ([120] ++ Head.smd (Head.blo h0 [9])) ++ [121] := by unfold kb; rw [List.append_assoc]
    rw [e]
    exact Head.dp (by rw [List.length_append, sm_len]; rfl)
  have m0 : sc kb 0 = sc kb 1 := sc_miss (by rw [kb_len]; decide) (miss_of (x := 120) rfl (by decide))
  have m1 : sc kb 1 = 1 :: sc kb 38 := by
    have h := sc_hit (b := kb) (p := 1) (by rw [kb_len]; decide) o1
    rw [hz] at h
    exact h
  have m2 : sc kb 38 = sc kb 39 := sc_miss (by rw [kb_len]; decide) (by rw [hd38]; exact miss_of (x := 121) rfl (by decide))
  refine ⟨by rw [m0, m1, m2, sc_end (by rw [kb_len]; decide)], ?_⟩
  rw [blen_cons, hz]
  rfl
theorem info5' : (Try.prog.info? 5).map (fun i => (i.zero, i.size, i.bytes)) = some (some (.int .u8 0), 1, 1) := by kernel_rfl
theorem cell_newp {w : World} (u : Value) (t : TypeId) : (w.alloc (.cells #[u] t)).cell? ⟨w.heap.size, 0, none⟩ = some u := by
  have h := heap_alloc_new w (.cells #[u] t)
  unfold World.cell?
  rw [h]
  rfl
set_option maxHeartbeats 4000000 in
set_option maxRecDepth 100000 in
theorem known_true (w : World) : Calls Try.prog 7 #[] w fun e w' => e = .returned (.bool true) ∧ Below w.heap.size w w' := by
  have hb0 := Head.below_new w (.cells #[.int .u8 9] 5)
  have HB0 := hid hb0
  have hy9 : Byts (w.alloc (.cells #[.int .u8 9] 5)) (some ⟨w.heap.size, 0, none⟩) [9] := ⟨k_lt, fun j x hj => by
    match j, hj with
    | 0, hj =>
      obtain rfl : 9 = x := by simpa using hj
      exact ⟨w.heap.size, 0, rfl, cell_newp _ _⟩⟩
  have HSE := hid (Head.rseal_ok (cap := 1) h0 hy9 (fun e => by cases e) (by decide) k_rt (by decide))
  have HM := hid fun w => Crc.make_any w
  have HSL := hid sm_len
  clear hb0 hy9
  go_enter Try.func7, Try.ntmps7
  go_wp2_with fail
  refine HSE.out.mono ?_
  rintro e w1 ⟨ao, ca, rfl, hnl⟩
  have hb1 := hnl.bel
  have HB1 := hid (HB0.out.trans (hb1.mono HB0.out.size))
  have HBY1 := hid (show Byts w1 ao (Head.smd (Head.blo h0 [9])) from hnl.byts)
  have hao : ao = none → (Head.smd (Head.blo h0 [9])).length = 0 ∧ ca = 0 := hnl.nil
  rw [HSL.out] at hao ⊢
  obtain ⟨i5, hi5, hz0, hz1, hz2⟩ := info_parts info5'
  clear hnl hb1 HSE
  go_wp2_with (at_builtin; go_must (refine wpList_append_one rfl (.tmp 14) (.tmp 15) 22 rfl w1.heap.size 5 i5 (.int .u8 0) 1 Try.underlying22 hi5 hz0 hz1 hz2 rfl none 0 0 [] rfl (World.ownsRow_nil _ _ _ _) ⟨w1.heap.size, 0, none⟩ 1 (.int .u8 120) rfl (cell_newp _ _) rfl (by unfold maxLen; omega) (by omega) (by show w1.heap.size ≤ (w1.heap.push _).size; rw [Array.size_push]; omega) ?_))
  intro g2 c2 w2 ho2 hk2
  have hf2 : Fr (fun _ => False) w1 w2 := ((Fr.refl (fun _ => False) w1).alloc _).grown hk2.grown (fun q hq _ => by simp [blk] at hq)
  have hb2 : Below w1.heap.size w1 w2 := ⟨hf2.os, hf2.tape, hf2.output, hf2.size, fun q hq => hf2.block q hq (fun h => h)⟩
  have HB2 := hid (HB1.out.trans (hb2.mono HB1.out.size))
  have HBY2 := hid (HBY1.out.keep hb2)
  have HB12 := hid hb2
  have hs2 := hb2.size
  have HO2 := hid ho2
  clear hk2 hf2 hb2 ho2
  go_wp2_with (at_builtin; go_must (refine wpList_append_list w2 rfl (.tmp 16) (.tmp 17) 22 rfl w1.heap.size 5 i5 (.int .u8 0) 1 Try.underlying22 hi5 hz0 hz1 hz2 rfl (some ⟨g2, 0, none⟩) 1 c2 ([] ++ [.int .u8 120]) rfl HO2.out ao 37 ca (bl (Head.smd (Head.blo h0 [9]))) rfl (by rw [bl_len]; exact HSL.out) hao HBY2.out.cells (bl_one _) (by unfold maxLen; omega) (by omega) hs2 ?_))
  intro a3 c3 w3 ho3 hg3 hat3
  have hb3 : Below w1.heap.size w1 w3 := by
    exact HB12.out.trans ⟨hg3.os, hg3.tape, hg3.output, hg3.size, fun q hq => hg3.block q (Nat.lt_of_lt_of_le hq hs2) (fun e => by have := (HO2.out.lt q (by rw [ownBlock_slice]; exact e.symm)).1; omega)⟩
  have HB13 := hid hb3
  have hs3 := hb3.size
  have HO3 := hid ho3
  clear hg3 hat3 hb3 ho3
  go_wp2_with (at_builtin; go_must (refine wpList_append_one rfl (.tmp 18) (.tmp 19) 22 rfl w1.heap.size 5 i5 (.int .u8 0) 1 Try.underlying22 hi5 hz0 hz1 hz2 rfl a3 38 c3 ([] ++ [.int .u8 120] ++ bl (Head.smd (Head.blo h0 [9]))) rfl (HO3.out.alloc _) ⟨w3.heap.size, 0, none⟩ 1 (.int .u8 121) rfl (cell_newp _ _) rfl (by unfold maxLen; omega) (by omega) (by show w1.heap.size ≤ (w3.heap.push _).size; rw [Array.size_push]; omega) ?_))
  intro g4 c4 w4 ho4 hk4
  have hf4 : Fr (fun q => blk a3 = some q) w3 w4 := ((Fr.refl _ w3).alloc _).grown hk4.grown (fun q hq _ => hq)
  have hb4 : Below w1.heap.size w1 w4 := HB13.out.trans ⟨hf4.os, hf4.tape, hf4.output, hf4.size, fun q hq => hf4.block q (Nat.lt_of_lt_of_le hq hs3) (fun e => by have := (HO3.out.lt q (by rw [ownBlock_slice]; exact e)).1; omega)⟩
  have hrow4 : w4.ownsRow w1.heap.size 5 1 (.slice (some ⟨g4, 0, none⟩) 39 c4) 39 (bl kb) := by
    have e : bl kb = [] ++ [.int .u8 120] ++ bl (Head.smd (Head.blo h0 [9])) ++ [.int .u8 121] := by
      unfold kb
      rw [bl_app, bl_app, ← List.append_assoc]
      rfl
    rw [e]; exact ho4
  have hkb : ∀ x ∈ kb, x < 256 := fun x hx => by
    unfold kb at hx
    rcases List.mem_append.1 hx with hx | hx
    · simp at hx; omega
    · rcases List.mem_append.1 hx with hx | hx
      · exact sm_lt x hx
      · simp at hx; omega
  have HBY4 := hid (Byts.of_row hkb hrow4)
  have hle4 : 39 ≤ c4 := by
    rcases hrow4.2 with ⟨hv, _⟩ | ⟨q, c, cur, hv, _, _, h3, _⟩
    · cases hv
    · cases hv; exact h3
  have HB4 := hid (HB1.out.trans (hb4.mono HB1.out.size))
  have HLE := hid hle4
  clear hk4 hf4 hb4 hrow4 hkb hle4 ho4 hi5 hz0 hz1 hz2 HO3 HO2
  go_wp2_with fail
  refine (HM.out _).mono ?_
  rintro e w5 ⟨rfl, htab, hb5⟩
  have HTA5 := hid htab
  have HBY5 := hid (HBY4.out.keep hb5)
  have HB5 := hid (HB4.out.trans (hb5.mono HB4.out.size))
  clear htab hb5 HM
  go_wp2_with fail
  refine (scan_any HTA5.out HBY5.out kb_len HLE.out (by decide)).mono ?_
  rintro e w6 ⟨aa, cb, X, rfl, hrow, hfs, hb6⟩
  rw [sc_kb.1] at hrow hfs ⊢
  have HTA6 := hid (HTA5.out.keep (hb6.block _ HTA5.out.lt))
  have HBY6 := hid (HBY5.out.keep hb6)
  have HB6 := hid (HB5.out.trans (hb6.mono HB5.out.size))
  obtain ⟨x, hx⟩ : ∃ x, X[0]? = some x := ⟨_, List.getElem?_eq_getElem (by rw [hfs.len]; decide)⟩
  obtain ⟨g, rfl, hc⟩ := (FAt.of_row hrow).c 0 x hx
  obtain ⟨p, hp, hok⟩ := hfs.ok 0 x hx
  obtain rfl : 1 = p := by simpa using hp
  have f0 : w6.cell? ⟨g, 0, none⟩ = some (.int .i64 1) := by
    have h1 := hc 0 _ rfl
    rw [hok.e] at h1
    simpa using h1
  have HLO := hid (lost_any HTA6.out HBY6.out kb_len HLE.out (by decide))
  rw [sc_kb.1, sc_kb.2] at HLO
  clear hrow hfs hb6 hx hc hp hok
  go_wp2_with fail
  refine HLO.out.mono ?_
  rintro e w7 ⟨rfl, hb7⟩
  have HB7 := hid (HB6.out.trans (hb7.mono HB6.out.size))
  clear hb7 f0
  go_wp2_with fail
  go_ret
  exact ⟨rfl, HB7.out⟩
end Go.Proofs.Ytgcnbeigchppfaa.Mnd
