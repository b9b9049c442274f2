/- Info's bytes, of the document. Conditions: info that is right. -/
import Derived.Test.YthaikhnplbbdlaaNd
namespace Go.Proofs.Ythaikhnplbbdlaa.Inf
open Go.RowKit Gen Fld
open Crc hiding hid

theorem le_one (v : Nat) (h : v < 256) : le v 1 = [v] := by
  show [] ++ [v / 2 ^ (8 * 0) % 256] = [v]
  rw [Nat.mul_zero, Nat.pow_zero, Nat.div_one, Nat.mod_eq_of_lt h]; rfl
def LP (w : World) (l : List Nat) (e : Ending) (w' : World) : Prop := ∃ ao cap, e = .returned (.slice ao l.length cap) ∧ NL w ao cap l w'
theorem u8_small (n : Nat) (h : n < 256) : IntKind.u8.wrap (n : Int) = n := by rw [wrap_u8n]; omega
set_option maxHeartbeats 2000000 in
theorem rput_ok (i : If) (hr : Rt i) (w : World) : Calls Try.prog 14 #[iv i] w (LP w (iby i)) := by
  obtain ⟨k, ch, bits, rate, bk, sh, rfl, lk, lch, lbi, lra, lbk, lsh⟩ := rt_nat i hr
  clear hr
  have HLT := hid (iby_lt ⟨(k : Int), ⟨(ch : Int), (bits : Int), (rate : Int)⟩, (bk : Int), (sh : Int)⟩)
  have HP := hid (show iby ⟨(k : Int), ⟨(ch : Int), (bits : Int), (rate : Int)⟩, (bk : Int), (sh : Int)⟩ = (mk4 ++ le k 1 ++ le ch 1 ++ le bits 1 ++ le sh 1 ++ le rate 3 ++ le bk 4) ++ le (cs (mk4 ++ le k 1 ++ le ch 1 ++ le bits 1 ++ le sh 1 ++ le rate 3 ++ le bk 4)) 4 from rfl)
  have hl8 : bl (mk4 ++ le k 1 ++ le ch 1 ++ le bits 1 ++ le sh 1) = [.int .u8 68, .int .u8 83, .int .u8 67, .int .u8 49, .int .u8 (k : Int), .int .u8 (ch : Int), .int .u8 (bits : Int), .int .u8 (sh : Int)] := by
    rw [le_one _ lk, le_one _ lch, le_one _ lbi, le_one _ lsh]; rfl
  have hn8 : (mk4 ++ le k 1 ++ le ch 1 ++ le bits 1 ++ le sh 1).length = 8 := by simp only [List.length_append, le_len]; rfl
  have ht8 : ∀ b ∈ mk4 ++ le k 1 ++ le ch 1 ++ le bits 1 ++ le sh 1, b < 256 := app_lt (app_lt (app_lt (app_lt (by decide) (le_lt _ _)) (le_lt _ _)) (le_lt _ _)) (le_lt _ _)
  have HL8 := hid hl8; have HN8 := hid hn8; have HT8 := hid ht8
  clear hl8 hn8 ht8
  generalize mk4 ++ le k 1 ++ le ch 1 ++ le bits 1 ++ le sh 1 = l8 at *
  change Calls Try.prog 14 #[.agg #[.int .i64 k, .int .i64 ch, .int .i64 bits, .int .i64 rate, .int .i64 bk, .int .i64 sh]] w _
  have u1 : IntKind.u8.wrap (k : Int) = k := u8_small k lk
  have u2 : IntKind.u8.wrap (ch : Int) = ch := u8_small ch lch
  have u3 : IntKind.u8.wrap (bits : Int) = bits := u8_small bits lbi
  have u4 : IntKind.u8.wrap (sh : Int) = sh := u8_small sh lsh
  have u5 : IntKind.u64.wrap (rate : Int) = rate := u64_small rate (by omega)
  have u6 : IntKind.u64.wrap (bk : Int) = bk := u64_small bk (by omega)
  have LR := hid lra; have LB := hid lbk
  clear lk lch lbi lra lbk lsh
  obtain ⟨i0, hi, hz0, hz1, hz2⟩ := info_parts Try.info5
  have HX0 := hid (Bx.new w ⟨(k : Int), ⟨(ch : Int), (bits : Int), (rate : Int)⟩, (bk : Int), (sh : Int)⟩)
  have hb1 := below_new w (.cells #[.int .i64 k, .int .i64 ch, .int .i64 bits, .int .i64 rate, .int .i64 bk, .int .i64 sh] 25)
  obtain ⟨W1, hW1⟩ : ∃ W, w.alloc (.cells #[.int .i64 k, .int .i64 ch, .int .i64 bits, .int .i64 rate, .int .i64 bk, .int .i64 sh] 25) = W := ⟨_, rfl⟩
  have hb2 : Below w.heap.size w (W1.alloc (.cells #[.int .u8 68, .int .u8 83, .int .u8 67, .int .u8 49, .int .u8 (k : Int), .int .u8 (ch : Int), .int .u8 (bits : Int), .int .u8 (sh : Int)] 5)) := by rw [← hW1]; exact hb1.alloc hb1.size _
  have ho2 : (W1.alloc (.cells #[.int .u8 68, .int .u8 83, .int .u8 67, .int .u8 49, .int .u8 (k : Int), .int .u8 (ch : Int), .int .u8 (bits : Int), .int .u8 (sh : Int)] 5)).ownsRow W1.heap.size 5 1 (.slice (some ⟨W1.heap.size, 0, none⟩) 8 8) 8 (bl l8) := by
    rw [HL8.out]
    exact World.ownsRow_lit W1 _ 8 (Nat.le_refl _) (by unfold maxLen; omega) rfl
  have hs1 : W1.heap.size = w.heap.size + 1 := by rw [← hW1]; exact Deep.nblk_alloc _ _
  have hx2 : Bx (W1.alloc (.cells #[.int .u8 68, .int .u8 83, .int .u8 67, .int .u8 49, .int .u8 (k : Int), .int .u8 (ch : Int), .int .u8 (bits : Int), .int .u8 (sh : Int)] 5)) w.heap.size ⟨(k : Int), ⟨(ch : Int), (bits : Int), (rate : Int)⟩, (bk : Int), (sh : Int)⟩ := by
    have h := HX0.out
    unfold ivl at h
    rw [hW1] at h
    exact h.below (below_new W1 _) h.lt
  have HX2 := hid hx2; have HB2 := hid hb2; have HO2 := hid ho2; have HS1 := hid hs1; have HW1 := hid hW1
  have hx1 : Bx W1 w.heap.size ⟨(k : Int), ⟨(ch : Int), (bits : Int), (rate : Int)⟩, (bk : Int), (sh : Int)⟩ := by
    have h := HX0.out
    unfold ivl at h
    rw [hW1] at h
    exact h
  have c0 := hx1.c0; have c1 := hx1.c1; have c2 := hx1.c2; have c5 := hx1.c5
  simp only [] at c0 c1 c2 c5
  have d3 := HX2.out.c3; have d4 := HX2.out.c4
  simp only [] at d3 d4
  clear hx2 hb2 ho2 hs1 hb1 HX0 hW1 hx1
  have hW1 := HW1.out
  go_enter Try.func14, Try.ntmps14
  go_wp2_with (fail)
  clear hW1 c0 c1 c2 c5 HW1
  generalize W1.alloc (.cells #[.int .u8 68, .int .u8 83, .int .u8 67, .int .u8 49, .int .u8 (k : Int), .int .u8 (ch : Int), .int .u8 (bits : Int), .int .u8 (sh : Int)] 5) = W2 at *
  refine (rbytes_any rate 3 (by have := LR.out; omega) (by decide) _).mono ?_
  rintro e w3 ⟨rfl, ho3, hb3⟩
  have HB3 := hid (HB2.out.trans (hb3.mono HB2.out.size))
  have HX3 := hid (HX2.out.below hb3 HX2.out.lt)
  have HO3 := hid (own_mono (B' := w.heap.size) (ownsRow_block HO2.out fun g hg => hb3.block g ((HO2.out.lt g (by rw [ownBlock_slice]; exact hg)).2)) (by rw [HS1.out]; omega))
  have HBY := hid (own_byts ho3 (le_lt rate 3))
  have hs3 := HB3.out.size
  clear ho3 hb3 d3 d4 HX2 HB2 HO2
  go_wp2_with (at_builtin; (refine (wpList_append_list w3 (by rfl) _ _ _ (by rfl) w.heap.size 5 i0 _ 1 Try.underlying26 hi hz0 hz1 hz2 rfl _ 8 8 (bl l8) (by rfl) HO3.out _ 3 3 (bl (le rate 3)) (by rfl) ((bl_len _).trans (le_len _ _)) (fun e => by cases e) HBY.out.cells (bl_one _) (by unfold maxLen; omega) (by omega) hs3 ?_)))
  intro ao4 cap4 w4 ho4 hg4 hat4
  rw [← bl_app] at ho4
  have hx4 : Bx w4 w.heap.size ⟨(k : Int), ⟨(ch : Int), (bits : Int), (rate : Int)⟩, (bk : Int), (sh : Int)⟩ := ⟨(hg4.block _ HX3.out.lt (fun e => by have := HS1.out; simp [blk] at e; omega)).trans HX3.out.row⟩
  have hb4 : Below w.heap.size w w4 := HB3.out.trans ⟨hg4.os, hg4.tape, hg4.output, hg4.size, fun q hq => hg4.block q (Nat.lt_of_lt_of_le hq hs3) (fun e => by have := HS1.out; simp [blk] at e; omega)⟩
  have hn11 : (l8 ++ le rate 3).length = 11 := by rw [List.length_append, le_len, HN8.out]
  have ht11 : ∀ b ∈ l8 ++ le rate 3, b < 256 := app_lt HT8.out (le_lt _ _)
  have hfar4 : blk ao4 ≠ some w.heap.size := by
    rcases hat4 with e | e
    · rw [e]; intro e2; have := HS1.out; simp [blk] at e2; omega
    · intro e2; have := e _ e2; have := HX3.out.lt; omega
  have HO4 := hid ho4; have HX4 := hid hx4; have HB4 := hid hb4; have HN11 := hid hn11; have HT11 := hid ht11; have HF4 := hid hfar4
  clear ho4 hg4 hat4 hx4 hb4 hn11 ht11 hfar4 HO3 HX3 HB3 HBY hs3
  generalize l8 ++ le rate 3 = l11 at *
  have d4 := HX4.out.c4
  simp only [] at d4
  go_wp2_with (fail)
  refine (rbytes_any bk 4 (by have := LB.out; omega) (by decide) _).mono ?_
  rintro e w5 ⟨rfl, ho5, hb5⟩
  have HB5 := hid (HB4.out.trans (hb5.mono HB4.out.size))
  have HX5 := hid (HX4.out.below hb5 HX4.out.lt)
  have HO5 := hid (ownsRow_block HO4.out fun g hg => hb5.block g ((HO4.out.lt g (by rw [ownBlock_slice]; exact hg)).2))
  have HBY := hid (own_byts ho5 (le_lt bk 4))
  have hs5 := HB5.out.size
  clear ho5 hb5 d4
  go_wp2_with (at_builtin; (refine (wpList_append_list w5 (by rfl) _ _ _ (by rfl) w.heap.size 5 i0 _ 1 Try.underlying26 hi hz0 hz1 hz2 rfl _ 11 cap4 (bl l11) (by rfl) HO5.out _ 4 4 (bl (le bk 4)) (by rfl) ((bl_len _).trans (le_len _ _)) (fun e => by cases e) HBY.out.cells (bl_one _) (by unfold maxLen; omega) (by omega) hs5 ?_)))
  intro ao6 cap6 w6 ho6 hg6 hat6
  rw [← bl_app] at ho6
  have hb6 : Below w.heap.size w w6 := HB5.out.trans ⟨hg6.os, hg6.tape, hg6.output, hg6.size, fun q hq => hg6.block q (Nat.lt_of_lt_of_le hq hs5) (fun e => by have := HO5.out.lt q (by rw [ownBlock_slice]; exact e.symm); omega)⟩
  have hn15 : (l11 ++ le bk 4).length = 15 := by rw [List.length_append, le_len, HN11.out]
  have ht15 : ∀ b ∈ l11 ++ le bk 4, b < 256 := app_lt HT11.out (le_lt _ _)
  have HO6 := hid ho6; have HB6 := hid hb6; have HN15 := hid hn15; have HT15 := hid ht15
  clear ho6 hg6 hat6 hb6 hn15 ht15 HO4 HX4 HB4 HF4 HO5 HX5 HB5 HBY hs5
  generalize l11 ++ le bk 4 = l15 at *
  have HCS := hid (rcsum_any (cap := cap6) (l := l15) (own_byts HO6.out HT15.out) (by have := HN15.out; omega))
  rw [HN15.out] at HCS
  have hlt := cs_lt HT15.out
  have u7 : IntKind.u64.wrap (cs l15 : Int) = cs l15 := u64_small _ hlt
  have HLC := hid hlt
  clear hlt u5 u6
  generalize cs l15 = v at *
  go_wp2_with (fail)
  refine HCS.out.mono ?_
  rintro e w' ⟨rfl, rfl⟩
  go_wp2_with fail
  refine (rbytes_any v 4 (by have := HLC.out; omega) (by decide) _).mono ?_
  rintro e w7 ⟨rfl, ho7, hb7⟩
  have HB7 := hid (HB6.out.trans (hb7.mono HB6.out.size))
  have HO7 := hid (ownsRow_block HO6.out fun g hg => hb7.block g ((HO6.out.lt g (by rw [ownBlock_slice]; exact hg)).2))
  have HBY := hid (own_byts ho7 (le_lt v 4))
  have hs7 := HB7.out.size
  clear ho7 hb7
  go_wp2_with (at_builtin; (refine (wpList_append_list w7 (by rfl) _ _ _ (by rfl) w.heap.size 5 i0 _ 1 Try.underlying26 hi hz0 hz1 hz2 rfl _ 15 cap6 (bl l15) (by rfl) HO7.out _ 4 4 (bl (le v 4)) (by rfl) ((bl_len _).trans (le_len _ _)) (fun e => by cases e) HBY.out.cells (bl_one _) (by unfold maxLen; omega) (by omega) hs7 ?_)))
  intro ao8 cap8 w8 ho8 hg8 hat8
  rw [← bl_app, ← HP.out] at ho8
  have hb8 : Below w.heap.size w w8 := HB7.out.trans ⟨hg8.os, hg8.tape, hg8.output, hg8.size, fun q hq => hg8.block q (Nat.lt_of_lt_of_le hq hs7) (fun e => by have := HO7.out.lt q (by rw [ownBlock_slice]; exact e.symm); omega)⟩
  have H8 := hid (And.intro ho8 hb8)
  clear ho8 hg8 hat8 hb8 HO7 HB7 hs7
  go_wp2_with fail
  go_ret
  exact ⟨ao8, cap8, by rw [iby_len]; rfl, by rw [iby_len]; exact H8.out.1, H8.out.2, HLT.out⟩
end Go.Proofs.Ythaikhnplbbdlaa.Inf
