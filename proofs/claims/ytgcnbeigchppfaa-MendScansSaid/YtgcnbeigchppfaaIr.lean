/- A head's bytes, of the document. Conditions: a head that is right. -/
import Derived.Test.YtgcnbeigchppfaaIc
import Derived.Test.YtgcnbeigchppfaaIq
namespace Go.Proofs.Ytgcnbeigchppfaa.Head
open Go.RowKit Gen Fld
open Crc hiding hid

set_option maxRecDepth 100000 in
theorem le_one (v : Nat) (h : v < 256) : le v 1 = [v] := by
  show [] ++ [v / 2 ^ (8 * 0) % 256] = [v]
  rw [Nat.mul_zero, Nat.pow_zero, Nat.div_one, Nat.mod_eq_of_lt h]; rfl
/-- The document's list of the numbers. -/
structure Six (w : World) (g : Nat) (f : Nat → Nat) : Prop where
  row : w.heap[g]? = some (.cells #[.int .i64 (f 0 : Int), .int .i64 (f 1 : Int), .int .i64 (f 2 : Int), .int .i64 (f 3 : Int), .int .i64 (f 4 : Int), .int .i64 (f 5 : Int)] 3 (0, 0))
set_option maxRecDepth 100000 in
theorem Six.cell {w : World} {g : Nat} {f : Nat → Nat} (h : Six w g f) (j : Nat) (hj : j < 6) : w.cell? ⟨g, j, none⟩ = some (.int .i64 (f j : Int)) := by
  refine row_cell h.row j ?_
  rcases j with _ | _ | _ | _ | _ | _ | j
  all_goals first | rfl | omega
set_option maxRecDepth 100000 in
theorem Six.lt {w : World} {g : Nat} {f : Nat → Nat} (h : Six w g f) : g < w.heap.size := World.block_lt_of_cell? w _ (h.cell 0 (by decide))
def LP (w : World) (l : List Nat) (e : Ending) (w' : World) : Prop := ∃ ao cap, e = .returned (.slice ao l.length cap) ∧ NL w ao cap l w'
set_option maxRecDepth 100000 in
set_option maxHeartbeats 2000000 in
theorem rput_ok (h : Hh) (hr : Rt h) (hk : h.lk < 4294967296) (w : World) : Calls Try.prog 45 #[hv h] w (LP w (hby h)) := by
  have hi := hr.1
  have hs := hr.2
  have HFD := hid fun j => fd_lt h hi hk j
  have HLT := hid fun j => pre_lt h j
  have HLEN := hid fun j => pre_len h j
  have hpre : ∀ j, pre h (j + 1) = pre h j ++ le (fd h j) 4 := fun _ => rfl
  have HPRE := hid hpre
  have hkk : 1 ≤ h.k ∧ h.k ≤ 3 := by unfold Sui at hs; omega
  have hlb : lb h.la < 256 := by unfold lb; split <;> decide
  have hk0 : h.k.toNat < 256 := by omega
  have hp0 : bl (pre h 0) = [.int .u8 222, .int .u8 92, .int .u8 (h.k.toNat : Int), .int .u8 (lb h.la : Int)] := by
    show bl ([222, 92] ++ le h.k.toNat 1 ++ le (lb h.la) 1) = _
    rw [le_one _ hk0, le_one _ hlb]; rfl
  have HP0 := hid hp0
  have hp : ∀ e w', LP w (hby h) e w' = ∃ ao cap, e = .returned (.slice ao (smd (pre h 6)).length cap) ∧ NL w ao cap (smd (pre h 6)) w' := fun _ _ => rfl
  have HP := hid hp
  have hsmd : smd (pre h 6) = pre h 6 ++ le (cs (pre h 6)) 4 := rfl
  have HSMD := hid hsmd
  have HSL := hid (smd_lt (pre_lt h 6))
  have HSN := hid (smd_len (pre h 6))
  have hcs := cs_lt (pre_lt h 6)
  obtain ⟨h0, h1, h2, h3, h4, h5, h6, h7, h8, h9⟩ := hi
  have f0 : (fd h 0 : Int) = h.ix := by show (h.ix.toNat : Int) = _; omega
  have f1 : (fd h 1 : Int) = h.ln := by show (h.ln.toNat : Int) = _; omega
  have f2 : (fd h 2 : Int) = h.st := by show (h.st.toNat : Int) = _; omega
  have f3 : (fd h 3 : Int) = h.bd := by show (h.bd.toNat : Int) = _; omega
  have f4 : fd h 4 = h.lk := rfl
  have f5 : (fd h 5 : Int) = h.sz := by show (h.sz.toNat : Int) = _; omega
  have hlb2 : lb h.la = if h.la then 1 else 0 := rfl
  clear hr hs hpre hp0 hp hsmd h0 h1 h2 h3 h4 h5 h6 h7 h8 h9
  generalize pre h = L at *
  generalize fd h = f at *
  obtain ⟨k, ix, ln, st, bd, la, lk, sz⟩ := h
  simp only [] at HP0 hkk hlb hlb2 hk0 hk f0 f1 f2 f3 f4 f5
  subst f0 f1 f2 f3 f4 f5
  obtain ⟨kn, rfl⟩ := Int.eq_ofNat_of_zero_le (show 0 ≤ k by omega)
  rw [show ((kn : Int)).toNat = kn from rfl] at HP0 hk0
  clear hkk hk
  change Calls Try.prog 45 #[.agg #[.int .i64 kn, .int .i64 (f 0 : Int), .int .i64 (f 1 : Int), .int .i64 (f 2 : Int), .int .i64 (f 3 : Int), .bool la, .int .u32 (f 4 : Int), .int .i64 (f 5 : Int)]] w _
  obtain ⟨i0, hi, hz0, hz1, hz2⟩ := info_parts Try.info5
  have uk : IntKind.u8.wrap (kn : Int) = kn := by rw [wrap_u8n]; omega
  have u4 : wrap64 (f 4 : Int) = f 4 := i64_small _ (HFD.out 4)
  have HUF := hid fun j => u64_small (f j) (HFD.out j)
  have hb1 := below_new w (.cells #[.int .i64 kn, .int .i64 (f 0 : Int), .int .i64 (f 1 : Int), .int .i64 (f 2 : Int), .int .i64 (f 3 : Int), .bool la, .int .u32 (f 4 : Int), .int .i64 (f 5 : Int)] 38)
  obtain ⟨W1, hW1⟩ : ∃ W, w.alloc (.cells #[.int .i64 kn, .int .i64 (f 0 : Int), .int .i64 (f 1 : Int), .int .i64 (f 2 : Int), .int .i64 (f 3 : Int), .bool la, .int .u32 (f 4 : Int), .int .i64 (f 5 : Int)] 38) = W := ⟨_, rfl⟩
  have hb2 : Below w.heap.size w (W1.alloc (.cells #[.int .u8 222, .int .u8 92, .int .u8 (kn : Int), .int .u8 (lb la : Int)] 5)) := by rw [← hW1]; exact hb1.alloc hb1.size _
  have ho2 : (W1.alloc (.cells #[.int .u8 222, .int .u8 92, .int .u8 (kn : Int), .int .u8 (lb la : Int)] 5)).ownsRow w.heap.size 5 1 (.slice (some ⟨W1.heap.size, 0, none⟩) 4 4) 4 (bl (L 0)) := by
    rw [HP0.out]
    exact World.ownsRow_lit W1 _ 4 (by rw [← hW1]; exact hb1.size) (by unfold maxLen; omega) rfl
  have hs1 : W1.heap.size = w.heap.size + 1 := by rw [← hW1]; exact Deep.nblk_alloc _ _
  obtain ⟨W2, hW2⟩ : ∃ W, W1.alloc (.cells #[.int .u8 222, .int .u8 92, .int .u8 (kn : Int), .int .u8 (lb la : Int)] 5) = W := ⟨_, rfl⟩
  rw [hW2] at hb2 ho2
  have hs2 : W2.heap.size = w.heap.size + 1 + 1 := by rw [← hW2, Deep.nblk_alloc, hs1]
  have hx3 : Six (W2.alloc (.cells #[.int .i64 (f 0 : Int), .int .i64 (f 1 : Int), .int .i64 (f 2 : Int), .int .i64 (f 3 : Int), .int .i64 (f 4 : Int), .int .i64 (f 5 : Int)] 3)) W2.heap.size f := ⟨heap_alloc_new _ _⟩
  have hb3 : Below w.heap.size w (W2.alloc (.cells #[.int .i64 (f 0 : Int), .int .i64 (f 1 : Int), .int .i64 (f 2 : Int), .int .i64 (f 3 : Int), .int .i64 (f 4 : Int), .int .i64 (f 5 : Int)] 3)) := hb2.alloc hb2.size _
  have ho3 : (W2.alloc (.cells #[.int .i64 (f 0 : Int), .int .i64 (f 1 : Int), .int .i64 (f 2 : Int), .int .i64 (f 3 : Int), .int .i64 (f 4 : Int), .int .i64 (f 5 : Int)] 3)).ownsRow w.heap.size 5 1 (.slice (some ⟨W1.heap.size, 0, none⟩) 4 4) 4 (bl (L 0)) :=
    ownsRow_block ho2 fun g hg => Deep.blk_alloc_lt _ _ _ (ho2.lt g (by rw [ownBlock_slice]; exact hg)).2
  rw [hs1] at ho3
  rw [hs2] at hx3
  have HX3 := hid hx3
  have HB3 := hid hb3
  have HO3 := hid ho3
  have HE2 := hid hW2
  have HE1 := hid hW1
  clear hb1 hb2 ho2 hs1 hs2 hx3 hb3 ho3
  subst hW2
  subst hW1
  clear hlb2 hlb
  cases la
  all_goals
    go_enter Try.func45, Try.ntmps45
    go_wp2_with fail
    go_loopg [4, 6] 6 (fun gg v i wr => ∃ (j : Nat) (ao : Option Addr) (c : Nat), j ≤ 6 ∧ gg = 6 - j ∧ i = .int .i64 j ∧ v = .slice ao (L j).length c ∧ wr.ownsRow w.heap.size 5 1 (.slice ao (L j).length c) (L j).length (bl (L j)) ∧ Six wr (w.heap.size + 1 + 1) f ∧ blk ao ≠ some (w.heap.size + 1 + 1) ∧ Below w.heap.size w wr)
    case atStart =>
      refine ⟨0, some ⟨w.heap.size + 1, 0, none⟩, 4, by decide, rfl, rfl, ?_, ?_, HX3.out, by simp [blk], HB3.out⟩
      · rw [HLEN.out]
      · rw [HLEN.out]; exact HO3.out
    case round =>
      clear HX3 HB3 HO3 HE1 HE2
      obtain ⟨j, ao, c, hj, hg, rfl, rfl, ho, hx, hfar, hb⟩ := hrel
      have HG := hid hg
      have HO := hid ho
      have HX := hid hx
      have HF := hid hfar
      have HB := hid hb
      clear hg ho hx hfar hb
      have hlen := HLEN.out j
      by_cases hlt : j < 6
      · have hc := HX.out.cell j hlt
        have huf := HUF.out j
        have hfl := HFD.out j
        rw [HLEN.out]
        have hji : (j : Int) < 6 := by omega
        clear hlen
        have HO1 := hid (show wr.ownsRow w.heap.size 5 1 (.slice ao (4 + 4 * j) c) (4 + 4 * j) (bl (L j)) from by have := HO.out; rw [HLEN.out] at this; exact this)
        go_wp2_with fail
        refine (rbytes_any (f j) 4 (by omega) (by decide) _).mono ?_
        rintro e w5 ⟨rfl, ho5, hb5⟩
        have HB5 := hid (HB.out.trans (hb5.mono HB.out.size))
        have HX5 := hid (show Six w5 (w.heap.size + 1 + 1) f from ⟨(hb5.block _ HX.out.lt).trans HX.out.row⟩)
        have ho6 : w5.ownsRow w.heap.size 5 1 (.slice ao (4 + 4 * j) c) (4 + 4 * j) (bl (L j)) := ownsRow_block HO1.out fun g hg => hb5.block g ((HO1.out.lt g (by rw [ownBlock_slice]; exact hg)).2)
        have HO6 := hid ho6
        have HBY := hid (own_byts ho5 (le_lt (f j) 4))
        have hs5 := HB5.out.size
        clear ho5 hb5 ho6 hc huf HO1 HO HX HB
        go_wp2_with (at_builtin; (refine (wpList_append_list w5 (by rfl) _ _ _ (by rfl) w.heap.size 5 i0 _ 1 Try.underlying22 hi hz0 hz1 hz2 rfl ao (4 + 4 * j) c (bl (L j)) (by rfl) HO6.out _ 4 4 (bl (le (f j) 4)) (by rfl) ((bl_len _).trans (le_len _ _)) (fun e => by cases e) HBY.out.cells (bl_one _) (by unfold maxLen; omega) (by omega) hs5 ?_)))
        intro ao7 c7 w7 ho7 hg7 hat7
        rw [← bl_app, ← HPRE.out] at ho7
        have hx7 : Six w7 (w.heap.size + 1 + 1) f := ⟨(hg7.block _ HX5.out.lt (fun e => HF.out e.symm)).trans HX5.out.row⟩
        have hfar7 : blk ao7 ≠ some (w.heap.size + 1 + 1) := by
          rcases hat7 with e | e
          · rw [e]; exact HF.out
          · intro e2; have := e _ e2; have := HX5.out.lt; omega
        have hb7 : Below w.heap.size w w7 := HB5.out.trans ⟨hg7.os, hg7.tape, hg7.output, hg7.size, fun k hk => hg7.block k (Nat.lt_of_lt_of_le hk hs5) (fun e => by have := HO6.out.lt k (by rw [ownBlock_slice]; exact e.symm); omega)⟩
        have H7 := hid (And.intro ho7 (And.intro hx7 (And.intro hfar7 hb7)))
        clear ho7 hg7 hat7 hx7 hfar7 hb7 HO6 HX5 HB5 hs5
        go_wp2_with fail
        go_roundg (6 - (j + 1))
        case measure => rw [HG.out]; omega
        case rel =>
          refine ⟨j + 1, ao7, c7, by omega, rfl, by go_num, ?_, ?_, H7.out.2.1, H7.out.2.2.1, H7.out.2.2.2⟩
          · rw [HLEN.out]; rfl
          · rw [HLEN.out]; exact H7.out.1
      · obtain rfl : j = 6 := by omega
        have hl6 := hlen
        rw [HLEN.out]
        have HO1 := hid (show wr.ownsRow w.heap.size 5 1 (.slice ao 28 c) 28 (bl (L 6)) from by have := HO.out; rw [HLEN.out] at this; exact this)
        have HBY6 := hid (own_byts HO1.out (HLT.out 6))
        have HCS := hid (rcsum_any (cap := c) HBY6.out (by omega))
        have HSN' := hid (show (smd (L 6)).length = 32 from by rw [HSN.out, HLEN.out])
        have u6 : IntKind.u64.wrap (cs (L 6) : Int) = cs (L 6) := u64_small _ hcs
        rw [HLEN.out] at HCS
        clear hlen hl6 HO HBY6
        generalize cs (L 6) = v at *
        go_wp2_with fail
        refine HCS.out.mono ?_
        rintro e w' ⟨rfl, rfl⟩
        go_wp2_with fail
        refine (rbytes_any v 4 (by omega) (by decide) _).mono ?_
        rintro e w5 ⟨rfl, ho5, hb5⟩
        have HB5 := hid (HB.out.trans (hb5.mono HB.out.size))
        have ho6 : w5.ownsRow w.heap.size 5 1 (.slice ao 28 c) 28 (bl (L 6)) := ownsRow_block HO1.out fun g hg => hb5.block g ((HO1.out.lt g (by rw [ownBlock_slice]; exact hg)).2)
        have HO6 := hid ho6
        have HBY := hid (own_byts ho5 (le_lt v 4))
        have hs5 := HB5.out.size
        clear ho5 hb5 ho6 HO1 HB HX
        go_wp2_with (at_builtin; (refine (wpList_append_list w5 (by rfl) _ _ _ (by rfl) w.heap.size 5 i0 _ 1 Try.underlying22 hi hz0 hz1 hz2 rfl ao 28 c (bl (L 6)) (by rfl) HO6.out _ 4 4 (bl (le v 4)) (by rfl) ((bl_len _).trans (le_len _ _)) (fun e => by cases e) HBY.out.cells (bl_one _) (by unfold maxLen; omega) (by omega) hs5 ?_)))
        intro ao7 c7 w7 ho7 hg7 hat7
        rw [← bl_app, ← HSMD.out] at ho7
        have hb7 : Below w.heap.size w w7 := HB5.out.trans ⟨hg7.os, hg7.tape, hg7.output, hg7.size, fun k hk => hg7.block k (Nat.lt_of_lt_of_le hk hs5) (fun e => by have := HO6.out.lt k (by rw [ownBlock_slice]; exact e.symm); omega)⟩
        have H7 := hid (And.intro ho7 hb7)
        clear ho7 hg7 hat7 hb7 HO6 HB5 hs5
        go_wp2_with fail
        go_ret
        rw [HP.out]
        exact ⟨ao7, c7, by rw [HSN'.out]; rfl, by rw [HSN'.out]; exact H7.out.1, H7.out.2, HSL.out⟩
end Go.Proofs.Ytgcnbeigchppfaa.Head
