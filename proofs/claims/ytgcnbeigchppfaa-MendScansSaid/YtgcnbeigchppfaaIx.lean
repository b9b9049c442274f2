/- Seal of the document. Conditions: a payload in memory. -/
import Derived.Test.YtgcnbeigchppfaaIr
namespace Go.Proofs.Ytgcnbeigchppfaa.Head
open Go.RowKit Gen Fld
open Crc hiding hid

set_option maxRecDepth 100000 in
theorem rseal_long {w : World} (h : Hh) (a : Option Addr) (n cap : Nat) (hn : 16777216 < n) : Calls Try.prog 25 #[hv h, .slice a n cap] w (SealP w 0 34 []) := by
  have hf : ∀ w', Below w.heap.size w w' → SealP w 0 34 [] (.returned (.tuple #[.slice none 0 0, .int .u32 0, .int .i64 34])) w' := fun _ h => sealp_none 34 h
  have HF := hid hf
  clear hf
  have hn' : (16777216 : Int) < (n : Int) := by omega
  obtain ⟨k, ix, ln, st, bd, la, lk, sz⟩ := h
  change Calls Try.prog 25 #[.agg #[.int .i64 k, .int .i64 ix, .int .i64 ln, .int .i64 st, .int .i64 bd, .bool la, .int .u32 (lk : Int), .int .i64 sz], .slice a n cap] w _
  go_enter Try.func25, Try.ntmps25
  go_wp2_with fail
  go_ret3
  exact HF.out _ (below_new _ _)
set_option maxRecDepth 100000 in
theorem rseal_bad {w : World} (h : Hh) (a : Option Addr) (n cap : Nat) (hn : n ≤ 16777216) (hr : ¬ Rt (szd h n)) : Calls Try.prog 25 #[hv h, .slice a n cap] w (SealP w 0 32 []) := by
  have hf : ∀ w', Below w.heap.size w w' → SealP w 0 32 [] (.returned (.tuple #[.slice none 0 0, .int .u32 0, .int .i64 32])) w' := fun _ h => sealp_none 32 h
  have HF := hid hf
  have HP := hid fun w => rright_any (szd h n) w
  rw [decide_eq_false hr] at HP
  clear hf hr
  have hn' : ¬ (16777216 : Int) < (n : Int) := by omega
  obtain ⟨k, ix, ln, st, bd, la, lk, sz⟩ := h
  change Calls Try.prog 25 #[.agg #[.int .i64 k, .int .i64 ix, .int .i64 ln, .int .i64 st, .int .i64 bd, .bool la, .int .u32 (lk : Int), .int .i64 sz], .slice a n cap] w _
  go_enter Try.func25, Try.ntmps25
  go_wp2_with fail
  refine (HP.out _).mono ?_
  rintro e w1 ⟨rfl, hb⟩
  have hb' := (below_new w _).trans (hb.mono (below_new w _).size)
  clear hb
  go_wp2_with fail
  go_ret3
  exact HF.out _ hb'
set_option maxRecDepth 100000 in
set_option maxHeartbeats 1000000 in
theorem rseal_ok {w : World} (h : Hh) {a : Option Addr} {p : List Nat} {cap : Nat} (hp : Byts w a p) (hnil : a = none → p.length = 0 ∧ cap = 0) (hn : p.length ≤ 16777216) (hr : Rt (szd h p.length)) (hk : h.lk < 4294967296) :
    Calls Try.prog 25 #[hv h, .slice a p.length cap] w (SealP w (cs (blo h p)) 0 (smd (blo h p))) := by
  have hlen : (hby (szd h p.length)).length = 32 := hby_len _
  have hblt : ∀ b ∈ blo h p, b < 256 := by
    intro b hb
    rcases List.mem_append.1 hb with hb | hb
    · exact hby_lt _ b hb
    · exact hp.lt b hb
  have hbl : (blo h p).length = 32 + p.length := by unfold blo; rw [List.length_append, hby_len]
  have hbv : bl (blo h p) = bl (hby (szd h p.length)) ++ bl p := bl_app _ _
  have hcs := cs_lt hblt
  have u6 : IntKind.u64.wrap (cs (blo h p) : Int) = cs (blo h p) := u64_small _ hcs
  have HSD := hid (smd_lt hblt)
  have hsmd : smd (blo h p) = blo h p ++ le (cs (blo h p)) 4 := rfl
  have HSMD := hid hsmd
  have HSN := hid (smd_len (blo h p))
  have HBLT := hid hblt
  have HR := hid fun w => rright_any (szd h p.length) w
  rw [decide_eq_true hr] at HR
  have HPT := hid fun w => rput_ok (szd h p.length) hr hk w
  have HB := hid hp
  have HN := hid hnil
  have HBL := hid hbl
  have HBV := hid hbv
  have HLEN := hid hlen
  obtain ⟨i0, hi, hz0, hz1, hz2⟩ := info_parts Try.info5
  have hq : ∀ e w', SealP w (cs (blo h p)) 0 (smd (blo h p)) e w' = ∃ ao cap, e = .returned (.tuple #[.slice ao (smd (blo h p)).length cap, .int .u32 (cs (blo h p) : Int), .int .i64 0]) ∧ NL w ao cap (smd (blo h p)) w' := fun _ _ => rfl
  have HQ := hid hq
  clear hq hbl hbv hlen hblt hp hnil hr hsmd
  have hn' : ¬ (16777216 : Int) < (p.length : Int) := by omega
  generalize blo h p = m at *
  generalize hby (szd h p.length) = q at *
  obtain ⟨k, ix, ln, st, bd, la, lk, sz⟩ := h
  have HBX0 := hid (Bx.new w ⟨k, ix, ln, st, bd, la, lk, (p.length : Int)⟩)
  change Calls Try.prog 25 #[.agg #[.int .i64 k, .int .i64 ix, .int .i64 ln, .int .i64 st, .int .i64 bd, .bool la, .int .u32 (lk : Int), .int .i64 sz], .slice a p.length cap] w _
  go_enter Try.func25, Try.ntmps25
  go_wp2_with fail
  refine (HR.out _).mono ?_
  rintro e w1 ⟨rfl, hb1⟩
  have hbx1 := HBX0.out.below hb1 HBX0.out.lt
  have HB1 := hid ((below_new w _).trans (hb1.mono (below_new w _).size))
  have c0 := hbx1.c0; have c1 := hbx1.c1; have c2 := hbx1.c2; have c3 := hbx1.c3; have c4 := hbx1.c4; have c5 := hbx1.c5; have c6 := hbx1.c6; have c7 := hbx1.c7
  simp only [] at c0 c1 c2 c3 c4 c5 c6 c7
  clear hb1 hbx1 HBX0
  go_wp2_with fail
  refine (HPT.out _).mono ?_
  rintro e w2 ⟨ao, c, rfl, hl⟩
  have hb2 := HB1.out.trans (hl.bel.mono HB1.out.size)
  have ho2 := own_mono hl.own HB1.out.size
  rw [HLEN.out] at ho2
  rw [HLEN.out]
  have HO2 := hid ho2
  have HB2 := hid hb2
  have HBY2 := hid (HB.out.keep hb2)
  have hs2 := hb2.size
  clear hl hb2 ho2 HB1 c0 c1 c2 c3 c4 c5 c6 c7
  go_wp2_with (at_builtin; (refine (wpList_append_list w2 (by rfl) _ _ _ (by rfl) w.heap.size 5 i0 _ 1 Try.underlying22 hi hz0 hz1 hz2 rfl ao 32 c (bl q) (by rfl) HO2.out a p.length cap (bl p) (by rfl) (bl_len _) HN.out HBY2.out.cells (bl_one _) (by unfold maxLen; omega) (by omega) hs2 ?_)))
  intro ao3 c3 w3 ho3 hg3 hat3
  rw [← HBV.out] at ho3
  have hb3 : Below w.heap.size w w3 := HB2.out.trans ⟨hg3.os, hg3.tape, hg3.output, hg3.size, fun k hk => hg3.block k (Nat.lt_of_lt_of_le hk hs2) (fun e => by have := HO2.out.lt k (by rw [ownBlock_slice]; exact e.symm); omega)⟩
  have HB3 := hid hb3
  have HO3 := hid ho3
  have HCS := hid (rcsum_any (cap := c3) (own_byts ho3 HBLT.out) (by rw [HBL.out]; omega))
  rw [HBL.out] at HCS
  clear hg3 hat3 hb3 ho3 HO2 HB2 HBY2 hs2
  generalize cs m = v at *
  go_wp2_with fail
  refine HCS.out.mono ?_
  rintro e w' ⟨rfl, rfl⟩
  go_wp2_with fail
  refine (rbytes_any v 4 (by omega) (by decide) _).mono ?_
  rintro e w5 ⟨rfl, ho5, hb5⟩
  have HB5 := hid (HB3.out.trans (hb5.mono HB3.out.size))
  have ho6 : w5.ownsRow w.heap.size 5 1 (.slice ao3 (32 + p.length) c3) (32 + p.length) (bl m) := ownsRow_block HO3.out fun g hg => hb5.block g ((HO3.out.lt g (by rw [ownBlock_slice]; exact hg)).2)
  have HO6 := hid ho6
  have HBY := hid (own_byts ho5 (le_lt v 4))
  have hs5 := HB5.out.size
  clear ho5 hb5 ho6 HO3 HB3
  go_wp2_with (at_builtin; (refine (wpList_append_list w5 (by rfl) _ _ _ (by rfl) w.heap.size 5 i0 _ 1 Try.underlying22 hi hz0 hz1 hz2 rfl ao3 (32 + p.length) c3 (bl m) (by rfl) HO6.out _ 4 4 (bl (le v 4)) (by rfl) ((bl_len _).trans (le_len _ _)) (fun e => by cases e) HBY.out.cells (bl_one _) (by unfold maxLen; omega) (by omega) hs5 ?_)))
  intro ao7 c7 w7 ho7 hg7 hat7
  rw [← bl_app, ← HSMD.out] at ho7
  have hb7 : Below w.heap.size w w7 := HB5.out.trans ⟨hg7.os, hg7.tape, hg7.output, hg7.size, fun k hk => hg7.block k (Nat.lt_of_lt_of_le hk hs5) (fun e => by have := HO6.out.lt k (by rw [ownBlock_slice]; exact e.symm); omega)⟩
  have H7 := hid (And.intro ho7 hb7)
  have HSN' := hid (show (smd m).length = 32 + p.length + 4 from by rw [HSN.out, HBL.out])
  clear ho7 hg7 hat7 hb7 HO6 HB5 hs5
  go_wp2_with fail
  go_ret3
  rw [HQ.out]
  exact ⟨ao7, c7, by rw [HSN'.out]; rfl, by rw [HSN'.out]; exact H7.out.1, H7.out.2, HSD.out⟩
end Go.Proofs.Ytgcnbeigchppfaa.Head
