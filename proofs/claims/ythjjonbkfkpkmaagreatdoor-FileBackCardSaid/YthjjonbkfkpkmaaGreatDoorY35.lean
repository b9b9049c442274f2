/- Seal of the document. Conditions: a payload in memory. -/
import Derived.Test.YthjjonbkfkpkmaaGreatDoorY33
import Derived.Test.YthjjonbkfkpkmaaGreatDoorYxIv
namespace Go.Proofs.YthjjonbkfkpkmaaGreatDoor.Head
open Go.RowKit Gen Fld
open Crc hiding hid

set_option maxRecDepth 100000 in
theorem rseal_long {w : World} (h : Hh) (a : Option Addr) (n cap : Nat) (hn : 16777216 < n) : Calls Tryz.prog 18 #[hv h, .slice a n cap] w (SealP w 0 34 []) := by
  have hf : ∀ w', Below w.heap.size w w' → SealP w 0 34 [] (.returned (.tuple #[.slice none 0 0, .int .u32 0, .int .i64 34])) w' := fun _ h => sealp_none 34 h
  have HF := hid hf
  clear hf
  have hn' : (16777216 : Int) < (n : Int) := by omega
  obtain ⟨k, ix, ln, st, bd, la, lk, sz⟩ := h
  change Calls Tryz.prog 18 #[.agg #[.int .i64 k, .int .i64 ix, .int .i64 ln, .int .i64 st, .int .i64 bd, .bool la, .int .u32 (lk : Int), .int .i64 sz], .slice a n cap] w _
  go_enter Tryz.func18, Tryz.ntmps18
  go_wp2_with fail
  go_ret3
  exact HF.out _ (below_new _ _)
set_option maxRecDepth 100000 in
theorem rseal_bad {w : World} (h : Hh) (a : Option Addr) (n cap : Nat) (hn : n ≤ 16777216) (hr : ¬ Rt (szd h n)) : Calls Tryz.prog 18 #[hv h, .slice a n cap] w (SealP w 0 32 []) := by
  have hf : ∀ w', Below w.heap.size w w' → SealP w 0 32 [] (.returned (.tuple #[.slice none 0 0, .int .u32 0, .int .i64 32])) w' := fun _ h => sealp_none 32 h
  have HF := hid hf
  have HP := hid fun w => rright_any (szd h n) w
  rw [decide_eq_false hr] at HP
  clear hf hr
  have hn' : ¬ (16777216 : Int) < (n : Int) := by omega
  obtain ⟨k, ix, ln, st, bd, la, lk, sz⟩ := h
  change Calls Tryz.prog 18 #[.agg #[.int .i64 k, .int .i64 ix, .int .i64 ln, .int .i64 st, .int .i64 bd, .bool la, .int .u32 (lk : Int), .int .i64 sz], .slice a n cap] w _
  go_enter Tryz.func18, Tryz.ntmps18
  go_wp2_with fail
  refine (HP.out _).mono ?_
  rintro e w1 ⟨rfl, hb⟩
  have hb' := (below_new w _).trans (hb.mono (below_new w _).size)
  clear hb
  go_wp2_with fail
  go_ret3
  exact HF.out _ hb'
set_option maxRecDepth 100000 in
set_option maxHeartbeats 1000000 in
theorem rseal_ok {w : World} (h : Hh) {a : Option Addr} {p : List Nat} {cap : Nat} (hp : Byts w a p) (hnil : a = none → p.length = 0 ∧ cap = 0) (hn : p.length ≤ 16777216) (hr : Rt (szd h p.length)) (hk : h.lk < 4294967296) :
    Calls Tryz.prog 18 #[hv h, .slice a p.length cap] w (SealP w (cs (blo h p)) 0 (smd (blo h p))) := by
  have hlen : (hby (szd h p.length)).length = 32 := hby_len _
  have hblt : ∀ b ∈ blo h p, b < 256 := by
    intro b hb
    rcases List.mem_append.1 hb with hb | hb
    · exact hby_lt _ b hb
    · exact hp.lt b hb
  have hbl : (blo h p).length = 32 + p.length := by unfold blo; rw [List.length_append, hby_len]
  have hbv : bl (blo h p) = bl (hby (szd h p.length)) ++ bl p := bl_app _ _
  have hcs := cs_lt hblt
  have u6 : IntKind.u64.wrap (cs (blo h p) : Int) = cs (blo h p) := u64_small _ hcs
  have HSD := hid (smd_lt hblt)
  have hsmd : smd (blo h p) = blo h p ++ le (cs (blo h p)) 4 := rfl
  have HSMD := hid hsmd
  have HSN := hid (smd_len (blo h p))
  have HBLT := hid hblt
  have HR := hid fun w => rright_any (szd h p.length) w
  rw [decide_eq_true hr] at HR
  have HPT := hid fun w => rput_ok (szd h p.length) hr hk w
  have HB := hid hp
  have HN := hid hnil
  have HBL := hid hbl
  have HBV := hid hbv
  have HLEN := hid hlen
  obtain ⟨i0, hi, hz0, hz1, hz2⟩ := info_parts Tryz.info5
  have hq : ∀ e w', SealP w (cs (blo h p)) 0 (smd (blo h p)) e w' = ∃ ao cap, e = .returned (.tuple #[.slice ao (smd (blo h p)).length cap, .int .u32 (cs (blo h p) : Int), .int .i64 0]) ∧ NL w ao cap (smd (blo h p)) w' := fun _ _ => rfl
  have HQ := hid hq
  clear hq hbl hbv hlen hblt hp hnil hr hsmd
  have hn' : ¬ (16777216 : Int) < (p.length : Int) := by omega
  generalize blo h p = m at *
  generalize hby (szd h p.length) = q at *
  obtain ⟨k, ix, ln, st, bd, la, lk, sz⟩ := h
  have HBX0 := hid (Bx.new w ⟨k, ix, ln, st, bd, la, lk, (p.length : Int)⟩)
  change Calls Tryz.prog 18 #[.agg #[.int .i64 k, .int .i64 ix, .int .i64 ln, .int .i64 st, .int .i64 bd, .bool la, .int .u32 (lk : Int), .int .i64 sz], .slice a p.length cap] w _
  go_enter Tryz.func18, Tryz.ntmps18
  go_wp2_with fail
  refine (HR.out _).mono ?_
  rintro e w1 ⟨rfl, hb1⟩
  have hbx1 := HBX0.out.below hb1 HBX0.out.lt
  have HB1 := hid ((below_new w _).trans (hb1.mono (below_new w _).size))
  have c0 := hbx1.c0; have c1 := hbx1.c1; have c2 := hbx1.c2; have c3 := hbx1.c3; have c4 := hbx1.c4; have c5 := hbx1.c5; have c6 := hbx1.c6; have c7 := hbx1.c7
  simp only [] at c0 c1 c2 c3 c4 c5 c6 c7
  clear hb1 hbx1 HBX0
  go_wp2_with fail
  refine (HPT.out _).mono ?_
  rintro e w2 ⟨ao, c, rfl, hl⟩
  have hb2 := HB1.out.trans (hl.bel.mono HB1.out.size)
  have ho2 := own_mono hl.own HB1.out.size
  rw [HLEN.out] at ho2
  rw [HLEN.out]
  have HO2 := hid ho2
  have HB2 := hid hb2
  have HBY2 := hid (HB.out.keep hb2)
  have hs2 := hb2.size
  clear hl hb2 ho2 HB1 c0 c1 c2 c3 c4 c5 c6 c7
  go_wp2_with (at_builtin; (refine (wpList_append_list w2 (by rfl) _ _ _ (by rfl) w.heap.size 5 i0 _ 1 Tryz.underlying32 hi hz0 hz1 hz2 rfl ao 32 c (bl q) (by rfl) HO2.out a p.length cap (bl p) (by rfl) (bl_len _) HN.out HBY2.out.cells (bl_one _) (by unfold maxLen; omega) (by omega) hs2 ?_)))
  intro ao3 c3 w3 ho3 hg3 hat3
  rw [← HBV.out] at ho3
  have hb3 : Below w.heap.size w w3 := HB2.out.trans ⟨hg3.os, hg3.tape, hg3.output, hg3.size, fun k hk => hg3.block k (Nat.lt_of_lt_of_le hk hs2) (fun e => by have := HO2.out.lt k (by rw [ownBlock_slice]; exact e.symm); omega)⟩
  have HB3 := hid hb3
  have HO3 := hid ho3
  have HCS := hid (rcsum_any (cap := c3) (own_byts ho3 HBLT.out) (by rw [HBL.out]; omega))
  rw [HBL.out] at HCS
  clear hg3 hat3 hb3 ho3 HO2 HB2 HBY2 hs2
  generalize cs m = v at *
  go_wp2_with fail
  refine HCS.out.mono ?_
  rintro e w' ⟨rfl, rfl⟩
  go_wp2_with fail
  refine (rbytes_any v 4 (by omega) (by decide) _).mono ?_
  rintro e w5 ⟨rfl, ho5, hb5⟩
  have HB5 := hid (HB3.out.trans (hb5.mono HB3.out.size))
  have ho6 : w5.ownsRow w.heap.size 5 1 (.slice ao3 (32 + p.length) c3) (32 + p.length) (bl m) := ownsRow_block HO3.out fun g hg => hb5.block g ((HO3.out.lt g (by rw [ownBlock_slice]; exact hg)).2)
  have HO6 := hid ho6
  have HBY := hid (own_byts ho5 (le_lt v 4))
  have hs5 := HB5.out.size
  clear ho5 hb5 ho6 HO3 HB3
  go_wp2_with (at_builtin; (refine (wpList_append_list w5 (by rfl) _ _ _ (by rfl) w.heap.size 5 i0 _ 1 Tryz.underlying32 hi hz0 hz1 hz2 rfl ao3 (32 + p.length) c3 (bl m) (by rfl) HO6.out _ 4 4 (bl (le v 4)) (by rfl) ((bl_len _).trans (le_len _ _)) (fun e => by cases e) HBY.out.cells (bl_one _) (by unfold maxLen; omega) (by omega) hs5 ?_)))
  intro ao7 c7 w7 ho7 hg7 hat7
  rw [← bl_app, ← HSMD.out] at ho7
  have hb7 : Below w.heap.size w w7 := HB5.out.trans ⟨hg7.os, hg7.tape, hg7.output, hg7.size, fun k hk => hg7.block k (Nat.lt_of_lt_of_le hk hs5) (fun e => by have := HO6.out.lt k (by rw [ownBlock_slice]; exact e.symm); omega)⟩
  have H7 := hid (And.intro ho7 hb7)
  have HSN' := hid (show (smd m).length = 32 + p.length + 4 from by rw [HSN.out, HBL.out])
  clear ho7 hg7 hat7 hb7 HO6 HB5 hs5
  go_wp2_with fail
  go_ret3
  rw [HQ.out]
  exact ⟨ao7, c7, by rw [HSN'.out]; rfl, by rw [HSN'.out]; exact H7.out.1, H7.out.2, HSD.out⟩
end Go.Proofs.YthjjonbkfkpkmaaGreatDoor.Head
namespace Go.Proofs.YthjjonbkfkpkmaaGreatDoor.Head
open Go.RowKit Gen Fld
open Crc hiding hid

set_option maxRecDepth 100000 in
theorem lev_one (x : Nat) : lev [x] = x := by show x + 256 * 0 = x; omega
set_option maxRecDepth 100000 in
theorem rget_any {w : World} {a : Option Addr} {l : List Nat} {cap : Nat} (hb : Byts w a l) (hc : l.length ≤ cap) : Calls Tryz.prog 66 #[.slice a l.length cap] w (HeadP w (getH l) (getE l)) := by
  match l, hb, hc with
  | [], _, _ => exact rget_zero
  | [x], hb, hc =>
    obtain ⟨b, off, rfl⟩ := byts_at hb (by simp)
    have hx := (byts_get hb 0 (by simp)).1
    rw [show ([x].drop 0).take 1 = [x] from rfl, lev_one] at hx
    by_cases h : x = 222
    · subst h
      exact rget_one hx
    · have hn : ¬ Bgn [x] := by unfold Bgn; simp [h]
      unfold getE getH
      rw [if_pos hn, if_pos hn]
      exact rget_x (N := 1) (by decide) h hx
  | x :: y :: t, hb, hc =>
    obtain ⟨b, off, rfl⟩ := byts_at hb (by simp)
    have hx := (byts_get hb 0 (by simp)).1
    have hy := (byts_get hb 1 (by simp)).1
    rw [show ((x :: y :: t).drop 0).take 1 = [x] from rfl, lev_one] at hx
    rw [show ((x :: y :: t).drop 1).take 1 = [y] from rfl, lev_one] at hy
    by_cases h : x = 222
    · by_cases h' : y = 92
      · subst h h'
        have hn : Bgn (222 :: 92 :: t) := by unfold Bgn; simp
        by_cases h2 : (222 :: 92 :: t).length < 32
        · have e1 : getE (222 :: 92 :: t) = 10 := by unfold getE; rw [if_neg (fun h => h hn), if_pos h2]
          have e2 : getH (222 :: 92 :: t) = hz := by unfold getH; rw [if_neg (fun h => h hn), if_pos h2]
          rw [e1, e2]
          exact rget_few (by simp) h2 hx hy
        · by_cases h3 : Sm (222 :: 92 :: t)
          · have e1 : getE (222 :: 92 :: t) = rdE ((222 :: 92 :: t).take 32) := by unfold getE; rw [if_neg (fun h => h hn), if_neg h2, if_neg (fun h => h h3)]
            have e2 : getH (222 :: 92 :: t) = rdH ((222 :: 92 :: t).take 32) := by unfold getH; rw [if_neg (fun h => h hn), if_neg h2, if_neg (fun h => h h3)]
            rw [e1, e2]
            exact rget_full hb rfl (by omega) hc (lev_one 222) (lev_one 92) h3
          · have e1 : getE (222 :: 92 :: t) = 33 := by unfold getE; rw [if_neg (fun h => h hn), if_neg h2, if_pos h3]
            have e2 : getH (222 :: 92 :: t) = hz := by unfold getH; rw [if_neg (fun h => h hn), if_neg h2, if_pos h3]
            rw [e1, e2]
            exact rget_sum hb rfl (by omega) hc (lev_one 222) (lev_one 92) h3
      · subst h
        have hn : ¬ Bgn (222 :: y :: t) := by unfold Bgn; simp [h']
        unfold getE getH
        rw [if_pos hn, if_pos hn]
        exact rget_y (by simp) h' hx hy
    · have hn : ¬ Bgn (x :: y :: t) := by unfold Bgn; simp [h]
      unfold getE getH
      rw [if_pos hn, if_pos hn]
      exact rget_x (by simp) h hx
def ROpenP (w : World) (h : Hh) (p : List Nat) (s : Nat) (x : Int) (e : Ending) (w' : World) : Prop :=
  ∃ ao cap, e = .returned (.tuple #[hv h, .slice ao p.length cap, .int .u32 (s : Int), .int .i64 x]) ∧ Byts w' ao p ∧ Below w.heap.size w w'
set_option maxRecDepth 100000 in
theorem ropenp_none {w w' : World} (x : Int) (h : Below w.heap.size w w') : ROpenP w hz [] 0 x (.returned (.tuple #[hv hz, .slice none 0 0, .int .u32 0, .int .i64 x])) w' := ⟨none, 0, rfl, Byts.nil _ _, h⟩
set_option maxRecDepth 100000 in
theorem sb_iff (l : List Nat) (n : Nat) : Sb l n ↔ lev ((l.drop (n + 32)).take 4) = cs (l.take (n + 32)) := by
  unfold Sb
  rw [List.drop_take, List.take_take, Nat.add_sub_cancel_left, Nat.min_eq_left (by omega)]
set_option maxRecDepth 100000 in
theorem ropen_err {w : World} (b : Value) (h : Hh) (x : Int) (hx : x ≠ 0) (hg : Calls Tryz.prog 66 #[b] (w.alloc (.cells (hvl hz) 61)) (HeadP (w.alloc (.cells (hvl hz) 61)) h x)) : Calls Tryz.prog 31 #[b] w (ROpenP w hz [] 0 x) := by
  have hz0 : (w.alloc (.cells (hvl hz) 61)).heap[w.heap.size]? = some (.cells (hvl hz) 61 (0, 0)) := heap_alloc_new _ _
  have HB0 := hid (below_new w (.cells (hvl hz) 61))
  have HZ := hid hz0
  have HG := hid hg
  have HF := hid fun w' => ropenp_none (w := w) (w' := w') x
  have hx' : (x != 0) = true := bne_iff_ne.2 hx
  clear hz0 hg hx
  go_enter Tryz.func31, Tryz.ntmps31
  go_wp2_with fail
  refine HG.out.mono ?_
  rintro e w1 ⟨rfl, hb1⟩
  have HZ1 := hid ((hb1.block w.heap.size (World.block_lt_of_cell? _ _ (row_cell HZ.out 0 rfl))).trans HZ.out)
  have HB1 := hid (HB0.out.trans (hb1.mono HB0.out.size))
  have hz1 : w.heap.size < w1.heap.size := World.block_lt_of_cell? _ _ (row_cell HZ1.out 0 rfl)
  have HA1 := hid (heap_alloc_new w1 (.cells (hvl hz) 61))
  clear hb1 HZ
  rw [show hv h = .agg (hvl h) from rfl]
  have hb2 : Below w1.heap.size w1 ((w1.alloc (.cells (hvl hz) 61)).setRow w1.heap.size (hvl h)) := fr_rowBelow (below_new w1 _) (Nat.le_refl _)
  have hz2 := (hb2.block w.heap.size hz1).trans HZ1.out
  have HB2 := hid (HB1.out.trans (hb2.mono HB1.out.size))
  have HZ2 := hid hz2
  clear hb2 hz2 HB1 HZ1 hz1
  go_wp2_with (first
    | (refine wpList_store_row rfl 61 _ _ rfl w1.heap.size (hvl h) rfl rfl 61 (hvl hz) HA1.out (hvl_size h) rfl (hvl_one h) ?_)
    | (refine wpList_store_row rfl 61 _ _ rfl w.heap.size (hvl hz) rfl rfl 61 (hvl hz) HZ2.out (hvl_size hz) rfl (hvl_one hz) ?_))
  refine bodyPost_ret (res_ct4 (p := 2) (u1 := 3) (u2 := 4) (u3 := 5) (ty := 61) (by kernel_rfl) _ _ w.heap.size 61 (hvl hz) (0, 0) _ rfl (setRow_heap _ _ _ _ _ _ HZ2.out) Tryz.underlying61 rfl (hvl_size hz) rfl rfl rfl) rfl ?_
  exact HF.out _ (fr_rowBelow HB2.out (Nat.le_refl _))
set_option maxRecDepth 100000 in
set_option maxHeartbeats 1000000 in
theorem ropen_end {w : World} {b off : Nat} {l : List Nat} {cap N : Nat} (hb : Byts w (some ⟨b, off, none⟩) l) (hN : l.length = N) (hc : N ≤ cap) (hg : getE l = 0) (hl : N < szn l + 32 + 4) :
    Calls Tryz.prog 31 #[.slice (some ⟨b, off, none⟩) N cap] w (ROpenP w hz [] 0 10) := by
  obtain ⟨hrt, h32, hgh, _, _, _⟩ := get_ok hg
  have hszn : szn l ≤ 16777216 := by unfold szn; have := hrt.1.2.2.2.2.2.2.2.2; omega
  have hsz : (getH l).sz = (szn l : Int) := by unfold szn; have := hrt.1.2.2.2.2.2.2.2.2.1; omega
  have hz0 : (w.alloc (.cells (hvl hz) 61)).heap[w.heap.size]? = some (.cells (hvl hz) 61 (0, 0)) := heap_alloc_new _ _
  have HB0 := hid (below_new w (.cells (hvl hz) 61))
  have HZ := hid hz0
  have HG := hid (rget_any (cap := cap) (hb.keep HB0.out) (by omega))
  rw [hN, hg] at HG
  have HBY := hid hb
  have HF := hid fun w' => ropenp_none (w := w) (w' := w') 10
  clear hrt h32 hgh hz0 hb hg
  generalize getH l = h at *
  generalize szn l = n at *
  have hL : (N : Int) < 36 + (n : Int) := by omega
  go_enter Tryz.func31, Tryz.ntmps31
  go_wp2_with fail
  refine HG.out.mono ?_
  rintro e w1 ⟨rfl, hb1⟩
  have HZ1 := hid ((hb1.block w.heap.size (World.block_lt_of_cell? _ _ (row_cell HZ.out 0 rfl))).trans HZ.out)
  have HB1 := hid (HB0.out.trans (hb1.mono HB0.out.size))
  have hz1 : w.heap.size < w1.heap.size := World.block_lt_of_cell? _ _ (row_cell HZ1.out 0 rfl)
  have HA1 := hid (heap_alloc_new w1 (.cells (hvl hz) 61))
  clear hb1 HZ
  rw [show hv h = .agg (hvl h) from rfl]
  have hb2 : Below w1.heap.size w1 ((w1.alloc (.cells (hvl hz) 61)).setRow w1.heap.size (hvl h)) := fr_rowBelow (below_new w1 _) (Nat.le_refl _)
  have hbx2 : Bx ((w1.alloc (.cells (hvl hz) 61)).setRow w1.heap.size (hvl h)) w1.heap.size h := ⟨setRow_heap _ _ _ _ _ _ HA1.out⟩
  have hz2 := (hb2.block w.heap.size hz1).trans HZ1.out
  have HB2 := hid (HB1.out.trans (hb2.mono HB1.out.size))
  have HX2 := hid hbx2
  have HZ2 := hid hz2
  have HY2 := hid (HBY.out.keep HB2.out)
  have c7 : ((w1.alloc (.cells #[.int .i64 0, .int .i64 0, .int .i64 0, .int .i64 0, .int .i64 0, .bool false, .int .u32 0, .int .i64 0] 61)).setRow w1.heap.size (hvl h)).cell? ⟨w1.heap.size, 7, none⟩ = some (.int .i64 (n : Int)) := by
    have := hbx2.c7
    rw [hsz] at this
    exact this
  clear hb2 hbx2 hz2 HB1 HZ1
  go_wp2_with (first
    | (refine wpList_store_row rfl 61 _ _ rfl w1.heap.size (hvl h) rfl rfl 61 (hvl hz) HA1.out (hvl_size h) rfl (hvl_one h) ?_)
    | (refine wpList_store_row rfl 61 _ _ rfl w.heap.size (hvl hz) rfl rfl 61 (hvl hz) HZ2.out (hvl_size hz) rfl (hvl_one hz) ?_))
  refine bodyPost_ret (res_ct4 (p := 2) (u1 := 3) (u2 := 4) (u3 := 5) (ty := 61) (by kernel_rfl) _ _ w.heap.size 61 (hvl hz) (0, 0) _ rfl (setRow_heap _ _ _ _ _ _ HZ2.out) Tryz.underlying61 rfl (hvl_size hz) rfl rfl rfl) rfl ?_
  exact HF.out _ (fr_rowBelow HB2.out (Nat.le_refl _))
set_option maxRecDepth 100000 in
set_option maxHeartbeats 1000000 in
theorem ropen_sum {w : World} {b off : Nat} {l : List Nat} {cap N : Nat} (hb : Byts w (some ⟨b, off, none⟩) l) (hN : l.length = N) (hc : N ≤ cap) (hg : getE l = 0) (hl : szn l + 32 + 4 ≤ N) (hs : ¬ Sb l (szn l)) :
    Calls Tryz.prog 31 #[.slice (some ⟨b, off, none⟩) N cap] w (ROpenP w hz [] 0 33) := by
  obtain ⟨hrt, h32, hgh, _, _, _⟩ := get_ok hg
  have hszn : szn l ≤ 16777216 := by unfold szn; have := hrt.1.2.2.2.2.2.2.2.2; omega
  have hsz : (getH l).sz = (szn l : Int) := by unfold szn; have := hrt.1.2.2.2.2.2.2.2.2.1; omega
  have hz0 : (w.alloc (.cells (hvl hz) 61)).heap[w.heap.size]? = some (.cells (hvl hz) 61 (0, 0)) := heap_alloc_new _ _
  have HB0 := hid (below_new w (.cells (hvl hz) 61))
  have HZ := hid hz0
  have HG := hid (rget_any (cap := cap) (hb.keep HB0.out) (by omega))
  rw [hN, hg] at HG
  have HBY := hid hb
  have HF := hid fun w' => ropenp_none (w := w) (w' := w') 33
  rw [sb_iff] at hs
  generalize szn l = n at *
  have hlt : (l.take (n + 32)).length = n + 32 := by rw [List.length_take]; omega
  have HCS := hid fun (w' : World) (hb' : Byts w' (some ⟨b, off, none⟩) l) (c : Nat) => rcsum_any (cap := c) (hb'.take (n + 32)) (by omega)
  rw [hlt] at HCS
  have HAT := hid fun (w' : World) (hb' : Byts w' (some ⟨b, off, none⟩) l) => rat_any (cap := cap) (N := N) (at_ := n + 32) hb' (by omega) (by omega) (by omega)
  have hcl := cs_lt (l := l.take (n + 32)) (fun x hx => hb.lt x (List.mem_of_mem_take hx))
  have hws := i64_small _ hcl
  have hne : ((cs (l.take (n + 32)) : Int) != (lev ((l.drop (n + 32)).take 4) : Int)) = true := by rw [bne_iff_ne]; omega
  clear hrt h32 hgh hz0 hb hg hs hlt
  generalize getH l = h at *
  generalize cs (l.take (n + 32)) = s at *
  generalize lev ((l.drop (n + 32)).take 4) = v at *
  obtain ⟨M, hM⟩ : ∃ M, M = n + 32 := ⟨_, rfl⟩
  rw [← hM] at HCS HAT
  have hL : ¬ (N : Int) < 36 + (n : Int) := by omega
  have hMi : 32 + (n : Int) = (M : Int) := by omega
  have hMc : M ≤ cap := by omega
  clear hM
  go_enter Tryz.func31, Tryz.ntmps31
  go_wp2_with fail
  refine HG.out.mono ?_
  rintro e w1 ⟨rfl, hb1⟩
  have HZ1 := hid ((hb1.block w.heap.size (World.block_lt_of_cell? _ _ (row_cell HZ.out 0 rfl))).trans HZ.out)
  have HB1 := hid (HB0.out.trans (hb1.mono HB0.out.size))
  have hz1 : w.heap.size < w1.heap.size := World.block_lt_of_cell? _ _ (row_cell HZ1.out 0 rfl)
  have HA1 := hid (heap_alloc_new w1 (.cells (hvl hz) 61))
  clear hb1 HZ
  rw [show hv h = .agg (hvl h) from rfl]
  have hb2 : Below w1.heap.size w1 ((w1.alloc (.cells (hvl hz) 61)).setRow w1.heap.size (hvl h)) := fr_rowBelow (below_new w1 _) (Nat.le_refl _)
  have hbx2 : Bx ((w1.alloc (.cells (hvl hz) 61)).setRow w1.heap.size (hvl h)) w1.heap.size h := ⟨setRow_heap _ _ _ _ _ _ HA1.out⟩
  have hz2 := (hb2.block w.heap.size hz1).trans HZ1.out
  have HB2 := hid (HB1.out.trans (hb2.mono HB1.out.size))
  have HX2 := hid hbx2
  have HZ2 := hid hz2
  have HY2 := hid (HBY.out.keep HB2.out)
  have c7 : ((w1.alloc (.cells #[.int .i64 0, .int .i64 0, .int .i64 0, .int .i64 0, .int .i64 0, .bool false, .int .u32 0, .int .i64 0] 61)).setRow w1.heap.size (hvl h)).cell? ⟨w1.heap.size, 7, none⟩ = some (.int .i64 (n : Int)) := by
    have := hbx2.c7
    rw [hsz] at this
    exact this
  have c7' : ((w1.alloc (.cells (hvl hz) 61)).setRow w1.heap.size (hvl h)).cell? ⟨w1.heap.size, 7, none⟩ = some (.int .i64 (n : Int)) := by
    have := hbx2.c7
    rw [hsz] at this
    exact this
  clear hb2 hbx2 hz2 HB1 HZ1
  go_wp2_with (refine wpList_store_row rfl 61 _ _ rfl w1.heap.size (hvl h) rfl rfl 61 (hvl hz) HA1.out (hvl_size h) rfl (hvl_one h) ?_)
  refine (HCS.out _ HY2.out _).mono ?_
  rintro e w' ⟨rfl, rfl⟩
  go_wp2_with fail
  refine (HAT.out _ HY2.out).mono ?_
  rintro e w' ⟨rfl, rfl⟩
  go_wp2_with (refine wpList_store_row rfl 61 _ _ rfl w.heap.size (hvl hz) rfl rfl 61 (hvl hz) HZ2.out (hvl_size hz) rfl (hvl_one hz) ?_)
  refine bodyPost_ret (res_ct4 (p := 2) (u1 := 3) (u2 := 4) (u3 := 5) (ty := 61) (by kernel_rfl) _ _ w.heap.size 61 (hvl hz) (0, 0) _ rfl (setRow_heap _ _ _ _ _ _ HZ2.out) Tryz.underlying61 rfl (hvl_size hz) rfl rfl rfl) rfl ?_
  exact HF.out _ (fr_rowBelow HB2.out (Nat.le_refl _))
end Go.Proofs.YthjjonbkfkpkmaaGreatDoor.Head
namespace Go.Proofs.YthjjonbkfkpkmaaGreatDoor.Head
open Go.RowKit Gen Fld
open Crc hiding hid

def ROpenQ (w : World) (a : Option Addr) (h : Hh) (p : List Nat) (s : Nat) (x : Int) (e : Ending) (w' : World) : Prop :=
  ∃ ao cap, e = .returned (.tuple #[hv h, .slice ao p.length cap, .int .u32 (s : Int), .int .i64 x]) ∧ Byts w' ao p ∧ Below w.heap.size w w' ∧ ∀ q, blk ao = some q → blk a = some q
set_option maxRecDepth 100000 in
theorem ropenq_none {w w' : World} {a : Option Addr} (x : Int) (h : Below w.heap.size w w') : ROpenQ w a hz [] 0 x (.returned (.tuple #[hv hz, .slice none 0 0, .int .u32 0, .int .i64 x])) w' := ⟨none, 0, rfl, Byts.nil _ _, h, fun q hq => by cases hq⟩
set_option maxRecDepth 100000 in
theorem ropenq_err {w : World} {a : Option Addr} (b : Value) (h : Hh) (x : Int) (hx : x ≠ 0) (hg : Calls Tryz.prog 66 #[b] (w.alloc (.cells (hvl hz) 61)) (HeadP (w.alloc (.cells (hvl hz) 61)) h x)) : Calls Tryz.prog 31 #[b] w (ROpenQ w a hz [] 0 x) := by
  have hz0 : (w.alloc (.cells (hvl hz) 61)).heap[w.heap.size]? = some (.cells (hvl hz) 61 (0, 0)) := heap_alloc_new _ _
  have HB0 := hid (below_new w (.cells (hvl hz) 61))
  have HZ := hid hz0
  have HG := hid hg
  have HF := hid fun w' => ropenq_none (w := w) (w' := w') (a := a) x
  have hx' : (x != 0) = true := bne_iff_ne.2 hx
  clear hz0 hg hx
  go_enter Tryz.func31, Tryz.ntmps31
  go_wp2_with fail
  refine HG.out.mono ?_
  rintro e w1 ⟨rfl, hb1⟩
  have HZ1 := hid ((hb1.block w.heap.size (World.block_lt_of_cell? _ _ (row_cell HZ.out 0 rfl))).trans HZ.out)
  have HB1 := hid (HB0.out.trans (hb1.mono HB0.out.size))
  have hz1 : w.heap.size < w1.heap.size := World.block_lt_of_cell? _ _ (row_cell HZ1.out 0 rfl)
  have HA1 := hid (heap_alloc_new w1 (.cells (hvl hz) 61))
  clear hb1 HZ
  rw [show hv h = .agg (hvl h) from rfl]
  have hb2 : Below w1.heap.size w1 ((w1.alloc (.cells (hvl hz) 61)).setRow w1.heap.size (hvl h)) := fr_rowBelow (below_new w1 _) (Nat.le_refl _)
  have hz2 := (hb2.block w.heap.size hz1).trans HZ1.out
  have HB2 := hid (HB1.out.trans (hb2.mono HB1.out.size))
  have HZ2 := hid hz2
  clear hb2 hz2 HB1 HZ1 hz1
  go_wp2_with (first
    | (refine wpList_store_row rfl 61 _ _ rfl w1.heap.size (hvl h) rfl rfl 61 (hvl hz) HA1.out (hvl_size h) rfl (hvl_one h) ?_)
    | (refine wpList_store_row rfl 61 _ _ rfl w.heap.size (hvl hz) rfl rfl 61 (hvl hz) HZ2.out (hvl_size hz) rfl (hvl_one hz) ?_))
  refine bodyPost_ret (res_ct4 (p := 2) (u1 := 3) (u2 := 4) (u3 := 5) (ty := 61) (by kernel_rfl) _ _ w.heap.size 61 (hvl hz) (0, 0) _ rfl (setRow_heap _ _ _ _ _ _ HZ2.out) Tryz.underlying61 rfl (hvl_size hz) rfl rfl rfl) rfl ?_
  exact HF.out _ (fr_rowBelow HB2.out (Nat.le_refl _))
set_option maxRecDepth 100000 in
set_option maxHeartbeats 1000000 in
theorem ropenq_end {w : World} {b off : Nat} {l : List Nat} {cap N : Nat} (hb : Byts w (some ⟨b, off, none⟩) l) (hN : l.length = N) (hc : N ≤ cap) (hg : getE l = 0) (hl : N < szn l + 32 + 4) :
    Calls Tryz.prog 31 #[.slice (some ⟨b, off, none⟩) N cap] w (ROpenQ w (some ⟨b, off, none⟩) hz [] 0 10) := by
  obtain ⟨hrt, h32, hgh, _, _, _⟩ := get_ok hg
  have hszn : szn l ≤ 16777216 := by unfold szn; have := hrt.1.2.2.2.2.2.2.2.2; omega
  have hsz : (getH l).sz = (szn l : Int) := by unfold szn; have := hrt.1.2.2.2.2.2.2.2.2.1; omega
  have hz0 : (w.alloc (.cells (hvl hz) 61)).heap[w.heap.size]? = some (.cells (hvl hz) 61 (0, 0)) := heap_alloc_new _ _
  have HB0 := hid (below_new w (.cells (hvl hz) 61))
  have HZ := hid hz0
  have HG := hid (rget_any (cap := cap) (hb.keep HB0.out) (by omega))
  rw [hN, hg] at HG
  have HBY := hid hb
  have HF := hid fun w' => ropenq_none (w := w) (w' := w') (a := some ⟨b, off, none⟩) 10
  clear hrt h32 hgh hz0 hb hg
  generalize getH l = h at *
  generalize szn l = n at *
  have hL : (N : Int) < 36 + (n : Int) := by omega
  go_enter Tryz.func31, Tryz.ntmps31
  go_wp2_with fail
  refine HG.out.mono ?_
  rintro e w1 ⟨rfl, hb1⟩
  have HZ1 := hid ((hb1.block w.heap.size (World.block_lt_of_cell? _ _ (row_cell HZ.out 0 rfl))).trans HZ.out)
  have HB1 := hid (HB0.out.trans (hb1.mono HB0.out.size))
  have hz1 : w.heap.size < w1.heap.size := World.block_lt_of_cell? _ _ (row_cell HZ1.out 0 rfl)
  have HA1 := hid (heap_alloc_new w1 (.cells (hvl hz) 61))
  clear hb1 HZ
  rw [show hv h = .agg (hvl h) from rfl]
  have hb2 : Below w1.heap.size w1 ((w1.alloc (.cells (hvl hz) 61)).setRow w1.heap.size (hvl h)) := fr_rowBelow (below_new w1 _) (Nat.le_refl _)
  have hbx2 : Bx ((w1.alloc (.cells (hvl hz) 61)).setRow w1.heap.size (hvl h)) w1.heap.size h := ⟨setRow_heap _ _ _ _ _ _ HA1.out⟩
  have hz2 := (hb2.block w.heap.size hz1).trans HZ1.out
  have HB2 := hid (HB1.out.trans (hb2.mono HB1.out.size))
  have HX2 := hid hbx2
  have HZ2 := hid hz2
  have HY2 := hid (HBY.out.keep HB2.out)
  have c7 : ((w1.alloc (.cells #[.int .i64 0, .int .i64 0, .int .i64 0, .int .i64 0, .int .i64 0, .bool false, .int .u32 0, .int .i64 0] 61)).setRow w1.heap.size (hvl h)).cell? ⟨w1.heap.size, 7, none⟩ = some (.int .i64 (n : Int)) := by
    have := hbx2.c7
    rw [hsz] at this
    exact this
  clear hb2 hbx2 hz2 HB1 HZ1
  go_wp2_with (first
    | (refine wpList_store_row rfl 61 _ _ rfl w1.heap.size (hvl h) rfl rfl 61 (hvl hz) HA1.out (hvl_size h) rfl (hvl_one h) ?_)
    | (refine wpList_store_row rfl 61 _ _ rfl w.heap.size (hvl hz) rfl rfl 61 (hvl hz) HZ2.out (hvl_size hz) rfl (hvl_one hz) ?_))
  refine bodyPost_ret (res_ct4 (p := 2) (u1 := 3) (u2 := 4) (u3 := 5) (ty := 61) (by kernel_rfl) _ _ w.heap.size 61 (hvl hz) (0, 0) _ rfl (setRow_heap _ _ _ _ _ _ HZ2.out) Tryz.underlying61 rfl (hvl_size hz) rfl rfl rfl) rfl ?_
  exact HF.out _ (fr_rowBelow HB2.out (Nat.le_refl _))
set_option maxRecDepth 100000 in
set_option maxHeartbeats 1000000 in
theorem ropenq_sum {w : World} {b off : Nat} {l : List Nat} {cap N : Nat} (hb : Byts w (some ⟨b, off, none⟩) l) (hN : l.length = N) (hc : N ≤ cap) (hg : getE l = 0) (hl : szn l + 32 + 4 ≤ N) (hs : ¬ Sb l (szn l)) :
    Calls Tryz.prog 31 #[.slice (some ⟨b, off, none⟩) N cap] w (ROpenQ w (some ⟨b, off, none⟩) hz [] 0 33) := by
  obtain ⟨hrt, h32, hgh, _, _, _⟩ := get_ok hg
  have hszn : szn l ≤ 16777216 := by unfold szn; have := hrt.1.2.2.2.2.2.2.2.2; omega
  have hsz : (getH l).sz = (szn l : Int) := by unfold szn; have := hrt.1.2.2.2.2.2.2.2.2.1; omega
  have hz0 : (w.alloc (.cells (hvl hz) 61)).heap[w.heap.size]? = some (.cells (hvl hz) 61 (0, 0)) := heap_alloc_new _ _
  have HB0 := hid (below_new w (.cells (hvl hz) 61))
  have HZ := hid hz0
  have HG := hid (rget_any (cap := cap) (hb.keep HB0.out) (by omega))
  rw [hN, hg] at HG
  have HBY := hid hb
  have HF := hid fun w' => ropenq_none (w := w) (w' := w') (a := some ⟨b, off, none⟩) 33
  rw [sb_iff] at hs
  generalize szn l = n at *
  have hlt : (l.take (n + 32)).length = n + 32 := by rw [List.length_take]; omega
  have HCS := hid fun (w' : World) (hb' : Byts w' (some ⟨b, off, none⟩) l) (c : Nat) => rcsum_any (cap := c) (hb'.take (n + 32)) (by omega)
  rw [hlt] at HCS
  have HAT := hid fun (w' : World) (hb' : Byts w' (some ⟨b, off, none⟩) l) => rat_any (cap := cap) (N := N) (at_ := n + 32) hb' (by omega) (by omega) (by omega)
  have hcl := cs_lt (l := l.take (n + 32)) (fun x hx => hb.lt x (List.mem_of_mem_take hx))
  have hws := i64_small _ hcl
  have hne : ((cs (l.take (n + 32)) : Int) != (lev ((l.drop (n + 32)).take 4) : Int)) = true := by rw [bne_iff_ne]; omega
  clear hrt h32 hgh hz0 hb hg hs hlt
  generalize getH l = h at *
  generalize cs (l.take (n + 32)) = s at *
  generalize lev ((l.drop (n + 32)).take 4) = v at *
  obtain ⟨M, hM⟩ : ∃ M, M = n + 32 := ⟨_, rfl⟩
  rw [← hM] at HCS HAT
  have hL : ¬ (N : Int) < 36 + (n : Int) := by omega
  have hMi : 32 + (n : Int) = (M : Int) := by omega
  have hMc : M ≤ cap := by omega
  clear hM
  go_enter Tryz.func31, Tryz.ntmps31
  go_wp2_with fail
  refine HG.out.mono ?_
  rintro e w1 ⟨rfl, hb1⟩
  have HZ1 := hid ((hb1.block w.heap.size (World.block_lt_of_cell? _ _ (row_cell HZ.out 0 rfl))).trans HZ.out)
  have HB1 := hid (HB0.out.trans (hb1.mono HB0.out.size))
  have hz1 : w.heap.size < w1.heap.size := World.block_lt_of_cell? _ _ (row_cell HZ1.out 0 rfl)
  have HA1 := hid (heap_alloc_new w1 (.cells (hvl hz) 61))
  clear hb1 HZ
  rw [show hv h = .agg (hvl h) from rfl]
  have hb2 : Below w1.heap.size w1 ((w1.alloc (.cells (hvl hz) 61)).setRow w1.heap.size (hvl h)) := fr_rowBelow (below_new w1 _) (Nat.le_refl _)
  have hbx2 : Bx ((w1.alloc (.cells (hvl hz) 61)).setRow w1.heap.size (hvl h)) w1.heap.size h := ⟨setRow_heap _ _ _ _ _ _ HA1.out⟩
  have hz2 := (hb2.block w.heap.size hz1).trans HZ1.out
  have HB2 := hid (HB1.out.trans (hb2.mono HB1.out.size))
  have HX2 := hid hbx2
  have HZ2 := hid hz2
  have HY2 := hid (HBY.out.keep HB2.out)
  have c7 : ((w1.alloc (.cells #[.int .i64 0, .int .i64 0, .int .i64 0, .int .i64 0, .int .i64 0, .bool false, .int .u32 0, .int .i64 0] 61)).setRow w1.heap.size (hvl h)).cell? ⟨w1.heap.size, 7, none⟩ = some (.int .i64 (n : Int)) := by
    have := hbx2.c7
    rw [hsz] at this
    exact this
  have c7' : ((w1.alloc (.cells (hvl hz) 61)).setRow w1.heap.size (hvl h)).cell? ⟨w1.heap.size, 7, none⟩ = some (.int .i64 (n : Int)) := by
    have := hbx2.c7
    rw [hsz] at this
    exact this
  clear hb2 hbx2 hz2 HB1 HZ1
  go_wp2_with (refine wpList_store_row rfl 61 _ _ rfl w1.heap.size (hvl h) rfl rfl 61 (hvl hz) HA1.out (hvl_size h) rfl (hvl_one h) ?_)
  refine (HCS.out _ HY2.out _).mono ?_
  rintro e w' ⟨rfl, rfl⟩
  go_wp2_with fail
  refine (HAT.out _ HY2.out).mono ?_
  rintro e w' ⟨rfl, rfl⟩
  go_wp2_with (refine wpList_store_row rfl 61 _ _ rfl w.heap.size (hvl hz) rfl rfl 61 (hvl hz) HZ2.out (hvl_size hz) rfl (hvl_one hz) ?_)
  refine bodyPost_ret (res_ct4 (p := 2) (u1 := 3) (u2 := 4) (u3 := 5) (ty := 61) (by kernel_rfl) _ _ w.heap.size 61 (hvl hz) (0, 0) _ rfl (setRow_heap _ _ _ _ _ _ HZ2.out) Tryz.underlying61 rfl (hvl_size hz) rfl rfl rfl) rfl ?_
  exact HF.out _ (fr_rowBelow HB2.out (Nat.le_refl _))
end Go.Proofs.YthjjonbkfkpkmaaGreatDoor.Head
