/- Open of the program. Conditions: a table, bytes in memory. -/
import Derived.Test.YtgcnbeigchppfaaIo
import Derived.RegionTactic
namespace Go.Proofs.Ytgcnbeigchppfaa.Head
open Go.RowKit Gen Fld
open Crc hiding hid

set_option maxRecDepth 100000 in
theorem res_ct4 {P : Program} {fn : Func} {p u1 u2 u3 : Tmp} {ty : TypeId} (h : fn.results = #[.cell p ty, .tmp u1, .tmp u2, .tmp u3]) (tmps : Array Value) (w : World) (g : Nat) (t : TypeId) (cs : Array Value) (fr : Nat × Nat) (d : TypeDesc)
    (hp : tmps.getD p undef = .pointer (some ⟨g, 0, none⟩)) (hg : w.heap[g]? = some (.cells cs t fr))
    (hu : P.underlying ty = some d) (hd : (match d with | .struct _ | .array _ _ => true | _ => false) = true) (hi : (P.info? ty).map (·.size) = some cs.size) {v1 v2 v3 : Value} (hv1 : tmps.getD u1 undef = v1) (hv2 : tmps.getD u2 undef = v2) (hv3 : tmps.getD u3 undef = v3) :
    (results fn tmps).run P w = .ok (.tuple #[.agg cs, v1, v2, v3]) w := by
  have hp' : tmps[p]?.getD undef = .pointer (some ⟨g, 0, none⟩) := by simpa using hp
  have hv1' : tmps[u1]?.getD undef = v1 := by simpa using hv1
  have hv2' : tmps[u2]?.getD undef = v2 := by simpa using hv2
  have hv3' : tmps[u3]?.getD undef = v3 := by simpa using hv3
  simp only [results, h]
  simp [Result.andThen, hp', hv1', hv2', hv3', asAddr, run_loadVar_row w g t ty cs fr d hg hu hd hi]
set_option maxRecDepth 100000 in
theorem step_load_row {P : Program} {ops : Array Oper} {o : Oper} {a : Act} {w : World} {K : Act → World → Prop} {Q : Exit → Act → World → Prop} {E : Prop} (hgd : o.guard = none) (ty : TypeId) (x : Operand) (ho : o.op = .load ty x)
    (g : Nat) (hx : a.eval x = .pointer (some ⟨g, 0, none⟩)) (t : TypeId) (cs : Array Value) (fr : Nat × Nat) (d : TypeDesc) (hg : w.heap[g]? = some (.cells cs t fr))
    (hu : P.underlying ty = some d) (hd : (match d with | .struct _ | .array _ _ => true | _ => false) = true) (hi : (P.info? ty).map (·.size) = some cs.size)
    (h : K (a.put o.dst (.agg cs)) w) : if Region.wanted o (yielded ops a.tmps) = true then Oper.wp P o a w K Q else E := by
  have hw : Region.wanted o (yielded ops a.tmps) = true := by simp [Region.wanted, hgd]
  rw [if_pos hw]
  exact wp_load_row ty x ho g hx t cs fr d hg hu hd hi h
set_option maxRecDepth 100000 in
theorem step_store_row {P : Program} {ops : Array Oper} {o : Oper} {a : Act} {w : World} {K : Act → World → Prop} {Q : Exit → Act → World → Prop} {E : Prop} (hgd : o.guard = none) (ty : TypeId) (x y : Operand) (ho : o.op = .store ty x y)
    (g : Nat) (cells : Array Value) (hx : a.eval x = .pointer (some ⟨g, 0, none⟩)) (hy : a.eval y = .agg cells)
    (t : TypeId) (old : Array Value) (hg : w.heap[g]? = some (.cells old t (0, 0))) (hi : (P.info? ty).map (·.size) = some cells.size)
    (hold : old.size = cells.size) (h1 : cells.all (·.oneCell') = true)
    (h : K (a.put o.dst undef) (w.setRow g cells)) : if Region.wanted o (yielded ops a.tmps) = true then Oper.wp P o a w K Q else E := by
  have hw : Region.wanted o (yielded ops a.tmps) = true := by simp [Region.wanted, hgd]
  rw [if_pos hw]
  exact wp_store_row ty x y ho g cells hx hy t old hg hi hold h1 h

set_option maxRecDepth 100000 in
/-- What stands in a head that is got. -/
theorem get_ok {l : List Nat} (h : getE l = 0) : Rt (getH l) ∧ 32 ≤ l.length ∧ getH l = hdl (l.take 32) ∧ Bgn l ∧ Sm l ∧ ¬ Bad (l.take 32) := by
  unfold getE at h
  unfold getH
  by_cases h1 : Bgn l
  · rw [if_neg (fun h => h h1)] at h ⊢
    by_cases h2 : l.length < 32
    · rw [if_pos h2] at h; exact absurd h (by decide)
    · rw [if_neg h2] at h ⊢
      by_cases h3 : Sm l
      · rw [if_neg (fun h => h h3)] at h ⊢
        by_cases h4 : Bad (l.take 32)
        · unfold rdE at h; rw [if_pos h4] at h; exact absurd h (by decide)
        · unfold rdH; rw [if_neg h4]
          refine ⟨?_, by omega, rfl, h1, h3, h4⟩
          unfold Bad at h4
          by_cases h5 : Rt (hdl (l.take 32))
          · exact h5
          · exact absurd (.inr h5) h4
      · rw [if_pos h3] at h; exact absurd h (by decide)
  · rw [if_pos h1] at h; exact absurd h (by decide)
/-- How many bytes of payload a head says. -/
def szn (l : List Nat) : Nat := (getH l).sz.toNat
/-- Is the sum at the block's end the right one. -/
def Sb (l : List Nat) (n : Nat) : Prop := lev ((l.take (n + 32 + 4)).drop (n + 32)) = cs ((l.take (n + 32 + 4)).take (n + 32))
instance (l : List Nat) (n : Nat) : Decidable (Sb l n) := by unfold Sb; exact inferInstance
def opE (l : List Nat) : Int := if getE l ≠ 0 then getE l else if l.length < szn l + 36 then 10 else if ¬ Sb l (szn l) then 33 else 0
def opH (l : List Nat) : Hh := if opE l = 0 then getH l else hz
def opP (l : List Nat) : List Nat := if opE l = 0 then (l.drop 32).take (szn l) else []
def opS (l : List Nat) : Nat := if opE l = 0 then cs ((l.take (szn l + 32 + 4)).take (szn l + 32)) else 0
def OpenP (w : World) (h : Hh) (p : List Nat) (s : Nat) (x : Int) (e : Ending) (w' : World) : Prop :=
  ∃ ao cap, e = .returned (.tuple #[hv h, .slice ao p.length cap, .int .u32 (s : Int), .int .i64 x]) ∧ NL w ao cap p w'
set_option maxRecDepth 100000 in
theorem openp_none {w w' : World} (x : Int) (h : Below w.heap.size w w') : OpenP w hz [] 0 x (.returned (.tuple #[hv hz, .slice none 0 0, .int .u32 0, .int .i64 x])) w' := ⟨none, 0, rfl, World.ownsRow_nil _ _ _ _, h, fun _ h => by cases h⟩
set_option maxRecDepth 100000 in
theorem own_far {w : World} {B : Nat} {ao : Option Addr} {n c : Nat} {xs : List Value} (h : w.ownsRow B 5 1 (.slice ao n c) n xs) {k : Nat} (hk : k < B) : blk ao ≠ some k := fun e => by
  have := (h.lt k (by rw [ownBlock_slice]; exact e)).1
  omega
set_option maxRecDepth 100000 in
theorem own_setRow {w : World} {B g : Nat} {ao : Option Addr} {n c : Nat} {xs : List Value} {cs : Array Value} (h : w.ownsRow B 5 1 (.slice ao n c) n xs) (hg : blk ao ≠ some g) : (w.setRow g cs).ownsRow B 5 1 (.slice ao n c) n xs :=
  ownsRow_block h fun k hk => setRow_other w g k cs (fun e => hg (e ▸ hk))
set_option maxRecDepth 100000 in
set_option maxHeartbeats 2000000 in
theorem open_ok {w : World} {g : Nat} (ht : Tab w g) {b off : Nat} {l : List Nat} {cap N : Nat} (hb : Byts w (some ⟨b, off, none⟩) l) (hN : l.length = N) (hc : N ≤ cap) (hm : N ≤ 1099511627776) (hg : getE l = 0) (hl : szn l + 32 + 4 ≤ N) (hs : Sb l (szn l)) :
    Calls Try.prog 47 #[.pointer (some ⟨g, 0, none⟩), .slice (some ⟨b, off, none⟩) N cap] w (OpenP w (getH l) ((l.drop 32).take (szn l)) (cs ((l.take (szn l + 32 + 4)).take (szn l + 32))) 0) := by
  obtain ⟨hrt, h32, hgh, _, _, _⟩ := get_ok hg
  have hszn : szn l ≤ 16777216 := by unfold szn; have := hrt.1.2.2.2.2.2.2.2.2; omega
  have hsz : (getH l).sz = (szn l : Int) := by unfold szn; have := hrt.1.2.2.2.2.2.2.2.2.1; omega
  have hz0 : (w.alloc (.cells (hvl hz) 38)).heap[w.heap.size]? = some (.cells (hvl hz) 38 (0, 0)) := heap_alloc_new _ _
  have HB0 := hid (below_new w (.cells (hvl hz) 38))
  have HZ := hid hz0
  have HG := hid (get_any (cap := cap) (ht.keep (HB0.out.block g ht.lt)) (hb.keep HB0.out) (by omega) (by omega))
  rw [hN, hg] at HG
  have hll : ((l.take (szn l + 32 + 4)).length) = szn l + 32 + 4 := by rw [List.length_take]; omega
  have HSU := hid (fun (w' : World) (ht' : Tab w' g) (hb' : Byts w' (some ⟨b, off, none⟩) (l.take (szn l + 32 + 4))) => sumof_any (m := szn l + 32) (cap := cap) ht' hb' hll (by omega) (by omega))
  have hsd : decide (lev ((l.take (szn l + 32 + 4)).drop (szn l + 32)) = cs ((l.take (szn l + 32 + 4)).take (szn l + 32))) = true := decide_eq_true hs
  rw [hsd] at HSU
  have HLO := hid fun w => long_any (getH l) w
  rw [if_pos hrt, hsz] at HLO
  have hpl : ((l.drop 32).take (szn l)).length = szn l := by rw [List.length_take, List.length_drop]; omega
  have HCL := hid fun (w' : World) (hb' : Byts w' (some ⟨b, off + 32, none⟩) ((l.drop 32).take (szn l))) (c : Nat) => clone_any (c := c) hb' (fun e => by cases e) (by omega)
  have HBP := hid fun (w' : World) (hb' : Byts w' (some ⟨b, off, none⟩) l) => (hb'.drop 32).take (szn l)
  rw [hpl] at HCL
  have HPL := hid hpl
  have HTB := hid ht
  have HBY := hid hb
  have hpo : ∀ e w', OpenP w (getH l) ((l.drop 32).take (szn l)) (cs ((l.take (szn l + 32 + 4)).take (szn l + 32))) 0 e w' = ∃ ao cap, e = .returned (.tuple #[hv (getH l), .slice ao ((l.drop 32).take (szn l)).length cap, .int .u32 (cs ((l.take (szn l + 32 + 4)).take (szn l + 32)) : Int), .int .i64 0]) ∧ NL w ao cap ((l.drop 32).take (szn l)) w' := fun _ _ => rfl
  have HPO := hid hpo
  have HPB := hid (show ∀ x ∈ (l.drop 32).take (szn l), x < 256 from fun x hx => hb.lt x (List.mem_of_mem_drop (List.mem_of_mem_take hx)))
  clear hpo hrt h32 hgh hz0 ht hb hll hsd hpl hg hs hsz
  generalize (l.drop 32).take (szn l) = pl at *
  generalize cs ((l.take (szn l + 32 + 4)).take (szn l + 32)) = s at *
  generalize getH l = h at *
  have hex : ∀ w', Byts w' (some ⟨b, off, none⟩) l → Byts w' (some ⟨b, off, none⟩) (l.take (szn l + 32 + 4)) := fun w' hb' => hb'.take _
  have HEX := hid hex
  clear hex
  generalize szn l = n at *
  have e36 : (36 : Int) + (n : Int) = ((n + 32 + 4 : Nat) : Int) := by omega
  rw [e36] at HLO
  clear e36
  obtain ⟨L, hL⟩ : ∃ L, L = n + 32 + 4 := ⟨_, rfl⟩
  rw [← hL] at HLO HSU HEX hl
  have hcL : L ≤ cap := by omega
  have hLN : ¬ (N : Int) < (L : Int) := by omega
  obtain ⟨M, hM⟩ : ∃ M, M = n + 32 := ⟨_, rfl⟩
  have hL4 : (L : Int) - 4 = (M : Int) := by omega
  have hMn : M - 32 = n := by omega
  have h32M : 32 ≤ M := by omega
  have h32i : ¬ (M : Int) < 32 := by omega
  have hMc : M ≤ cap := by omega
  have hc32 : ¬ cap = 32 := by omega
  clear hL hM
  go_enter Try.func47, Try.ntmps47
  go_wp2_with fail
  refine HG.out.mono ?_
  rintro e w1 ⟨rfl, hb1⟩
  have HZ1 := hid ((hb1.block w.heap.size (World.block_lt_of_cell? _ _ (row_cell HZ.out 0 rfl))).trans HZ.out)
  have HB1 := hid (HB0.out.trans (hb1.mono HB0.out.size))
  have hz1 : w.heap.size < w1.heap.size := World.block_lt_of_cell? _ _ (row_cell HZ1.out 0 rfl)
  have HA1 := hid (heap_alloc_new w1 (.cells (hvl hz) 38))
  clear hb1 HZ
  rw [show hv h = .agg (hvl h) from rfl]
  have hb2 : Below w1.heap.size w1 ((w1.alloc (.cells (hvl hz) 38)).setRow w1.heap.size (hvl h)) := fr_rowBelow (below_new w1 _) (Nat.le_refl _)
  have hbx2 : Bx ((w1.alloc (.cells (hvl hz) 38)).setRow w1.heap.size (hvl h)) w1.heap.size h := ⟨setRow_heap _ _ _ _ _ _ HA1.out⟩
  have hz2 := (hb2.block w.heap.size hz1).trans HZ1.out
  have HB2 := hid (HB1.out.trans (hb2.mono HB1.out.size))
  have HX2 := hid hbx2
  have HZ2 := hid hz2
  clear hb2 hbx2 hz2 HB1 HZ1
  go_wp2_with (first
    | (refine wpList_load_row rfl 38 _ rfl w1.heap.size rfl 38 (hvl h) (0, 0) _ HX2.out.row Try.underlying38 rfl (hvl_size h) ?_)
    | (refine wpList_store_row rfl 38 _ _ rfl w1.heap.size (hvl h) rfl rfl 38 (hvl hz) HA1.out (hvl_size h) rfl (hvl_one h) ?_))
  refine (HLO.out _).mono ?_
  rintro e w3 ⟨rfl, hb3⟩
  have HX3 := hid (HX2.out.below hb3 HX2.out.lt)
  have hz2l := World.block_lt_of_cell? _ _ (row_cell HZ2.out 0 rfl)
  have HZ3 := hid ((hb3.block w.heap.size hz2l).trans HZ2.out)
  have HB3 := hid (HB2.out.trans (hb3.mono HB2.out.size))
  have HSU3 := hid (HSU.out w3 (HTB.out.keep (HB3.out.block g HTB.out.lt)) (HEX.out w3 (HBY.out.keep HB3.out)))
  clear hb3 hz2l HX2 HZ2 HB2 HA1
  go_wp2_with fail
  refine HSU3.out.mono ?_
  rintro e w4 ⟨rfl, hb4⟩
  have HX4 := hid (HX3.out.below hb4 HX3.out.lt)
  have hz3l := World.block_lt_of_cell? _ _ (row_cell HZ3.out 0 rfl)
  have HZ4 := hid ((hb4.block w.heap.size hz3l).trans HZ3.out)
  have HB4 := hid (HB3.out.trans (hb4.mono HB3.out.size))
  clear hb4 hz3l HX3 HZ3 HB3 HSU3
  go_wp2_with fail
  have hxd : w4.drew.heap[w1.heap.size]? = some (.cells (hvl h) 38 (0, 0)) := HX4.out.row
  have hbd : Below w4.heap.size w4 w4.drew := ⟨rfl, rfl, rfl, Nat.le_refl _, fun _ _ => rfl⟩
  have HXD := hid hxd
  have HX4L := hid HX4.out.lt
  have hzl4 := World.block_lt_of_cell? _ _ (row_cell HZ4.out 0 rfl)
  have HCL4 := hid (HCL.out w4.drew (HBP.out _ ((HBY.out.keep HB4.out).keep hbd)) (cap - 32))
  have hpost : ∀ w5, Below w4.drew.heap.size w4.drew w5 → w5.heap[w.heap.size]? = some (.cells (hvl hz) 38 (0, 0)) ∧ w5.heap[w1.heap.size]? = some (.cells (hvl h) 38 (0, 0)) ∧ Below w.heap.size w w5 := fun w5 hb5 =>
    ⟨(hb5.block _ hzl4).trans HZ4.out, (hb5.block _ HX4L.out).trans HXD.out, HB4.out.trans (hbd.trans hb5 |>.mono HB4.out.size)⟩
  have HPS := hid hpost
  have HW4 := hid (show w.heap.size < w4.drew.heap.size from hzl4)
  clear hxd hbd hzl4 hpost hz1
  refine wp_region_any (by kernel_rfl) ?_
  change wpAny _ _ _ _ _ _ _ (World.drew _)
  refine wpAny_take (i := 1) (v := .slice (some ⟨b, off, none⟩) L cap) rfl (by kernel_rfl) (by kernel_rfl) (by kernel_rfl) (fun _ _ _ h => h) (Or.inl ⟨by rfl, ?_⟩) ?_
  · intro w; go_simp
  refine wpAny_take (i := 2) (v := .int .i64 (L : Int)) rfl (by kernel_rfl) (by kernel_rfl) (by kernel_rfl) (fun _ _ _ h => h) (Or.inl ⟨by rfl, ?_⟩) ?_
  · intro w; go_simp
  refine wpAny_take (i := 3) (v := .int .i64 (M : Int)) rfl (by kernel_rfl) (by kernel_rfl) (by kernel_rfl) (fun _ _ _ h => h) (Or.inl ⟨by rfl, ?_⟩) ?_
  · intro w; go_simp; exact IntWalk.i64_in _ (by omega)
  refine wpAny_take (i := 4) (v := .slice (some ⟨b, off + 32, none⟩) n (cap - 32)) rfl (by kernel_rfl) (by kernel_rfl) (by kernel_rfl) (fun _ _ _ h => h) (Or.inl ⟨by rfl, ?_⟩) ?_
  · intro w; go_simp
  refine wpAny_take (i := 6) (v := .int .u32 (s : Int)) rfl (by kernel_rfl) (by kernel_rfl) (by kernel_rfl) (fun _ _ _ h => h) (Or.inl ⟨by rfl, ?_⟩) ?_
  · intro w; go_simp
  refine wpAny_ready (rs := [0, 5]) (by kernel_rfl) (by simp) ?_
  refine AllReady.cons rfl (fun K hK => ?_) (AllReady.cons rfl (fun K hK => ?_) AllReady.nil)
  · skip
    refine step_load_row rfl 38 _ rfl w1.heap.size rfl 38 (hvl h) (0, 0) _ HXD.out Try.underlying38 rfl (hvl_size h) ?_
    refine hK _ _ ?_
    clear hK K
    refine wpAny_ready (rs := [5]) (by kernel_rfl) (by simp) ?_
    refine AllReady.cons rfl (fun K hK => ?_) AllReady.nil
    go_simp
    go_at_call 32
    refine HCL4.out.mono ?_
    rintro e w5 ⟨ao, c, rfl, ho5, hb5⟩
    have HP5 := hid (HPS.out w5 hb5)
    have HO5 := hid ho5
    clear ho5 hb5
    refine hK _ _ ?_
    clear hK K
    refine wpAny_ready (rs := [7]) (by kernel_rfl) (by simp) ?_
    refine AllReady.cons rfl (fun K hK => ?_) AllReady.nil
    refine step_store_row rfl 38 _ _ rfl w.heap.size (hvl h) rfl rfl 38 (hvl hz) HP5.out.1 (hvl_size h) rfl (hvl_one h) ?_
    refine hK _ _ ?_
    clear hK K
    refine wpAny_take (i := 8) (v := .slice ao n c) rfl (by kernel_rfl) (by kernel_rfl) (by kernel_rfl) (fun _ _ _ h => h) (Or.inl ⟨by rfl, ?_⟩) ?_
    · intro w; go_simp
    refine wpAny_take (i := 9) (v := .int .u32 (s : Int)) rfl (by kernel_rfl) (by kernel_rfl) (by kernel_rfl) (fun _ _ _ h => h) (Or.inl ⟨by rfl, ?_⟩) ?_
    · intro w; go_simp
    refine wpAny_take (i := 10) (v := .int .i64 0) rfl (by kernel_rfl) (by kernel_rfl) (by kernel_rfl) (fun _ _ _ h => h) (Or.inl ⟨by rfl, ?_⟩) ?_
    · intro w; go_simp
    refine wpAny_done (by kernel_rfl) ?_ _
    go_wp2_with fail
    refine bodyPost_ret (res_ct4 (p := 4) (u1 := 5) (u2 := 6) (u3 := 7) (ty := 38) (by kernel_rfl) _ _ w.heap.size 38 (hvl h) (0, 0) _ rfl (setRow_heap _ _ _ _ _ _ HP5.out.1) Try.underlying38 rfl (hvl_size h) rfl rfl rfl) rfl ?_
    rw [HPO.out]
    refine ⟨ao, c, by rw [HPL.out]; rfl, ?_, fr_rowBelow HP5.out.2.2 (Nat.le_refl _), HPB.out⟩
    rw [HPL.out]
    exact own_setRow (own_mono HO5.out (Nat.le_of_lt HW4.out)) (own_far HO5.out HW4.out)
  · skip
    go_simp
    go_at_call 32
    refine HCL4.out.mono ?_
    rintro e w5 ⟨ao, c, rfl, ho5, hb5⟩
    have HP5 := hid (HPS.out w5 hb5)
    have HO5 := hid ho5
    clear ho5 hb5
    refine hK _ _ ?_
    clear hK K
    refine wpAny_ready (rs := [0]) (by kernel_rfl) (by simp) ?_
    refine AllReady.cons rfl (fun K hK => ?_) AllReady.nil
    refine step_load_row rfl 38 _ rfl w1.heap.size rfl 38 (hvl h) (0, 0) _ HP5.out.2.1 Try.underlying38 rfl (hvl_size h) ?_
    refine hK _ _ ?_
    clear hK K
    refine wpAny_ready (rs := [7]) (by kernel_rfl) (by simp) ?_
    refine AllReady.cons rfl (fun K hK => ?_) AllReady.nil
    refine step_store_row rfl 38 _ _ rfl w.heap.size (hvl h) rfl rfl 38 (hvl hz) HP5.out.1 (hvl_size h) rfl (hvl_one h) ?_
    refine hK _ _ ?_
    clear hK K
    refine wpAny_take (i := 8) (v := .slice ao n c) rfl (by kernel_rfl) (by kernel_rfl) (by kernel_rfl) (fun _ _ _ h => h) (Or.inl ⟨by rfl, ?_⟩) ?_
    · intro w; go_simp
    refine wpAny_take (i := 9) (v := .int .u32 (s : Int)) rfl (by kernel_rfl) (by kernel_rfl) (by kernel_rfl) (fun _ _ _ h => h) (Or.inl ⟨by rfl, ?_⟩) ?_
    · intro w; go_simp
    refine wpAny_take (i := 10) (v := .int .i64 0) rfl (by kernel_rfl) (by kernel_rfl) (by kernel_rfl) (fun _ _ _ h => h) (Or.inl ⟨by rfl, ?_⟩) ?_
    · intro w; go_simp
    refine wpAny_done (by kernel_rfl) ?_ _
    go_wp2_with fail
    refine bodyPost_ret (res_ct4 (p := 4) (u1 := 5) (u2 := 6) (u3 := 7) (ty := 38) (by kernel_rfl) _ _ w.heap.size 38 (hvl h) (0, 0) _ rfl (setRow_heap _ _ _ _ _ _ HP5.out.1) Try.underlying38 rfl (hvl_size h) rfl rfl rfl) rfl ?_
    rw [HPO.out]
    refine ⟨ao, c, by rw [HPL.out]; rfl, ?_, fr_rowBelow HP5.out.2.2 (Nat.le_refl _), HPB.out⟩
    rw [HPL.out]
    exact own_setRow (own_mono HO5.out (Nat.le_of_lt HW4.out)) (own_far HO5.out HW4.out)
end Go.Proofs.Ytgcnbeigchppfaa.Head
