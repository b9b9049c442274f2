/- A head that is read, of the program. Conditions: 32 bytes in memory. -/
import Derived.Test.YtgcnbeigchppfaaIm
namespace Go.Proofs.Ytgcnbeigchppfaa.Head
open Go.RowKit Gen Fld
open Crc hiding hid

set_option maxRecDepth 100000 in
theorem res_ct {P : Program} {fn : Func} {p u : Tmp} {ty : TypeId} (h : fn.results = #[.cell p ty, .tmp u]) (tmps : Array Value) (w : World) (g : Nat) (t : TypeId) (cs : Array Value) (fr : Nat × Nat) (d : TypeDesc)
    (hp : tmps.getD p undef = .pointer (some ⟨g, 0, none⟩)) (hg : w.heap[g]? = some (.cells cs t fr))
    (hu : P.underlying ty = some d) (hd : (match d with | .struct _ | .array _ _ => true | _ => false) = true) (hi : (P.info? ty).map (·.size) = some cs.size) {v : Value} (hv : tmps.getD u undef = v) :
    (results fn tmps).run P w = .ok (.tuple #[.agg cs, v]) w := by
  have hp' : tmps[p]?.getD undef = .pointer (some ⟨g, 0, none⟩) := by simpa using hp
  have hv' : tmps[u]?.getD undef = v := by simpa using hv
  simp only [results, h]
  simp [Result.andThen, hp', hv', asAddr, run_loadVar_row w g t ty cs fr d hg hu hd hi]
/-- The third and the fourth byte. -/
def kb (l : List Nat) : Nat := lev ((l.drop 2).take 1)
def lbb (l : List Nat) : Nat := lev ((l.drop 3).take 1)
/-- The head that 32 bytes say. -/
def hdl (l : List Nat) : Hh := ⟨kb l, fv (l.drop 4) 0, fv (l.drop 4) 1, fv (l.drop 4) 2, fv (l.drop 4) 3, decide (lbb l = 1), fv (l.drop 4) 4, fv (l.drop 4) 5⟩
def Bad (l : List Nat) : Prop := 1 < lbb l ∨ ¬ Rt (hdl l)
instance (l : List Nat) : Decidable (Bad l) := by unfold Bad; exact inferInstance
def rdE (l : List Nat) : Int := if Bad l then 32 else 0
def rdH (l : List Nat) : Hh := if Bad l then hz else hdl l
def HeadP (w : World) (h : Hh) (x : Int) (e : Ending) (w' : World) : Prop := e = .returned (.tuple #[hv h, .int .i64 x]) ∧ Below w.heap.size w w'
set_option maxRecDepth 100000 in
theorem hvl_size (h : Hh) : (Try.prog.info? 38).map (·.size) = some (hvl h).size := Try.size24
set_option maxRecDepth 100000 in
theorem hvl_one (h : Hh) : (hvl h).all (·.oneCell') = true := by simp [hvl, Value.oneCell']
set_option maxRecDepth 100000 in
theorem byte_lev {l : List Nat} (h : ∀ b ∈ l, b < 256) (n : Nat) : lev ((l.drop n).take 1) < 256 := by
  have h1 := lev_lt ((l.drop n).take 1) (fun b hb => h b (List.mem_of_mem_drop (List.mem_of_mem_take hb)))
  have h2 : ((l.drop n).take 1).length ≤ 1 := by rw [List.length_take]; omega
  have h3 : 2 ^ (8 * ((l.drop n).take 1).length) ≤ 2 ^ 8 := Nat.pow_le_pow_right (by decide) (by omega)
  have : (2 : Nat) ^ 8 = 256 := by decide
  omega
set_option maxRecDepth 100000 in
theorem fr_rowBelow {B g : Nat} {w w' : World} {cs : Array Value} (h : Below B w w') (hg : B ≤ g) : Below B w (w'.setRow g cs) :=
  ⟨h.os, h.tape, h.output, by rw [size_setRow]; exact h.size, fun k hk => (setRow_other w' g k cs (by omega)).trans (h.block k hk)⟩
set_option maxRecDepth 100000 in
set_option maxHeartbeats 1000000 in
theorem read_any {w : World} {a : Option Addr} {l : List Nat} {c : Nat} (hb : Byts w a l) (hl : l.length = 32) :
    Calls Try.prog 72 #[.slice a 32 c] w (HeadP w (rdH l) (rdE l)) := by
  have HT := hid (fun (w' : World) (hb' : Byts w' a l) => take4_any (c := c) hl hb' (by rintro rfl; have := hb'.none_len rfl; rw [this] at hl; cases hl) (by decide))
  have HBY := hid hb
  have hk := byte_lev hb.lt 2
  have hk' : kb l < 256 := hk
  have hfv : ∀ w, Calls Try.prog 81 #[.agg #[.int .u64 (fv (l.drop 4) 0 : Int), .int .u64 (fv (l.drop 4) 1 : Int), .int .u64 (fv (l.drop 4) 2 : Int), .int .u64 (fv (l.drop 4) 3 : Int), .int .u64 (fv (l.drop 4) 4 : Int), .int .u64 (fv (l.drop 4) 5 : Int)]] w fun e w' => e = .returned (.agg #[.int .i64 0, .int .i64 (fv (l.drop 4) 0 : Int), .int .i64 (fv (l.drop 4) 1 : Int), .int .i64 (fv (l.drop 4) 2 : Int), .int .i64 (fv (l.drop 4) 3 : Int), .bool false, .int .u32 (fv (l.drop 4) 4 : Int), .int .i64 (fv (l.drop 4) 5 : Int)]) ∧ Below w.heap.size w w' := fun w => headof_any (fv (l.drop 4)) (fv_lt (fun b h => hb.lt b (List.mem_of_mem_drop h))) w
  have HFV := hid hfv
  have hR := fun w => right_any (hdl l) w
  have hpo : ∀ e w', HeadP w (rdH l) (rdE l) e w' = (e = .returned (.tuple #[hv (rdH l), .int .i64 (rdE l)]) ∧ Below w.heap.size w w') := fun _ _ => rfl
  have HPO := hid hpo
  have HLN := hid hl
  have hhd : hdl l = ⟨kb l, fv (l.drop 4) 0, fv (l.drop 4) 1, fv (l.drop 4) 2, fv (l.drop 4) 3, decide (lbb l = 1), fv (l.drop 4) 4, fv (l.drop 4) 5⟩ := rfl
  have htk : ∀ w q, TkS w q ⟨0, l.drop 4, 4⟩ → Calls Try.prog 80 #[.func (.func 75) #[.pointer (some ⟨q, 0, none⟩)] #[]] w fun e w' => e = .returned (.agg #[.int .u64 (fv (l.drop 4) 0 : Int), .int .u64 (fv (l.drop 4) 1 : Int), .int .u64 (fv (l.drop 4) 2 : Int), .int .u64 (fv (l.drop 4) 3 : Int), .int .u64 (fv (l.drop 4) 4 : Int), .int .u64 (fv (l.drop 4) 5 : Int)]) ∧ Fr (fun b => b = q) w w' := fun w q h => (taken_any q (l.drop 4) 4 w h (by rw [List.length_drop]; omega)).mono fun e w' h => ⟨h.1, h.2.2⟩
  have HTK := hid htk
  have hu2 : ∀ w q, TkS w q ⟨0, l.drop 2, 2⟩ → Calls Try.prog 75 #[.pointer (some ⟨q, 0, none⟩), .int .i64 1] w (Took w q ⟨0, l.drop 3, 3⟩ (.int .u64 (kb l : Int))) := fun w q h => by
    have := tku_ok h 1 (by decide) (by decide) (by rw [List.length_drop]; omega)
    rw [List.drop_drop] at this
    exact this
  have HU2 := hid hu2
  have hu3 : ∀ w q, TkS w q ⟨0, l.drop 3, 3⟩ → Calls Try.prog 75 #[.pointer (some ⟨q, 0, none⟩), .int .i64 1] w (Took w q ⟨0, l.drop 4, 4⟩ (.int .u64 (lbb l : Int))) := fun w q h => by
    have := tku_ok h 1 (by decide) (by decide) (by rw [List.length_drop]; omega)
    rw [List.drop_drop] at this
    exact this
  have HU3 := hid hu3
  have hrw : ∀ w q, TkS w q ⟨0, l, 0⟩ → Calls Try.prog 79 #[.pointer (some ⟨q, 0, none⟩), .int .i64 2] w fun e w' => ∃ v, e = .returned v ∧ TkS w' q ⟨0, l.drop 2, 2⟩ ∧ Fr (fun b => b = q) w w' := fun w q h => by
    have e := nx_ok (s := ⟨0, l, 0⟩) (k := 2) (f := false) rfl (fun h => by cases h) (by show 2 ≤ l.length; omega)
    have := traw_any h 2
    refine this.mono ?_
    rintro e' w' ⟨ao, cap, rfl, _, h2, h3, _⟩
    rw [show ((2 : Nat) : Int) = 2 from rfl] at e
    rw [e] at h2
    exact ⟨_, rfl, h2, h3⟩
  have HRW := hid hrw
  have hlv : ∀ n : Nat, n < 4294967296 → wrap64 (n : Int) = n := i64_small
  have hwk := hlv (kb l) (by omega)
  have hz0 : (w.alloc (.cells (hvl hz) 38)).heap[w.heap.size]? = some (.cells (hvl hz) 38 (0, 0)) := heap_alloc_new _ _
  have HZ := hid hz0
  have HB0 := hid (below_new w (.cells (hvl hz) 38))
  have hle : rdE l = if Bad l then 32 else 0 := rfl
  have hlh : rdH l = if Bad l then hz else hdl l := rfl
  have hbad : Bad l ↔ (1 < lbb l ∨ ¬ Rt (hdl l)) := Iff.rfl
  have HBAD := hid hbad
  have HLE := hid hle
  have HLH := hid hlh
  rw [hhd] at hR
  have HR := hid hR
  have HHD := hid hhd
  clear hfv hb hk hk' hpo hl htk hu2 hu3 hrw hlv hz0 hle hlh hbad hR hhd
  have hxe : (((lbb l : Nat) : Int) == 1) = decide (lbb l = 1) := by rw [Bool.eq_iff_iff]; simp; omega
  generalize decide (lbb l = 1) = bx at *
  generalize rdE l = ee at *
  generalize rdH l = hh at *
  generalize kb l = k at *
  generalize lbb l = x at *
  generalize hdl l = hd at *
  generalize fv (l.drop 4) = f at *
  go_enter Try.func72, Try.ntmps72
  go_wp2_with fail
  refine (HT.out _ (HBY.out.keep HB0.out)).mono ?_
  rintro e w1 ⟨q, rfl, hq, hs1, hb1⟩
  have hqw : w.heap.size < q := by
    have : (w.alloc (.cells (hvl hz) 38)).heap.size = w.heap.size + 1 := Deep.nblk_alloc _ _
    have hq' : (w.alloc (.cells (hvl hz) 38)).heap.size ≤ q := hq
    omega
  have HQ := hid hqw
  have HS1 := hid hs1
  have HZ1 := hid ((hb1.block w.heap.size (World.block_lt_of_cell? _ _ (row_cell HZ.out 0 rfl))).trans HZ.out)
  have HB1 := hid (HB0.out.trans (hb1.mono HB0.out.size))
  clear hq hs1 hb1 hqw HZ HB0
  go_wp2_with fail
  refine (HRW.out _ _ HS1.out).mono ?_
  rintro e w2 ⟨v, rfl, hs2, hf2⟩
  have HS2 := hid hs2
  have HF2 := hid hf2
  clear hs2 hf2
  go_wp2_with fail
  refine (HU2.out _ _ HS2.out).mono ?_
  rintro e w3 ⟨rfl, hs3, hf3⟩
  have HS3 := hid hs3
  have HF3 := hid (HF2.out.trans hf3)
  clear hs3 hf3 HF2 HS2
  go_wp2_with fail
  refine (HU3.out _ _ HS3.out).mono ?_
  rintro e w4 ⟨rfl, hs4, hf4⟩
  have HS4 := hid hs4
  have HF4 := hid (HF3.out.trans hf4)
  clear hs4 hf4 HF3 HS3
  go_wp2_with fail
  refine (HTK.out _ _ HS4.out).mono ?_
  rintro e w5 ⟨rfl, hf5⟩
  have HF5 := hid (HF4.out.trans hf5)
  clear hf5 HF4 HS4
  go_wp2_with fail
  refine (HFV.out _).mono ?_
  rintro e w6 ⟨rfl, hb6⟩
  have hz6 := ((HF5.out.trans (fr_below (q := q) hb6)).block w.heap.size (World.block_lt_of_cell? _ _ (row_cell HZ1.out 0 rfl)) (by have := HQ.out; omega)).trans HZ1.out
  have hb6' : Below w.heap.size w w6 := HB1.out.trans (by
    have h := HF5.out.trans (fr_below (q := q) hb6)
    exact ⟨h.os, h.tape, h.output, h.size, fun k hk => h.block k (Nat.lt_of_lt_of_le hk HB1.out.size) (by have := HQ.out; omega)⟩)
  have HZ6 := hid hz6
  have HB6 := hid hb6'
  clear hz6 hb6' hb6 HF5 HB1 HZ1
  have hs6 : w.heap.size < w6.heap.size := World.block_lt_of_cell? _ _ (row_cell HZ6.out 0 rfl)
  have HZ7 := hid fun o => (Deep.blk_alloc_lt w6 o w.heap.size hs6).trans HZ6.out
  have HB7 := hid fun o => HB6.out.trans ((below_new w6 o).mono HB6.out.size)
  have HS6 := hid fun o => (show w.heap.size < (w6.alloc o).heap.size from by rw [Deep.nblk_alloc]; omega)
  clear hs6 HZ6 HB6
  by_cases hx1 : 1 < x
  · have hb1 : Bad l := HBAD.out.2 (.inl hx1)
    have HE := hid (HLE.out.trans (if_pos hb1))
    have HH := hid (HLH.out.trans (if_pos hb1))
    have hx2 : (1 : Int) < (x : Int) := by omega
    clear hb1 hx1
    go_wp2_with (refine wpList_store_row rfl 38 _ _ rfl w.heap.size (hvl hz) rfl rfl 38 (hvl hz) (HZ7.out _) (hvl_size hz) rfl (hvl_one hz) ?_)
    refine bodyPost_ret (res_ct (p := 2) (u := 3) (ty := 38) (by kernel_rfl) _ _ w.heap.size 38 (hvl hz) (0, 0) _ rfl (setRow_heap _ _ _ _ _ _ (HZ7.out _)) Try.underlying38 rfl (hvl_size hz) rfl) rfl ?_
    rw [HPO.out, HE.out, HH.out]
    exact ⟨rfl, fr_rowBelow (HB7.out _) (Nat.le_refl _)⟩
  · have hx2 : ¬ (1 : Int) < (x : Int) := by omega
    go_wp2_with fail
    refine (HR.out _).mono ?_
    rintro e w8 ⟨rfl, hb8⟩
    have HZ8 := hid ((hb8.block _ (HS6.out _)).trans (HZ7.out _))
    have HB8 := hid ((HB7.out _).trans (hb8.mono (HB7.out _).size))
    have hbx := (Bx.new w6 ⟨k, f 0, f 1, f 2, f 3, bx, f 4, f 5⟩).below hb8 (Bx.new w6 ⟨k, f 0, f 1, f 2, f 3, bx, f 4, f 5⟩).lt
    rw [← HHD.out] at hbx
    have HBX := hid hbx
    clear hb8 hbx
    by_cases hr : Rt hd
    · have hb1 : ¬ Bad l := fun h => (HBAD.out.1 h).elim hx1 (fun h => h hr)
      have HE := hid (HLE.out.trans (if_neg hb1))
      have HH := hid (HLH.out.trans (if_neg hb1))
      rw [← HHD.out, decide_eq_true hr]
      clear hb1 hx1 hr
      go_wp2_with (first
        | (refine wpList_load_row rfl 38 _ rfl w6.heap.size rfl 38 (hvl hd) (0, 0) _ HBX.out.row Try.underlying38 rfl (hvl_size hd) ?_)
        | (refine wpList_store_row rfl 38 _ _ rfl w.heap.size (hvl hd) rfl rfl 38 (hvl hz) HZ8.out (hvl_size hd) rfl (hvl_one hd) ?_))
      refine bodyPost_ret (res_ct (p := 2) (u := 3) (ty := 38) (by kernel_rfl) _ _ w.heap.size 38 (hvl hd) (0, 0) _ rfl (setRow_heap _ _ _ _ _ _ HZ8.out) Try.underlying38 rfl (hvl_size hd) rfl) rfl ?_
      rw [HPO.out, HE.out, HH.out]
      exact ⟨rfl, fr_rowBelow HB8.out (Nat.le_refl _)⟩
    · have hb1 : Bad l := HBAD.out.2 (.inr hr)
      have HE := hid (HLE.out.trans (if_pos hb1))
      have HH := hid (HLH.out.trans (if_pos hb1))
      rw [← HHD.out, decide_eq_false hr]
      clear hb1 hx1 hr
      go_wp2_with (refine wpList_store_row rfl 38 _ _ rfl w.heap.size (hvl hz) rfl rfl 38 (hvl hz) HZ8.out (hvl_size hz) rfl (hvl_one hz) ?_)
      refine bodyPost_ret (res_ct (p := 2) (u := 3) (ty := 38) (by kernel_rfl) _ _ w.heap.size 38 (hvl hz) (0, 0) _ rfl (setRow_heap _ _ _ _ _ _ HZ8.out) Try.underlying38 rfl (hvl_size hz) rfl) rfl ?_
      rw [HPO.out, HE.out, HH.out]
      exact ⟨rfl, fr_rowBelow HB8.out (Nat.le_refl _)⟩
end Go.Proofs.Ytgcnbeigchppfaa.Head
