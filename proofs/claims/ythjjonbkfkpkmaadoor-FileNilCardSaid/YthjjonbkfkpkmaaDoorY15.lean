/- The sum at the end of bytes, of the program. Conditions: a table, bytes in memory. -/
import Derived.Test.YthjjonbkfkpkmaaDoorY14
namespace Go.Proofs.YthjjonbkfkpkmaaDoor.Head
open Go.RowKit Gen Fld
open Crc hiding hid

set_option maxRecDepth 100000 in
theorem take4_any {w : World} {a : Option Addr} {l : List Nat} {n c : Nat} (hn : l.length = n) (hb : Byts w a l) (hz : a = none → l.length = 0 ∧ c = 0) (hlen : n ≤ 549755813888) :
    Calls Tryd.prog 42 #[.slice a n c] w fun e w' => ∃ q, e = .returned (.pointer (some ⟨q, 0, none⟩)) ∧ w.heap.size ≤ q ∧ TkS w' q ⟨0, l, 0⟩ ∧ Below w.heap.size w w' := by
  subst hn; exact take_any hb hz hlen
set_option maxRecDepth 100000 in
theorem tku_ok {w : World} {q : Nat} {l : List Nat} {p : Nat} (h : TkS w q ⟨0, l, p⟩) (n : Nat) (h1 : 1 ≤ n) (h8 : n ≤ 8) (hl : n ≤ l.length) :
    Calls Tryd.prog 45 #[.pointer (some ⟨q, 0, none⟩), .int .i64 (n : Int)] w (Took w q ⟨0, l.drop n, p + n⟩ (.int .u64 (lev (l.take n) : Int))) := by
  have e := nx_ok (s := ⟨0, l, p⟩) (k := n) (f := true) rfl (fun _ => ⟨h1, h8⟩) hl
  have := tku_any h (n : Int)
  rw [e] at this
  exact this
set_option maxRecDepth 100000 in
theorem took_below {w w' W : World} {q : Nat} {s : TS} {v : Value} {e : Ending} (h : Took w q s v e w') (hw : Below W.heap.size W w) (hq : W.heap.size ≤ q) : Below W.heap.size W w' :=
  hw.trans ⟨h.2.2.os, h.2.2.tape, h.2.2.output, h.2.2.size, fun k hk => h.2.2.block k (Nat.lt_of_lt_of_le hk hw.size) (by omega)⟩
set_option maxRecDepth 100000 in
theorem lev4 {l : List Nat} (h : ∀ b ∈ l, b < 256) (hl : l.length = 4) : lev l < 4294967296 := by
  have := lev_lt l h
  rw [hl] at this
  exact this
set_option maxRecDepth 100000 in
theorem byts_at {w : World} {a : Option Addr} {l : List Nat} (h : Byts w a l) (hl : 0 < l.length) : ∃ b off, a = some ⟨b, off, none⟩ := by
  obtain ⟨b, off, e, _⟩ := h.at_ 0 l[0] (List.getElem?_eq_getElem hl)
  exact ⟨b, off, e⟩
set_option maxRecDepth 100000 in
theorem sumof_any {w : World} {g : Nat} (ht : Tab w g) {b off cap m : Nat} {l : List Nat} (hb : Byts w (some ⟨b, off, none⟩) l) (hm : l.length = m + 4) (hc : m + 4 ≤ cap) (hlen : m + 4 ≤ 549755813888) :
    Calls Tryd.prog 67 #[.pointer (some ⟨g, 0, none⟩), .slice (some ⟨b, off, none⟩) (m + 4) cap] w fun e w' => e = .returned (.tuple #[.int .u32 (cs (l.take m) : Int), .bool (decide (lev (l.drop m) = cs (l.take m)))]) ∧ Below w.heap.size w w' := by
  have hlt : (l.take m).length = m := by rw [List.length_take]; omega
  have hld : (l.drop m).length = 4 := by rw [List.length_drop]; omega
  have HS := hid (fun c => tsum_any (cap := c) ht (hb.take m) (by omega))
  rw [hlt] at HS
  have HTK := hid (fun c => take4_any (c := c) hld (hb.drop m) (fun e => by cases e) (by decide))
  have h4 := lev4 (l := l.drop m) (fun x hx => hb.lt x (List.mem_of_mem_drop hx)) hld
  have h5 := cs_lt (l := l.take m) (fun x hx => hb.lt x (List.mem_of_mem_take hx))
  have htake : (l.drop m).take 4 = l.drop m := List.take_of_length_le (by omega)
  have HTA := hid htake
  have HLD := hid hld
  clear hb hlt hld htake hm ht
  have u5 : IntKind.u64.wrap (cs (l.take m) : Int) = cs (l.take m) := u64_small _ h5
  have hdec : decide (lev (l.drop m) = cs (l.take m)) = (((lev (l.drop m) : Nat) : Int) == ((cs (l.take m) : Nat) : Int)) := by
    rw [Bool.eq_iff_iff]; simp
    omega
  have HD := hid hdec
  clear hdec
  generalize cs (l.take m) = v at *
  generalize l.drop m = r at *
  have hm1 : (m : Int) + 4 - 4 = m := by omega
  have hm2 : ((m + 4 : Nat) : Int) - 4 = m := by omega
  go_enter Tryd.func67, Tryd.ntmps67
  go_wp2_with fail
  refine (HS.out _).mono ?_
  rintro e w' ⟨rfl, rfl⟩
  have hcm : ¬ cap = m := by omega
  have hcm2 : m ≤ cap := by omega
  go_wp2_with fail
  refine (HTK.out _).mono ?_
  rintro e w1 ⟨q, rfl, hq, hs, hb1⟩
  have HU := hid (tku_ok hs 4 (by decide) (by decide) (by rw [HLD.out]; decide))
  rw [HTA.out] at HU
  have HB1 := hid hb1
  clear hs hb1
  go_wp2_with fail
  refine HU.out.mono ?_
  rintro e w2 hk
  have hb2 := took_below hk HB1.out hq
  obtain ⟨rfl, -, -⟩ := hk
  have HB2 := hid hb2
  clear hb2
  go_wp2_with fail
  go_ret2
  rw [HD.out]
  exact ⟨rfl, HB2.out⟩
end Go.Proofs.YthjjonbkfkpkmaaDoor.Head
namespace Go.Proofs.YthjjonbkfkpkmaaDoor.Head
open Go.RowKit Gen Fld
open Crc hiding hid

set_option maxRecDepth 100000 in
theorem Tryd.size24 : (Tryd.prog.info? 83).map (·.size) = some 8 := by kernel_rfl
def hz : Hh := ⟨0, 0, 0, 0, 0, false, 0, 0⟩
set_option maxRecDepth 100000 in
theorem i64_small (n : Nat) (h : n < 4294967296) : wrap64 (n : Int) = n := by unfold wrap64; omega
/-- A head without a kind. -/
def hdf (f : Nat → Nat) : Hh := ⟨0, f 0, f 1, f 2, f 3, false, f 4, f 5⟩
set_option maxRecDepth 100000 in
theorem headof_any (f : Nat → Nat) (hf : ∀ i, f i < 4294967296) (w : World) :
    Calls Tryd.prog 98 #[.agg #[.int .u64 (f 0 : Int), .int .u64 (f 1 : Int), .int .u64 (f 2 : Int), .int .u64 (f 3 : Int), .int .u64 (f 4 : Int), .int .u64 (f 5 : Int)]] w fun e w' => e = .returned (hv (hdf f)) ∧ Below w.heap.size w w' := by
  have f0 := hf 0; have f1 := hf 1; have f2 := hf 2; have f3 := hf 3; have f4 := hf 4; have f5 := hf 5
  change Calls Tryd.prog 98 #[.agg #[.int .u64 (f 0 : Int), .int .u64 (f 1 : Int), .int .u64 (f 2 : Int), .int .u64 (f 3 : Int), .int .u64 (f 4 : Int), .int .u64 (f 5 : Int)]] w fun e w' => e = .returned (.agg #[.int .i64 0, .int .i64 (f 0 : Int), .int .i64 (f 1 : Int), .int .i64 (f 2 : Int), .int .i64 (f 3 : Int), .bool false, .int .u32 (f 4 : Int), .int .i64 (f 5 : Int)]) ∧ Below w.heap.size w w'
  generalize f 0 = a0 at *
  generalize f 1 = a1 at *
  generalize f 2 = a2 at *
  generalize f 3 = a3 at *
  generalize f 4 = a4 at *
  generalize f 5 = a5 at *
  have w0 := i64_small a0 f0
  have w1 := i64_small a1 f1
  have w2 := i64_small a2 f2
  have w3 := i64_small a3 f3
  have w5 := i64_small a5 f5
  have w4 : IntKind.u32.wrap (a4 : Int) = a4 := by rw [wrap_u32n]; omega
  clear hf f0 f1 f2 f3 f4 f5
  go_enter Tryd.func98, Tryd.ntmps98
  go_wp2_with fail
  refine bodyPost_ret (results_cell_row (p := 2) (ty := 83) (by kernel_rfl) _ _ (w.heap.size + 1) 83 _ (0, 0) _ rfl (alloc2_at _ _ _) Tryd.underlying83 rfl Tryd.size24) rfl ?_
  exact ⟨rfl, (below_new w _).alloc (below_new w _).size _⟩
end Go.Proofs.YthjjonbkfkpkmaaDoor.Head
namespace Go.Proofs.YthjjonbkfkpkmaaDoor.Head
open Go.RowKit Gen Fld
open Crc hiding hid

/-- The i-th field of bytes. -/
def fv (l : List Nat) (i : Nat) : Nat := lev ((l.drop (4 * i)).take 4)
set_option maxRecDepth 100000 in
theorem fv_lt {l : List Nat} (h : ∀ b ∈ l, b < 256) (i : Nat) : fv l i < 4294967296 := by
  have h1 : ∀ b ∈ (l.drop (4 * i)).take 4, b < 256 := fun b hb => h b (List.mem_of_mem_drop (List.mem_of_mem_take hb))
  have h2 := lev_lt _ h1
  have h3 : ((l.drop (4 * i)).take 4).length ≤ 4 := by rw [List.length_take]; omega
  have h4 : 2 ^ (8 * ((l.drop (4 * i)).take 4).length) ≤ 2 ^ 32 := Nat.pow_le_pow_right (by decide) (by omega)
  unfold fv
  have : (2 : Nat) ^ 32 = 4294967296 := by decide
  omega
/-- The first j fields, and noughts behind them. -/
def fvs (f : Nat → Nat) (j : Nat) : Array Value := #[.int .u64 ((if 0 < j then f 0 else 0 : Nat) : Int), .int .u64 ((if 1 < j then f 1 else 0 : Nat) : Int), .int .u64 ((if 2 < j then f 2 else 0 : Nat) : Int), .int .u64 ((if 3 < j then f 3 else 0 : Nat) : Int), .int .u64 ((if 4 < j then f 4 else 0 : Nat) : Int), .int .u64 ((if 5 < j then f 5 else 0 : Nat) : Int)]
def fvv (f : Nat → Nat) : Array Value := #[.int .u64 (f 0 : Int), .int .u64 (f 1 : Int), .int .u64 (f 2 : Int), .int .u64 (f 3 : Int), .int .u64 (f 4 : Int), .int .u64 (f 5 : Int)]
set_option maxRecDepth 100000 in
theorem fvs_six (f : Nat → Nat) : fvs f 6 = fvv f := rfl
def z6 : Array Value := #[.int .u64 0, .int .u64 0, .int .u64 0, .int .u64 0, .int .u64 0, .int .u64 0]
set_option maxRecDepth 100000 in
theorem fvs_zero (f : Nat → Nat) : fvs f 0 = z6 := rfl
set_option maxRecDepth 100000 in
theorem alloc2_old (w : World) (o1 o2 : Obj) : ((w.alloc o1).alloc o2).heap[w.heap.size]? = some o1 := by
  rw [Deep.blk_alloc_lt _ _ _ (by rw [Deep.nblk_alloc]; omega)]
  exact heap_alloc_new _ _
set_option maxRecDepth 100000 in
theorem row_cell {w : World} {g : Nat} {t : TypeId} {c : Array Value} (h : w.heap[g]? = some (.cells c t (0, 0))) (i : Nat) {v : Value} (hv : c[i]? = some v) : w.cell? ⟨g, i, none⟩ = some v := by
  unfold World.cell?
  rw [h]
  exact hv
set_option maxRecDepth 100000 in
theorem row_frozen {w : World} {g : Nat} {t : TypeId} {c : Array Value} (h : w.heap[g]? = some (.cells c t (0, 0))) (i : Nat) : w.frozen? ⟨g, i, none⟩ = false := by
  have hr : w.rowIs g t c.size (fun i => c.getD i undef) := ⟨c, h, rfl, fun i hi => by simp [hi]⟩
  exact hr.frozen i
set_option maxRecDepth 100000 in
theorem fvv_one (f : Nat → Nat) : (fvv f).all (·.oneCell') = true := by simp [fvv, Value.oneCell']
set_option maxRecDepth 100000 in
theorem fvv_size (f : Nat → Nat) : (Tryd.prog.info? 157).map (·.size) = some (fvv f).size := Tryd.size58
set_option maxRecDepth 100000 in
theorem fr_setNew {X : Nat → Prop} {w w' : World} (h : Fr X w w') {p : Addr} (hp : w.heap.size ≤ p.block) {u : Value} : Fr X w (w'.setCell p u) :=
  ⟨h.os, h.tape, h.output, by simpa using h.size, fun k hk hx => (heap_setCell_other _ _ _ _ (by omega)).trans (h.block k hk hx)⟩
set_option maxRecDepth 100000 in
theorem fr_setRowNew {X : Nat → Prop} {w w' : World} (h : Fr X w w') {g : Nat} (hp : w.heap.size ≤ g) {c : Array Value} : Fr X w (w'.setRow g c) :=
  ⟨h.os, h.tape, h.output, by simpa using h.size, fun k hk hx => (setRow_other _ _ _ _ (by omega)).trans (h.block k hk hx)⟩
set_option maxRecDepth 100000 in
theorem tks_other {w w' : World} {q : Nat} {s : TS} (h : TkS w q s) {g : Nat} (hf : Fr (fun b => b = g) w w') (hg : q < g) : TkS w' q s := by
  obtain ⟨a, cap, ht, h1, h2⟩ := h
  exact ⟨a, cap, ht.keep hf (by omega) (fun b off e hx => by obtain ⟨b', off', e1, e2, e3⟩ := ht.spot _ e; cases e1; omega), h1, h2⟩
set_option maxRecDepth 100000 in
theorem fr_setRow (w : World) (g : Nat) (cs : Array Value) : Fr (fun b => b = g) w (w.setRow g cs) :=
  ⟨rfl, rfl, rfl, by rw [size_setRow]; exact Nat.le_refl _, fun k _ hk => setRow_other w g k cs hk⟩
def TakP (w : World) (q : Nat) (l : List Nat) (p : Nat) (e : Ending) (w' : World) : Prop := e = .returned (.agg (fvv (fv l))) ∧ TkS w' q ⟨0, l.drop 24, p + 24⟩ ∧ Fr (fun b => b = q) w w'
set_option maxRecDepth 100000 in
set_option maxHeartbeats 1000000 in
theorem taken_any (q : Nat) (l : List Nat) (p : Nat) (w : World) (h : TkS w q ⟨0, l, p⟩) (hl : 24 ≤ l.length) :
    Calls Tryd.prog 97 #[.func (.func 45) #[.pointer (some ⟨q, 0, none⟩)] #[]] w (TakP w q l p) := by
  have hq := h.lt
  have h0 : TkS ((w.alloc (.cells z6 157)).alloc (.cells z6 157)) q ⟨0, l, p⟩ := h.below ((below_new w _).alloc (below_new w _).size _)
  have hb0 : Fr (fun b => b = q) w ((w.alloc (.cells z6 157)).alloc (.cells z6 157)) := fr_below ((below_new w _).alloc (below_new w _).size _)
  have r0 : ((w.alloc (.cells z6 157)).alloc (.cells z6 157)).heap[w.heap.size]? = some (.cells z6 157 (0, 0)) := alloc2_old _ _ _
  have r1 : ((w.alloc (.cells z6 157)).alloc (.cells z6 157)).heap[w.heap.size + 1]? = some (.cells z6 157 (0, 0)) := alloc2_at _ _ _
  have hstep : ∀ j, j ≤ 5 → ∀ wr, TkS wr q ⟨0, l.drop (4 * j), p + 4 * j⟩ → Calls Tryd.prog 45 #[.pointer (some ⟨q, 0, none⟩), .int .i64 4] wr (Took wr q ⟨0, l.drop (4 * (j + 1)), p + 4 * (j + 1)⟩ (.int .u64 (fv l j : Int))) := by
    intro j hj wr hk
    have := tku_ok hk 4 (by decide) (by decide) (by rw [List.length_drop]; omega)
    rw [List.drop_drop, show 4 * j + 4 = 4 * (j + 1) from by omega, show p + 4 * j + 4 = p + 4 * (j + 1) from by omega] at this
    exact this
  have HST := hid hstep
  have HE0 := hid (And.intro h0 (And.intro hb0 (And.intro r0 r1)))
  have hpo : ∀ e w', TakP w q l p e w' = (e = .returned (.agg (fvv (fv l))) ∧ TkS w' q ⟨0, l.drop 24, p + 24⟩ ∧ Fr (fun b => b = q) w w') := fun _ _ => rfl
  have HPO := hid hpo
  clear hpo hstep h h0 hb0 r0 r1 hl
  generalize fv l = f at *
  go_enter Tryd.func97, Tryd.ntmps97
  go_wp2_with fail
  go_loopg [4, 5] 6 (fun gg pl i wr => ∃ j : Nat, j ≤ 6 ∧ gg = 6 - j ∧ i = .int .i64 j ∧ TkS wr q ⟨0, l.drop (4 * j), p + 4 * j⟩ ∧ Fr (fun b => b = q) w wr ∧ wr.heap[w.heap.size]? = some (.cells z6 157 (0, 0)) ∧ wr.heap[w.heap.size + 1]? = some (.cells (fvs f j) 157 (0, 0)))
  case atStart => exact ⟨0, by decide, rfl, rfl, HE0.out.1, HE0.out.2.1, HE0.out.2.2.1, HE0.out.2.2.2⟩
  case round =>
    obtain ⟨j, hj, hg, rfl, hk, hf, hr0, hr1⟩ := hrel
    have HG := hid hg
    have HK := hid hk
    have HF := hid hf
    have HR0 := hid hr0
    have HR1 := hid hr1
    clear hg hk hf hr0 hr1 HE0
    have hx : j = 0 ∨ j = 1 ∨ j = 2 ∨ j = 3 ∨ j = 4 ∨ j = 5 ∨ j = 6 := by omega
    rcases hx with rfl | rfl | rfl | rfl | rfl | rfl | rfl
    · go_wp2_with fail
      refine (HST.out 0 (by decide) _ HK.out).mono ?_
      rintro e w1 ⟨rfl, hk1, hf1⟩
      have hrr := (hf1.block (w.heap.size + 1) (World.block_lt_of_cell? _ _ (row_cell HR1.out 0 rfl)) (by omega)).trans HR1.out
      have hrz := (hf1.block w.heap.size (World.block_lt_of_cell? _ _ (row_cell HR0.out 0 rfl)) (by omega)).trans HR0.out
      have hcc := row_cell hrr 0 rfl
      have hcf := row_frozen hrr 0
      have HRR := hid hrr
      have HRZ := hid hrz
      have HK1 := hid hk1
      have HF1 := hid (HF.out.trans hf1)
      clear hrr hrz hk1 hf1 HK HF HR0 HR1
      go_wp2_with fail
      go_roundg 5
      case measure => rw [HG.out]; omega
      case rel =>
        refine ⟨1, by decide, rfl, rfl, tks_other HK1.out (frq 0 _) (by omega), ?_, (heap_setCell_other _ _ _ _ (by simp)).trans HRZ.out, ?_⟩
        · exact fr_setNew HF1.out (Nat.le_add_right _ _)
        · rw [heap_setCell_same _ _ 0 _ _ _ HRR.out]; rfl
    · go_wp2_with fail
      refine (HST.out 1 (by decide) _ HK.out).mono ?_
      rintro e w1 ⟨rfl, hk1, hf1⟩
      have hrr := (hf1.block (w.heap.size + 1) (World.block_lt_of_cell? _ _ (row_cell HR1.out 0 rfl)) (by omega)).trans HR1.out
      have hrz := (hf1.block w.heap.size (World.block_lt_of_cell? _ _ (row_cell HR0.out 0 rfl)) (by omega)).trans HR0.out
      have hcc := row_cell hrr 1 rfl
      have hcf := row_frozen hrr 1
      have HRR := hid hrr
      have HRZ := hid hrz
      have HK1 := hid hk1
      have HF1 := hid (HF.out.trans hf1)
      clear hrr hrz hk1 hf1 HK HF HR0 HR1
      go_wp2_with fail
      go_roundg 4
      case measure => rw [HG.out]; omega
      case rel =>
        refine ⟨2, by decide, rfl, rfl, tks_other HK1.out (frq 1 _) (by omega), ?_, (heap_setCell_other _ _ _ _ (by simp)).trans HRZ.out, ?_⟩
        · exact fr_setNew HF1.out (Nat.le_add_right _ _)
        · rw [heap_setCell_same _ _ 1 _ _ _ HRR.out]; rfl
    · go_wp2_with fail
      refine (HST.out 2 (by decide) _ HK.out).mono ?_
      rintro e w1 ⟨rfl, hk1, hf1⟩
      have hrr := (hf1.block (w.heap.size + 1) (World.block_lt_of_cell? _ _ (row_cell HR1.out 0 rfl)) (by omega)).trans HR1.out
      have hrz := (hf1.block w.heap.size (World.block_lt_of_cell? _ _ (row_cell HR0.out 0 rfl)) (by omega)).trans HR0.out
      have hcc := row_cell hrr 2 rfl
      have hcf := row_frozen hrr 2
      have HRR := hid hrr
      have HRZ := hid hrz
      have HK1 := hid hk1
      have HF1 := hid (HF.out.trans hf1)
      clear hrr hrz hk1 hf1 HK HF HR0 HR1
      go_wp2_with fail
      go_roundg 3
      case measure => rw [HG.out]; omega
      case rel =>
        refine ⟨3, by decide, rfl, rfl, tks_other HK1.out (frq 2 _) (by omega), ?_, (heap_setCell_other _ _ _ _ (by simp)).trans HRZ.out, ?_⟩
        · exact fr_setNew HF1.out (Nat.le_add_right _ _)
        · rw [heap_setCell_same _ _ 2 _ _ _ HRR.out]; rfl
    · go_wp2_with fail
      refine (HST.out 3 (by decide) _ HK.out).mono ?_
      rintro e w1 ⟨rfl, hk1, hf1⟩
      have hrr := (hf1.block (w.heap.size + 1) (World.block_lt_of_cell? _ _ (row_cell HR1.out 0 rfl)) (by omega)).trans HR1.out
      have hrz := (hf1.block w.heap.size (World.block_lt_of_cell? _ _ (row_cell HR0.out 0 rfl)) (by omega)).trans HR0.out
      have hcc := row_cell hrr 3 rfl
      have hcf := row_frozen hrr 3
      have HRR := hid hrr
      have HRZ := hid hrz
      have HK1 := hid hk1
      have HF1 := hid (HF.out.trans hf1)
      clear hrr hrz hk1 hf1 HK HF HR0 HR1
      go_wp2_with fail
      go_roundg 2
      case measure => rw [HG.out]; omega
      case rel =>
        refine ⟨4, by decide, rfl, rfl, tks_other HK1.out (frq 3 _) (by omega), ?_, (heap_setCell_other _ _ _ _ (by simp)).trans HRZ.out, ?_⟩
        · exact fr_setNew HF1.out (Nat.le_add_right _ _)
        · rw [heap_setCell_same _ _ 3 _ _ _ HRR.out]; rfl
    · go_wp2_with fail
      refine (HST.out 4 (by decide) _ HK.out).mono ?_
      rintro e w1 ⟨rfl, hk1, hf1⟩
      have hrr := (hf1.block (w.heap.size + 1) (World.block_lt_of_cell? _ _ (row_cell HR1.out 0 rfl)) (by omega)).trans HR1.out
      have hrz := (hf1.block w.heap.size (World.block_lt_of_cell? _ _ (row_cell HR0.out 0 rfl)) (by omega)).trans HR0.out
      have hcc := row_cell hrr 4 rfl
      have hcf := row_frozen hrr 4
      have HRR := hid hrr
      have HRZ := hid hrz
      have HK1 := hid hk1
      have HF1 := hid (HF.out.trans hf1)
      clear hrr hrz hk1 hf1 HK HF HR0 HR1
      go_wp2_with fail
      go_roundg 1
      case measure => rw [HG.out]; omega
      case rel =>
        refine ⟨5, by decide, rfl, rfl, tks_other HK1.out (frq 4 _) (by omega), ?_, (heap_setCell_other _ _ _ _ (by simp)).trans HRZ.out, ?_⟩
        · exact fr_setNew HF1.out (Nat.le_add_right _ _)
        · rw [heap_setCell_same _ _ 4 _ _ _ HRR.out]; rfl
    · go_wp2_with fail
      refine (HST.out 5 (by decide) _ HK.out).mono ?_
      rintro e w1 ⟨rfl, hk1, hf1⟩
      have hrr := (hf1.block (w.heap.size + 1) (World.block_lt_of_cell? _ _ (row_cell HR1.out 0 rfl)) (by omega)).trans HR1.out
      have hrz := (hf1.block w.heap.size (World.block_lt_of_cell? _ _ (row_cell HR0.out 0 rfl)) (by omega)).trans HR0.out
      have hcc := row_cell hrr 5 rfl
      have hcf := row_frozen hrr 5
      have HRR := hid hrr
      have HRZ := hid hrz
      have HK1 := hid hk1
      have HF1 := hid (HF.out.trans hf1)
      clear hrr hrz hk1 hf1 HK HF HR0 HR1
      go_wp2_with fail
      go_roundg 0
      case measure => rw [HG.out]; omega
      case rel =>
        refine ⟨6, by decide, rfl, rfl, tks_other HK1.out (frq 5 _) (by omega), ?_, (heap_setCell_other _ _ _ _ (by simp)).trans HRZ.out, ?_⟩
        · exact fr_setNew HF1.out (Nat.le_add_right _ _)
        · rw [heap_setCell_same _ _ 5 _ _ _ HRR.out]; rfl
    · go_wp2_with (first
        | (refine wpList_load_row rfl 157 _ rfl (w.heap.size + 1) rfl 157 (fvv f) (0, 0) _ HR1.out Tryd.underlying157 rfl (fvv_size f) ?_)
        | (refine wpList_store_row rfl 157 _ _ rfl w.heap.size (fvv f) rfl rfl 157 z6 HR0.out (fvv_size f) rfl (fvv_one f) ?_))
      refine bodyPost_ret (results_cell_row (p := 2) (ty := 157) (by kernel_rfl) _ _ w.heap.size 157 (fvv f) (0, 0) _ rfl (setRow_heap _ _ _ _ _ _ HR0.out) Tryd.underlying157 rfl Tryd.size58) rfl ?_
      rw [HPO.out]
      exact ⟨rfl, tks_other HK.out (fr_setRow _ _ _) (by omega), fr_setRowNew HF.out (Nat.le_refl _)⟩
end Go.Proofs.YthjjonbkfkpkmaaDoor.Head
namespace Go.Proofs.YthjjonbkfkpkmaaDoor.Head
open Go.RowKit Gen Fld
open Crc hiding hid

set_option maxRecDepth 100000 in
theorem res_ct {P : Program} {fn : Func} {p u : Tmp} {ty : TypeId} (h : fn.results = #[.cell p ty, .tmp u]) (tmps : Array Value) (w : World) (g : Nat) (t : TypeId) (cs : Array Value) (fr : Nat × Nat) (d : TypeDesc)
    (hp : tmps.getD p undef = .pointer (some ⟨g, 0, none⟩)) (hg : w.heap[g]? = some (.cells cs t fr))
    (hu : P.underlying ty = some d) (hd : (match d with | .struct _ | .array _ _ => true | _ => false) = true) (hi : (P.info? ty).map (·.size) = some cs.size) {v : Value} (hv : tmps.getD u undef = v) :
    (results fn tmps).run P w = .ok (.tuple #[.agg cs, v]) w := by
  have hp' : tmps[p]?.getD undef = .pointer (some ⟨g, 0, none⟩) := by simpa using hp
  have hv' : tmps[u]?.getD undef = v := by simpa using hv
  simp only [results, h]
  simp [Result.andThen, hp', hv', asAddr, run_loadVar_row w g t ty cs fr d hg hu hd hi]
/-- The third and the fourth byte. -/
def kb (l : List Nat) : Nat := lev ((l.drop 2).take 1)
def lbb (l : List Nat) : Nat := lev ((l.drop 3).take 1)
/-- The head that 32 bytes say. -/
def hdl (l : List Nat) : Hh := ⟨kb l, fv (l.drop 4) 0, fv (l.drop 4) 1, fv (l.drop 4) 2, fv (l.drop 4) 3, decide (lbb l = 1), fv (l.drop 4) 4, fv (l.drop 4) 5⟩
def Bad (l : List Nat) : Prop := 1 < lbb l ∨ ¬ Rt (hdl l)
instance (l : List Nat) : Decidable (Bad l) := by unfold Bad; exact inferInstance
def rdE (l : List Nat) : Int := if Bad l then 32 else 0
def rdH (l : List Nat) : Hh := if Bad l then hz else hdl l
def HeadP (w : World) (h : Hh) (x : Int) (e : Ending) (w' : World) : Prop := e = .returned (.tuple #[hv h, .int .i64 x]) ∧ Below w.heap.size w w'
set_option maxRecDepth 100000 in
theorem hvl_size (h : Hh) : (Tryd.prog.info? 83).map (·.size) = some (hvl h).size := Tryd.size24
set_option maxRecDepth 100000 in
theorem hvl_one (h : Hh) : (hvl h).all (·.oneCell') = true := by simp [hvl, Value.oneCell']
set_option maxRecDepth 100000 in
theorem byte_lev {l : List Nat} (h : ∀ b ∈ l, b < 256) (n : Nat) : lev ((l.drop n).take 1) < 256 := by
  have h1 := lev_lt ((l.drop n).take 1) (fun b hb => h b (List.mem_of_mem_drop (List.mem_of_mem_take hb)))
  have h2 : ((l.drop n).take 1).length ≤ 1 := by rw [List.length_take]; omega
  have h3 : 2 ^ (8 * ((l.drop n).take 1).length) ≤ 2 ^ 8 := Nat.pow_le_pow_right (by decide) (by omega)
  have : (2 : Nat) ^ 8 = 256 := by decide
  omega
set_option maxRecDepth 100000 in
theorem fr_rowBelow {B g : Nat} {w w' : World} {cs : Array Value} (h : Below B w w') (hg : B ≤ g) : Below B w (w'.setRow g cs) :=
  ⟨h.os, h.tape, h.output, by rw [size_setRow]; exact h.size, fun k hk => (setRow_other w' g k cs (by omega)).trans (h.block k hk)⟩
set_option maxRecDepth 100000 in
set_option maxHeartbeats 1000000 in
theorem read_any {w : World} {a : Option Addr} {l : List Nat} {c : Nat} (hb : Byts w a l) (hl : l.length = 32) :
    Calls Tryd.prog 89 #[.slice a 32 c] w (HeadP w (rdH l) (rdE l)) := by
  have HT := hid (fun (w' : World) (hb' : Byts w' a l) => take4_any (c := c) hl hb' (by rintro rfl; have := hb'.none_len rfl; rw [this] at hl; cases hl) (by decide))
  have HBY := hid hb
  have hk := byte_lev hb.lt 2
  have hk' : kb l < 256 := hk
  have hfv : ∀ w, Calls Tryd.prog 98 #[.agg #[.int .u64 (fv (l.drop 4) 0 : Int), .int .u64 (fv (l.drop 4) 1 : Int), .int .u64 (fv (l.drop 4) 2 : Int), .int .u64 (fv (l.drop 4) 3 : Int), .int .u64 (fv (l.drop 4) 4 : Int), .int .u64 (fv (l.drop 4) 5 : Int)]] w fun e w' => e = .returned (.agg #[.int .i64 0, .int .i64 (fv (l.drop 4) 0 : Int), .int .i64 (fv (l.drop 4) 1 : Int), .int .i64 (fv (l.drop 4) 2 : Int), .int .i64 (fv (l.drop 4) 3 : Int), .bool false, .int .u32 (fv (l.drop 4) 4 : Int), .int .i64 (fv (l.drop 4) 5 : Int)]) ∧ Below w.heap.size w w' := fun w => headof_any (fv (l.drop 4)) (fv_lt (fun b h => hb.lt b (List.mem_of_mem_drop h))) w
  have HFV := hid hfv
  have hR := fun w => right_any (hdl l) w
  have hpo : ∀ e w', HeadP w (rdH l) (rdE l) e w' = (e = .returned (.tuple #[hv (rdH l), .int .i64 (rdE l)]) ∧ Below w.heap.size w w') := fun _ _ => rfl
  have HPO := hid hpo
  have HLN := hid hl
  have hhd : hdl l = ⟨kb l, fv (l.drop 4) 0, fv (l.drop 4) 1, fv (l.drop 4) 2, fv (l.drop 4) 3, decide (lbb l = 1), fv (l.drop 4) 4, fv (l.drop 4) 5⟩ := rfl
  have htk : ∀ w q, TkS w q ⟨0, l.drop 4, 4⟩ → Calls Tryd.prog 97 #[.func (.func 45) #[.pointer (some ⟨q, 0, none⟩)] #[]] w fun e w' => e = .returned (.agg #[.int .u64 (fv (l.drop 4) 0 : Int), .int .u64 (fv (l.drop 4) 1 : Int), .int .u64 (fv (l.drop 4) 2 : Int), .int .u64 (fv (l.drop 4) 3 : Int), .int .u64 (fv (l.drop 4) 4 : Int), .int .u64 (fv (l.drop 4) 5 : Int)]) ∧ Fr (fun b => b = q) w w' := fun w q h => (taken_any q (l.drop 4) 4 w h (by rw [List.length_drop]; omega)).mono fun e w' h => ⟨h.1, h.2.2⟩
  have HTK := hid htk
  have hu2 : ∀ w q, TkS w q ⟨0, l.drop 2, 2⟩ → Calls Tryd.prog 45 #[.pointer (some ⟨q, 0, none⟩), .int .i64 1] w (Took w q ⟨0, l.drop 3, 3⟩ (.int .u64 (kb l : Int))) := fun w q h => by
    have := tku_ok h 1 (by decide) (by decide) (by rw [List.length_drop]; omega)
    rw [List.drop_drop] at this
    exact this
  have HU2 := hid hu2
  have hu3 : ∀ w q, TkS w q ⟨0, l.drop 3, 3⟩ → Calls Tryd.prog 45 #[.pointer (some ⟨q, 0, none⟩), .int .i64 1] w (Took w q ⟨0, l.drop 4, 4⟩ (.int .u64 (lbb l : Int))) := fun w q h => by
    have := tku_ok h 1 (by decide) (by decide) (by rw [List.length_drop]; omega)
    rw [List.drop_drop] at this
    exact this
  have HU3 := hid hu3
  have hrw : ∀ w q, TkS w q ⟨0, l, 0⟩ → Calls Tryd.prog 73 #[.pointer (some ⟨q, 0, none⟩), .int .i64 2] w fun e w' => ∃ v, e = .returned v ∧ TkS w' q ⟨0, l.drop 2, 2⟩ ∧ Fr (fun b => b = q) w w' := fun w q h => by
    have e := nx_ok (s := ⟨0, l, 0⟩) (k := 2) (f := false) rfl (fun h => by cases h) (by show 2 ≤ l.length; omega)
    have := traw_any h 2
    refine this.mono ?_
    rintro e' w' ⟨ao, cap, rfl, _, h2, h3, _⟩
    rw [show ((2 : Nat) : Int) = 2 from rfl] at e
    rw [e] at h2
    exact ⟨_, rfl, h2, h3⟩
  have HRW := hid hrw
  have hlv : ∀ n : Nat, n < 4294967296 → wrap64 (n : Int) = n := i64_small
  have hwk := hlv (kb l) (by omega)
  have hz0 : (w.alloc (.cells (hvl hz) 83)).heap[w.heap.size]? = some (.cells (hvl hz) 83 (0, 0)) := heap_alloc_new _ _
  have HZ := hid hz0
  have HB0 := hid (below_new w (.cells (hvl hz) 83))
  have hle : rdE l = if Bad l then 32 else 0 := rfl
  have hlh : rdH l = if Bad l then hz else hdl l := rfl
  have hbad : Bad l ↔ (1 < lbb l ∨ ¬ Rt (hdl l)) := Iff.rfl
  have HBAD := hid hbad
  have HLE := hid hle
  have HLH := hid hlh
  rw [hhd] at hR
  have HR := hid hR
  have HHD := hid hhd
  clear hfv hb hk hk' hpo hl htk hu2 hu3 hrw hlv hz0 hle hlh hbad hR hhd
  have hxe : (((lbb l : Nat) : Int) == 1) = decide (lbb l = 1) := by rw [Bool.eq_iff_iff]; simp; omega
  generalize decide (lbb l = 1) = bx at *
  generalize rdE l = ee at *
  generalize rdH l = hh at *
  generalize kb l = k at *
  generalize lbb l = x at *
  generalize hdl l = hd at *
  generalize fv (l.drop 4) = f at *
  go_enter Tryd.func89, Tryd.ntmps89
  go_wp2_with fail
  refine (HT.out _ (HBY.out.keep HB0.out)).mono ?_
  rintro e w1 ⟨q, rfl, hq, hs1, hb1⟩
  have hqw : w.heap.size < q := by
    have : (w.alloc (.cells (hvl hz) 83)).heap.size = w.heap.size + 1 := Deep.nblk_alloc _ _
    have hq' : (w.alloc (.cells (hvl hz) 83)).heap.size ≤ q := hq
    omega
  have HQ := hid hqw
  have HS1 := hid hs1
  have HZ1 := hid ((hb1.block w.heap.size (World.block_lt_of_cell? _ _ (row_cell HZ.out 0 rfl))).trans HZ.out)
  have HB1 := hid (HB0.out.trans (hb1.mono HB0.out.size))
  clear hq hs1 hb1 hqw HZ HB0
  go_wp2_with fail
  refine (HRW.out _ _ HS1.out).mono ?_
  rintro e w2 ⟨v, rfl, hs2, hf2⟩
  have HS2 := hid hs2
  have HF2 := hid hf2
  clear hs2 hf2
  go_wp2_with fail
  refine (HU2.out _ _ HS2.out).mono ?_
  rintro e w3 ⟨rfl, hs3, hf3⟩
  have HS3 := hid hs3
  have HF3 := hid (HF2.out.trans hf3)
  clear hs3 hf3 HF2 HS2
  go_wp2_with fail
  refine (HU3.out _ _ HS3.out).mono ?_
  rintro e w4 ⟨rfl, hs4, hf4⟩
  have HS4 := hid hs4
  have HF4 := hid (HF3.out.trans hf4)
  clear hs4 hf4 HF3 HS3
  go_wp2_with fail
  refine (HTK.out _ _ HS4.out).mono ?_
  rintro e w5 ⟨rfl, hf5⟩
  have HF5 := hid (HF4.out.trans hf5)
  clear hf5 HF4 HS4
  go_wp2_with fail
  refine (HFV.out _).mono ?_
  rintro e w6 ⟨rfl, hb6⟩
  have hz6 := ((HF5.out.trans (fr_below (q := q) hb6)).block w.heap.size (World.block_lt_of_cell? _ _ (row_cell HZ1.out 0 rfl)) (by have := HQ.out; omega)).trans HZ1.out
  have hb6' : Below w.heap.size w w6 := HB1.out.trans (by
    have h := HF5.out.trans (fr_below (q := q) hb6)
    exact ⟨h.os, h.tape, h.output, h.size, fun k hk => h.block k (Nat.lt_of_lt_of_le hk HB1.out.size) (by have := HQ.out; omega)⟩)
  have HZ6 := hid hz6
  have HB6 := hid hb6'
  clear hz6 hb6' hb6 HF5 HB1 HZ1
  have hs6 : w.heap.size < w6.heap.size := World.block_lt_of_cell? _ _ (row_cell HZ6.out 0 rfl)
  have HZ7 := hid fun o => (Deep.blk_alloc_lt w6 o w.heap.size hs6).trans HZ6.out
  have HB7 := hid fun o => HB6.out.trans ((below_new w6 o).mono HB6.out.size)
  have HS6 := hid fun o => (show w.heap.size < (w6.alloc o).heap.size from by rw [Deep.nblk_alloc]; omega)
  clear hs6 HZ6 HB6
  by_cases hx1 : 1 < x
  · have hb1 : Bad l := HBAD.out.2 (.inl hx1)
    have HE := hid (HLE.out.trans (if_pos hb1))
    have HH := hid (HLH.out.trans (if_pos hb1))
    have hx2 : (1 : Int) < (x : Int) := by omega
    clear hb1 hx1
    go_wp2_with (refine wpList_store_row rfl 83 _ _ rfl w.heap.size (hvl hz) rfl rfl 83 (hvl hz) (HZ7.out _) (hvl_size hz) rfl (hvl_one hz) ?_)
    refine bodyPost_ret (res_ct (p := 2) (u := 3) (ty := 83) (by kernel_rfl) _ _ w.heap.size 83 (hvl hz) (0, 0) _ rfl (setRow_heap _ _ _ _ _ _ (HZ7.out _)) Tryd.underlying83 rfl (hvl_size hz) rfl) rfl ?_
    rw [HPO.out, HE.out, HH.out]
    exact ⟨rfl, fr_rowBelow (HB7.out _) (Nat.le_refl _)⟩
  · have hx2 : ¬ (1 : Int) < (x : Int) := by omega
    go_wp2_with fail
    refine (HR.out _).mono ?_
    rintro e w8 ⟨rfl, hb8⟩
    have HZ8 := hid ((hb8.block _ (HS6.out _)).trans (HZ7.out _))
    have HB8 := hid ((HB7.out _).trans (hb8.mono (HB7.out _).size))
    have hbx := (Bx.new w6 ⟨k, f 0, f 1, f 2, f 3, bx, f 4, f 5⟩).below hb8 (Bx.new w6 ⟨k, f 0, f 1, f 2, f 3, bx, f 4, f 5⟩).lt
    rw [← HHD.out] at hbx
    have HBX := hid hbx
    clear hb8 hbx
    by_cases hr : Rt hd
    · have hb1 : ¬ Bad l := fun h => (HBAD.out.1 h).elim hx1 (fun h => h hr)
      have HE := hid (HLE.out.trans (if_neg hb1))
      have HH := hid (HLH.out.trans (if_neg hb1))
      rw [← HHD.out, decide_eq_true hr]
      clear hb1 hx1 hr
      go_wp2_with (first
        | (refine wpList_load_row rfl 83 _ rfl w6.heap.size rfl 83 (hvl hd) (0, 0) _ HBX.out.row Tryd.underlying83 rfl (hvl_size hd) ?_)
        | (refine wpList_store_row rfl 83 _ _ rfl w.heap.size (hvl hd) rfl rfl 83 (hvl hz) HZ8.out (hvl_size hd) rfl (hvl_one hd) ?_))
      refine bodyPost_ret (res_ct (p := 2) (u := 3) (ty := 83) (by kernel_rfl) _ _ w.heap.size 83 (hvl hd) (0, 0) _ rfl (setRow_heap _ _ _ _ _ _ HZ8.out) Tryd.underlying83 rfl (hvl_size hd) rfl) rfl ?_
      rw [HPO.out, HE.out, HH.out]
      exact ⟨rfl, fr_rowBelow HB8.out (Nat.le_refl _)⟩
    · have hb1 : Bad l := HBAD.out.2 (.inr hr)
      have HE := hid (HLE.out.trans (if_pos hb1))
      have HH := hid (HLH.out.trans (if_pos hb1))
      rw [← HHD.out, decide_eq_false hr]
      clear hb1 hx1 hr
      go_wp2_with (refine wpList_store_row rfl 83 _ _ rfl w.heap.size (hvl hz) rfl rfl 83 (hvl hz) HZ8.out (hvl_size hz) rfl (hvl_one hz) ?_)
      refine bodyPost_ret (res_ct (p := 2) (u := 3) (ty := 83) (by kernel_rfl) _ _ w.heap.size 83 (hvl hz) (0, 0) _ rfl (setRow_heap _ _ _ _ _ _ HZ8.out) Tryd.underlying83 rfl (hvl_size hz) rfl) rfl ?_
      rw [HPO.out, HE.out, HH.out]
      exact ⟨rfl, fr_rowBelow HB8.out (Nat.le_refl _)⟩
end Go.Proofs.YthjjonbkfkpkmaaDoor.Head
