/- Get reads a list's code. Conditions: the bits begin with the code of a list that is coded, of this length, by an order of its own. -/
import Derived.Test.YtjimamjhakainaaM42
import Derived.Test.YtjimamjhakainaaSWf
import Derived.Test.YtjimamjhakainaaSZi
namespace Go.Proofs.Ytjimamjhakainaa.Part
open Go.RowKit Go.Shelf Bit Rice Runs
attribute [local go_sem] Oper.semAt_some

/-- Numbers as far as they are read, noughts behind them. -/
def upf (I : Nat → Int) (m j : Nat) : Int := if j < m then I j else 0
theorem upf_none (I : Nat → Int) : upf I 0 = fun _ => 0 := by funext j; exact if_neg (by omega)
theorem upf_ins (I : Nat → Int) (len p i : Nat) : ins (upf I (bd len p i)) (pI I len p i) (bd len p i) (pn len p i) = upf I (bd len p (i + 1)) := by
  have h1 := bd_mono len p i
  funext j
  unfold ins upf pn pI
  by_cases e : j < bd len p i
  · rw [if_neg (by omega), if_pos e, if_pos (by omega)]
  · by_cases e2 : j < bd len p (i + 1)
    · rw [if_pos (by omega), if_pos e2]
      congr 1
      omega
    · rw [if_neg (by omega), if_neg e, if_neg e2]
theorem Ds.here {w W : World} {q g0 gl len M T p : Nat} {F : Nat → Int} (h : Ds w q g0 gl len M T p F W) : Ds W q g0 gl len M T p F W := ⟨h.rd, h.row, Fr.refl _ _⟩
theorem Ds.lq {w W : World} {q g0 gl len M T p : Nat} {F : Nat → Int} (h : Ds w q g0 gl len M T p F W) : q < W.heap.size := World.block_lt_of_cell? _ _ h.rd.c0
theorem ds_own {α : Type} (w : World) (q g0 gl len M T : Nat) (P : List α → Nat) (F : List α → Nat → Int) {B : Nat} (hB : w.heap.size ≤ B) (hq : q < w.heap.size) (hg : g0 < w.heap.size) (hl : gl < w.heap.size) : OwnFrom B (fun s W' => Ds w q g0 gl len M T (P s) (F s) W') := by
  intro s A A' row hs hgr hr
  have hk : ∀ k, k < w.heap.size → A'.heap[k]? = A.heap[k]? := fun k hk => hgr.block k (by have := hs.fr.size; omega) fun e => by have := (hr k e.symm).1; omega
  have hf : Fr (fun k => row = some k) A A' := (Fr.refl _ A).grown hgr (fun k hk _ => hk)
  have hnr : ∀ k, k < w.heap.size → ¬ row = some k := fun k hk e => by have := (hr k e).1; omega
  exact ⟨hs.rd.keep hf (hnr q hq) (hnr g0 hg), hs.row.of_block (hk gl hl), hs.fr.grown hgr fun k hk hlt => absurd hk (hnr k hlt)⟩
theorem pfx_len (y : Nat) (pre : List (Fin y)) (x : Fin y) (h : pre ++ [x] <+: List.finRange y) : pre.length = x.val := by
  obtain ⟨t, ht⟩ := h
  have h1 : (List.finRange y)[pre.length]? = some x := by rw [← ht]; simp
  rw [List.getElem?_eq_some_iff] at h1
  obtain ⟨h2, h3⟩ := h1
  rw [← h3]
  simp
theorem ptA_here (gl len f : Nat) (h : f < len) : ptA (some ⟨gl, 0, none⟩) len f = some ⟨gl, f, none⟩ := by
  unfold ptA
  rw [if_neg (by omega)]
  show some ((⟨gl, 0, none⟩ : Addr).add f) = _
  have e : (⟨gl, 0, none⟩ : Addr).add f = ⟨gl, f, none⟩ := by unfold Addr.add; split <;> simp_all
  rw [e]
theorem mk22 (n : Nat) (hn : n ≤ 65536) (w : World) : (Instr.makeSlice 22 (.int .i64 (n : Int)) (.int .i64 (n : Int))).run Try.prog w = .ok (.slice (some ⟨w.heap.size, 0, none⟩) n n) (w.alloc (.cells (madeCells #[.int .i64 0] n) 3)) :=
  run_make_row' (P := Try.prog) 22 3 (.int .i64 0) 8 Try.underlying22 Try.info3 rfl .i64 .i64 n (by omega) (by omega) w

theorem bd_nil (n p : Nat) : bd n p 0 = 0 := by unfold bd; rw [Nat.zero_mul, Nat.zero_div]
theorem bd_all (n p : Nat) : bd n p (2 ^ p) = n := by unfold bd; rw [Nat.mul_comm, Nat.mul_div_cancel _ (Nat.two_pow_pos p)]
/-- The code of the part that comes next. -/
theorem pfs_next {I : Nat → Int} {len p : Nat} {r Q : Nat × Nat} (hz : allZ I len) (hlen : len ≤ 65536) (hpx : Pfx (pfs I len p r (List.range (2 ^ p))) Q) (pre : List (Fin (2 ^ p))) (x : Fin (2 ^ p)) (h : pre ++ [x] <+: List.finRange (2 ^ p)) :
    Pfx (pcode (pI I len p x.val) (pn len p x.val) (pfs I len p r (pre.map Fin.val))) Q := by
  obtain ⟨t, ht⟩ := h
  rw [← finRange_val, ← ht, List.map_append, List.map_append] at hpx
  have e : pfs I len p r (pre.map Fin.val ++ List.map Fin.val [x] ++ t.map Fin.val) = pfs I len p (pfs I len p r (pre.map Fin.val ++ [x.val])) (t.map Fin.val) := by
    unfold pfs
    rw [List.foldl_append]
    rfl
  rw [e, pfs_app] at hpx
  exact (pfs_pfx hz hlen p (t.map Fin.val) _ (fun i hi => by obtain ⟨z, _, rfl⟩ := List.mem_map.1 hi; exact z.isLt)).trans hpx
theorem results_cells3 {P : Program} {fn : Func} {a b c : Tmp} {ta tb tc : TypeId} (h : fn.results = #[.cell a ta, .cell b tb, .cell c tc]) (tmps : Array Value) (w : World) {p1 p2 p3 : Addr} {v1 v2 v3 : Value} (h1 : tmps.getD a undef = .pointer (some p1)) (h2 : tmps.getD b undef = .pointer (some p2)) (h3 : tmps.getD c undef = .pointer (some p3))
    (c1 : (loadVar ta p1).run P w = .ok v1 w) (c2 : (loadVar tb p2).run P w = .ok v2 w) (c3 : (loadVar tc p3).run P w = .ok v3 w) : (results fn tmps).run P w = .ok (.tuple #[v1, v2, v3]) w := by
  simp only [results, h]
  simp at h1 h2 h3
  simp [Sem.run_bind, Result.andThen, h1, h2, h3, asAddr, c1, c2, c3]

theorem fr_new {X Y : Nat → Prop} {w A B : World} (h : Fr X w A) (k : Fr Y A B) (hxy : ∀ i, i < w.heap.size → Y i → X i) : Fr X w B :=
  ⟨k.os.trans h.os, k.tape.trans h.tape, k.output.trans h.output, Nat.le_trans h.size k.size, fun i hi hx => (k.block i (Nat.lt_of_lt_of_le hi h.size) fun hy => hx (hxy i hi hy)).trans (h.block i hi hx)⟩
theorem ld22 {w : World} {a : Addr} {v : Value} (h : w.cell? a = some v) : (loadVar 22 a).run Try.prog w = .ok v w := by
  simp [go_sem, loadVar, h]
theorem ld3 {w : World} {a : Addr} {v : Value} (h : w.cell? a = some v) : (loadVar 3 a).run Try.prog w = .ok v w := by
  simp [go_sem, loadVar, h]
theorem ld45 {w : World} {a : Addr} {v : Value} (h : w.cell? a = some v) : (loadVar 45 a).run Try.prog w = .ok v w := by
  simp [go_sem, loadVar, h]

def GP (w : World) (q g0 M T p' : Nat) (I : Nat → Int) (len p : Nat) (e : Ending) (W' : World) : Prop :=
  ∃ gl, e = .returned (.tuple #[.slice (some ⟨gl, 0, none⟩) len len, .int .i64 (p : Int), .int .i64 0]) ∧ w.heap.size ≤ gl ∧ W'.rowIs gl 3 len (fun j => .int .i64 (I j)) ∧ Rd W' q g0 M T p' ∧ Fr (fun b => b = q) w W'

/-- The four boxes that Get lays for itself. -/
def four (w : World) (q : Nat) : World := (((w.alloc (.cells #[.pointer (some ⟨q, 0, none⟩)] 52)).alloc (.cells #[.slice none 0 0] 22)).alloc (.cells #[.int .i64 0] 3)).alloc (.cells #[.int .i64 0] 45)
theorem four_sz (w : World) (q : Nat) : (four w q).heap.size = w.heap.size + 4 := by unfold four; simp
theorem four_fr (w : World) (q : Nat) (X : Nat → Prop) : Fr X w (four w q) := ((((Fr.refl X w).alloc _).alloc _).alloc _).alloc _
theorem four_at (w : World) (q : Nat) :
    (four w q).heap[w.heap.size]? = some (.cells #[.pointer (some ⟨q, 0, none⟩)] 52) ∧ (four w q).heap[w.heap.size + 1]? = some (.cells #[.slice none 0 0] 22) ∧ (four w q).heap[w.heap.size + 2]? = some (.cells #[.int .i64 0] 3) ∧ (four w q).heap[w.heap.size + 3]? = some (.cells #[.int .i64 0] 45) := by
  unfold four
  obtain ⟨A, hA⟩ : ∃ A, w.alloc (.cells #[.pointer (some ⟨q, 0, none⟩)] 52) = A := ⟨_, rfl⟩
  have a1 : A.heap.size = w.heap.size + 1 := by rw [← hA]; simp
  have a2 : A.heap[w.heap.size]? = some (.cells #[.pointer (some ⟨q, 0, none⟩)] 52) := by rw [← hA]; exact heap_alloc_new _ _
  obtain ⟨B, hB⟩ : ∃ B, A.alloc (.cells #[.slice none 0 0] 22) = B := ⟨_, rfl⟩
  have b1 : B.heap.size = w.heap.size + 2 := by rw [← hB]; simp; omega
  have b2 : B.heap[w.heap.size]? = some (.cells #[.pointer (some ⟨q, 0, none⟩)] 52) := by rw [← hB]; exact (RowKit.Below.heap_alloc _ _ _ (by omega)).trans a2
  have b3 : B.heap[w.heap.size + 1]? = some (.cells #[.slice none 0 0] 22) := by rw [← hB, ← a1]; exact heap_alloc_new _ _
  obtain ⟨C, hC⟩ : ∃ C, B.alloc (.cells #[.int .i64 0] 3) = C := ⟨_, rfl⟩
  have c1 : C.heap.size = w.heap.size + 3 := by rw [← hC]; simp; omega
  have c2 : C.heap[w.heap.size]? = some (.cells #[.pointer (some ⟨q, 0, none⟩)] 52) := by rw [← hC]; exact (RowKit.Below.heap_alloc _ _ _ (by omega)).trans b2
  have c3 : C.heap[w.heap.size + 1]? = some (.cells #[.slice none 0 0] 22) := by rw [← hC]; exact (RowKit.Below.heap_alloc _ _ _ (by omega)).trans b3
  have c4 : C.heap[w.heap.size + 2]? = some (.cells #[.int .i64 0] 3) := by rw [← hC, ← b1]; exact heap_alloc_new _ _
  rw [hA, hB, hC]
  refine ⟨(RowKit.Below.heap_alloc _ _ _ (by omega)).trans c2, (RowKit.Below.heap_alloc _ _ _ (by omega)).trans c3, (RowKit.Below.heap_alloc _ _ _ (by omega)).trans c4, ?_⟩
  rw [← c1]
  exact heap_alloc_new _ _
set_option maxRecDepth 100000 in
set_option maxHeartbeats 400000 in
theorem pget_in (n : Nat) (hn3 : 3 ≤ n) {w : World} {q g0 M T len p : Nat} {r Q : Nat × Nat} {I : Nat → Int} (hM : pad Q.1 Q.2 = M) (hT : (Q.2 + 7) / 8 = T) (hT1 : T ≤ 1048576) (hr : Rd w q g0 M T r.2)
    (hp : ord len p) (hz : allZ I len) (hlen : len ≤ 65536) (hpx : Pfx (pfs I len p (app r p 3) (List.range (2 ^ p))) Q) :
    CallsIn Fence.wide n Try.prog 28 #[.pointer (some ⟨q, 0, none⟩), .int .i64 (len : Int)] w (GP w q g0 M T (pfs I len p (app r p 3) (List.range (2 ^ p))).2 I len p) := by
  have hp6 : p ≤ 6 := by
    have := hp.2
    unfold fin at this
    omega
  have hp1 : Pfx (app r p 3) Q := (pfs_pfx hz hlen p _ _ fun i hi => List.mem_range.1 hi).trans hpx
  have hgn := pfx_get (v := p) (l := 3) (by omega) hp1
  have hle := pfx_le ((pfx_app r (v := p) (l := 3) (by omega)).trans hp1)
  rw [hM, hT] at hgn
  rw [hT] at hle
  have hlq : q < w.heap.size := World.block_lt_of_cell? _ _ hr.c0
  have hlg : g0 < w.heap.size := hr.row.lt
  obtain ⟨W1, hW1⟩ : ∃ W1, four w q = W1 := ⟨_, rfl⟩
  have h1s := four_sz w q
  have h1f := four_fr w q (fun b => b = q)
  have h1k := four_at w q
  have hr1 : Rd (four w q) q g0 M T r.2 := hr.keep (four_fr w q (fun _ => False)) (fun x => x) (fun x => x)
  rw [hW1] at h1s h1f h1k hr1
  unfold four at hW1
  have hgc := get_n hr1 hle (by omega) 3 (by decide)
  unfold GetNPost at hgc
  rw [hgn] at hgc
  have HGC := hid hgc
  have HO := hid fun W' => isorder_any len (by omega) p W'
  rw [decide_eq_true hp] at HO
  have HMK := hid fun W' => mk22 len hlen W'
  have h0c : W1.cell? ⟨w.heap.size, 0, none⟩ = some (.pointer (some ⟨q, 0, none⟩)) := by rw [World.cell?, h1k.1]; rfl
  have g1 : ¬ (len : Int) < 0 := by omega
  have g2 : ¬ (65536 : Int) < (len : Int) := by omega
  have HZ := hid hz; have HPX := hid hpx; have HP1 := hid hp1; have HR1 := hid hr1; have H1K := hid h1k; have H1F := hid h1f; have H1S := hid h1s
  clear hgc hgn hle hz hpx hp1 hp hr hr1 h1k h1f h1s
  refine callsIn_of_wp_marks Try.func28 rfl trivial ?_ rfl
  simp only [Try.ntmps28, List.size_toArray, List.length_cons, List.length_nil, Nat.reduceAdd, Nat.reduceSub, Array.replicate_succ, Array.replicate_zero, List.push_toArray, List.append_toArray, List.nil_append, List.cons_append]
  gi_wp2_with fail
  refine ⟨trivial, fun h => (by cases h), ?_⟩
  refine (callsIn_wide.2 HGC.out).mono ?_
  rintro e w2 ⟨rfl, hr2, hf2⟩
  have hlq1 : w.heap.size ≠ q := by omega
  have h2c : w2.cell? ⟨w.heap.size, 0, none⟩ = some (.pointer (some ⟨q, 0, none⟩)) := (hf2.cell (p := ⟨w.heap.size, 0, none⟩) (by show w.heap.size < _; rw [H1S.out]; omega) hlq1).trans h0c
  have HR2 := hid hr2; have HF2 := hid hf2
  clear hr2 hf2 hW1
  have hp6i : (p : Int) ≤ 6 := by omega
  simp only []
  gi_wp2_with fail
  refine ⟨trivial, fun h => (by cases h), ?_⟩
  refine (callsIn_wide.2 (HO.out _)).mono ?_
  rintro e w3 ⟨rfl, rfl⟩
  have hmk := HMK.out w2
  have hrow := World.rowIs_made w2 (.int .i64 0) len 3
  obtain ⟨C, hC⟩ : ∃ C, madeCells #[.int .i64 0] len = C := ⟨_, rfl⟩
  rw [hC] at hmk hrow
  have HROW := hid hrow
  clear hC hrow hp6i HO
  gi_wp2_with fail
  refine ⟨trivial, fun h => (by cases h), ?_⟩
  refine (callsIn_wide.2 (parts_any (some ⟨w2.heap.size, 0, none⟩) len len p _)).mono ?_
  rintro e w3 ⟨rfl, rfl⟩
  gi_wp2_with fail
  obtain ⟨W2, hW2⟩ : ∃ W2, w2.alloc (.cells C 3) = W2 := ⟨_, rfl⟩
  have h2s : W2.heap.size = w2.heap.size + 1 := by rw [← hW2]; simp
  have h2f : Fr (fun _ => False) w2 W2 := by rw [← hW2]; exact (Fr.refl _ _).alloc _
  have h2r : W2.rowIs w2.heap.size 3 len (fun _ => .int .i64 0) := by rw [← hW2]; exact HROW.out
  obtain ⟨Wl, hWl⟩ : ∃ Wl, (W2.alloc (.cells #[.slice (some ⟨w2.heap.size, 0, none⟩) len len] 22)).alloc (.cells #[.int .i64 (p : Int)] 3) = Wl := ⟨_, rfl⟩
  have hls : Wl.heap.size = w2.heap.size + 3 := by rw [← hWl]; simp; omega
  have hlf : Fr (fun _ => False) W2 Wl := by rw [← hWl]; exact ((Fr.refl _ _).alloc _).alloc _
  have hlc0 : Wl.cell? ⟨w2.heap.size + 1, 0, none⟩ = some (.slice (some ⟨w2.heap.size, 0, none⟩) len len) := by
    rw [← hWl, World.cell?_of_block (RowKit.Below.heap_alloc _ _ _ (by simp; omega)), ← h2s]; simp
  have hlc1 : Wl.cell? ⟨w2.heap.size + 1 + 1, 0, none⟩ = some (.int .i64 (p : Int)) := by
    rw [← hWl]
    have e : w2.heap.size + 1 + 1 = (W2.alloc (.cells #[.slice (some ⟨w2.heap.size, 0, none⟩) len len] 22)).heap.size := by simp; omega
    rw [e]; simp
  have hlF := h2f.trans hlf
  have hlr : Wl.rowIs w2.heap.size 3 len (fun _ => .int .i64 0) := h2r.of_block (hlf.block _ (by omega) (fun x => x))
  have hlR : Rd Wl q g0 M T (app r p 3).2 := HR2.out.keep hlF (fun x => x) (fun x => x)
  have hs12 : W1.heap.size ≤ w2.heap.size := HF2.out.size
  have h1s := H1S.out
  have hk : ∀ k, w.heap.size ≤ k → k < w.heap.size + 4 → Wl.heap[k]? = W1.heap[k]? := fun k hk1 hk2 => (hlF.block k (by omega) (fun x => x)).trans (HF2.out.block k (by omega) (by show ¬ k = q; omega))
  have hDs : Ds Wl q g0 w2.heap.size len M T (app r p 3).2 (upf I 0) Wl := ⟨hlR, hlr.congr fun j hj => by rw [upf_none], Fr.refl _ _⟩
  rw [hW2, hWl]
  have HPAR := hid (parts_nexts (n - 1) (w2.heap.size + 1 + 1) (w2.heap.size + 1) (some ⟨w2.heap.size, 0, none⟩) len len p hlen hp6 (Nat.le_refl _) (2 ^ p) rfl Wl (by omega) (by omega) hlc1 hlc0)
  have HLS := hid hls; have HK := hid hk; have HDS := hid hDs; have HS12 := hid hs12
  have HFW := hid ((H1F.out.trans HF2.out).trans (hlF.mono fun _ _ x => x.elim))
  have hbx : Wl.cell? ⟨w.heap.size, 0, none⟩ = some (.pointer (some ⟨q, 0, none⟩)) := (hlF.cell (p := ⟨w.heap.size, 0, none⟩) (by show w.heap.size < _; omega) (fun x => x)).trans h2c
  have HBX := hid hbx
  clear hbx hW2 hWl h2s h2f h2r hls hlf hlc0 hlc1 hlF hlr hlR hs12 h1s hk hDs hmk HMK HROW h2c
  have hgl : w2.heap.size < Wl.heap.size := by have := HLS.out; omega
  have hlqw : q < Wl.heap.size := by have := HLS.out; have := HS12.out; have := H1S.out; omega
  have hlgw : g0 < Wl.heap.size := by have := HLS.out; have := HS12.out; have := H1S.out; omega
  have hgq : w2.heap.size ≠ q := by have := HS12.out; have := H1S.out; omega
  have hgg : w2.heap.size ≠ g0 := by have := HS12.out; have := H1S.out; omega
  refine range_next (by omega) (gf := 75) (lb := #[.pointer (some ⟨w2.heap.size + 1 + 1, 0, none⟩), .pointer (some ⟨w2.heap.size + 1, 0, none⟩)]) rfl (enters_of Try.func75 (by kernel_rfl) rfl) (by have := HLS.out; omega) (by have := HLS.out; omega) HPAR.out (fun _ => rfl)
    (fun pre W' => Ds Wl q g0 w2.heap.size len M T (pfs I len p (app r p 3) (pre.map Fin.val)).2 (upf I (bd len p pre.length)) W')
    (ds_own Wl q g0 w2.heap.size len M T (fun pre => (pfs I len p (app r p 3) (pre.map Fin.val)).2) (fun pre => upf I (bd len p pre.length)) (Nat.le_refl _) hlqw hlgw hgl)
    (by show Ds Wl q g0 w2.heap.size len M T (app r p 3).2 (upf I (bd len p 0)) Wl; rw [bd_nil]; exact HDS.out)
    (fun x => { tmps := #[.pointer (some ⟨q, 0, none⟩), .int .i64 (len : Int), .pointer (some ⟨w.heap.size, 0, none⟩), undef, .pointer (some ⟨w.heap.size + 1, 0, none⟩), .pointer (some ⟨w.heap.size + 1 + 1, 0, none⟩), .pointer (some ⟨w.heap.size + 1 + 1 + 1, 0, none⟩),
      .int .u64 (p : Int), .int .i64 0, .int .i64 (p : Int), .slice (some ⟨w2.heap.size, 0, none⟩) len len, undef, .slice (ptA (some ⟨w2.heap.size, 0, none⟩) len (bd len p x.val)) (bd len p (x.val + 1) - bd len p x.val) (len - bd len p x.val), undef, .bool false, .pointer (some ⟨q, 0, none⟩), .bool false, .bool false, .int .i64 (len : Int),
      .bool false, .bool false, .int .i64 (len : Int), .bool false, .bool false, .tuple #[.int .u64 (p : Int), .int .i64 0], .pointer (some ⟨q, 0, none⟩), .tuple #[.int .u64 (p : Int), .int .i64 0], .int .u64 (p : Int), .int .i64 0, .int .u64 (p : Int), .int .i64 (p : Int),
      .bool false, .int .i64 0, .bool false, undef, .bool false, .int .i64 (p : Int), .int .i64 (len : Int), .bool true, .bool false, .int .i64 (len : Int), .slice (some ⟨w2.heap.size, 0, none⟩) len len, .slice (some ⟨w2.heap.size, 0, none⟩) len len, .int .i64 (p : Int),
      .func (.func 75) #[] #[.pointer (some ⟨w2.heap.size + 1 + 1, 0, none⟩), .pointer (some ⟨w2.heap.size + 1, 0, none⟩)], .int .i64 ((x.val : Nat) : Int), .slice (ptA (some ⟨w2.heap.size, 0, none⟩) len (bd len p x.val)) (bd len p (x.val + 1) - bd len p x.val) (len - bd len p x.val), undef, undef, undef, undef, undef, undef, undef, undef], defers := [] }) ?assign ?body ?done
  case assign =>
    intro l x W K hK
    unfold encP
    gi_wp2_with fail
    exact hK
  case body =>
    rintro l pre x W hI hnx
    have hlx := pfx_len _ pre x hnx
    have hcode := pfs_next HZ.out hlen HPX.out pre x hnx
    have happ := pfs_app I len p (app r p 3) (pre.map Fin.val) x.val
    have h1 := bd_mono len p x.val
    have h2 := bd_le len p (x.val + 1) x.isLt
    have hpne : pn len p x.val = bd len p (x.val + 1) - bd len p x.val := rfl
    rw [hlx] at hI
    have hrp := read_part (c := len - bd len p x.val) (ad := ptA (some ⟨w2.heap.size, 0, none⟩) len (bd len p x.val)) hM hT hT1 hI.here hgq hgg (fun h0 => ptA_here _ _ _ (by omega)) (by omega) (by omega) (allZ_part HZ.out p x.val x.isLt) (fun i hi => if_neg (by omega)) hcode
    rw [upf_ins, ← happ] at hrp
    unfold RP at hrp
    have hbx : W.cell? ⟨w.heap.size, 0, none⟩ = some (.pointer (some ⟨q, 0, none⟩)) := (hI.fr.cell (p := ⟨w.heap.size, 0, none⟩) (by show w.heap.size < _; have := HLS.out; have := HS12.out; have := H1S.out; omega) (by
      have := HS12.out; have := H1S.out
      show ¬ (w.heap.size = q ∨ w.heap.size = w2.heap.size)
      omega)).trans HBX.out
    have HRP := hid hrp; have HI := hid hI
    have HEND : RowKit.Hid (∀ w', Ds W q g0 w2.heap.size len M T (pfs I len p (app r p 3) (pre.map Fin.val ++ [x.val])).2 (upf I (bd len p (x.val + 1))) w' → KeepsFrom Wl.heap.size W w' ∧ Kp2 (w2.heap.size + 1 + 1) (w2.heap.size + 1) W w' ∧ Ds Wl q g0 w2.heap.size len M T (pfs I len p (app r p 3) ((pre ++ [x]).map Fin.val)).2 (upf I (bd len p (pre ++ [x]).length)) w') := hid fun w' hd => by
      have hls := HLS.out
      have hsw := hI.fr.size
      have hnk : ∀ k, w2.heap.size < k → ¬ (k = q ∨ k = w2.heap.size) := fun k hk => by have := HS12.out; have := H1S.out; omega
      refine ⟨⟨hd.fr.size, fun k ob hk ho _ => (hd.fr.block k (Array.getElem?_eq_some_iff.1 ho).1 (hnk k (by omega))).trans ho⟩, ⟨hd.fr.size, hd.fr.block _ (by omega) (hnk _ (by omega)), hd.fr.block _ (by omega) (hnk _ (by omega))⟩, ?_⟩
      rw [List.length_append, hlx, List.map_append]
      exact ⟨hd.rd, hd.row, hI.fr.trans hd.fr⟩
    rw [← hpne]
    clear hrp hI hcode happ hnx HDS HPAR HK hlx
    gi_wp2_with fail
    refine ⟨trivial, fun h => (by cases h), ?_⟩
    refine (CallsIn.inRound l (callsIn_wide.2 HRP.out)).mono ?_
    rintro e w4 ⟨rfl, hd4⟩
    have HE4 := hid (HEND.out w4 hd4)
    clear hd4
    gi_wp2_with fail
    exact HE4.out
  case done =>
    rintro D W hD hI hK
    rw [finRange_val, List.length_finRange, bd_all] at hI
    have hls := HLS.out; have hs12 := HS12.out; have h1s := H1S.out
    have hb : ∀ k, w.heap.size < k → k < w.heap.size + 4 → W.heap[k]? = W1.heap[k]? := fun k hk1 hk2 => (hI.fr.block k (by omega) (by show ¬ (k = q ∨ k = w2.heap.size); omega)).trans (HK.out k (by omega) hk2)
    have k1 := (hb (w.heap.size + 1) (by omega) (by omega)).trans H1K.out.2.1
    have k2 := (hb (w.heap.size + 1 + 1) (by omega) (by omega)).trans H1K.out.2.2.1
    have k3 := (hb (w.heap.size + 1 + 1 + 1) (by omega) (by omega)).trans H1K.out.2.2.2
    have c1 : W.cell? ⟨w.heap.size + 1, 0, none⟩ = some (.slice none 0 0) := by unfold World.cell?; simp only [k1]; rfl
    have c2 : W.cell? ⟨w.heap.size + 1 + 1, 0, none⟩ = some (.int .i64 0) := by unfold World.cell?; simp only [k2]; rfl
    have c3 : W.cell? ⟨w.heap.size + 1 + 1 + 1, 0, none⟩ = some (.int .i64 0) := by unfold World.cell?; simp only [k3]; rfl
    have z1 : W.frozen? ⟨w.heap.size + 1, 0, none⟩ = false := by unfold World.frozen?; simp only [k1]; rfl
    have z2 : W.frozen? ⟨w.heap.size + 1 + 1, 0, none⟩ = false := by unfold World.frozen?; simp only [k2]; rfl
    have z3 : W.frozen? ⟨w.heap.size + 1 + 1 + 1, 0, none⟩ = false := by unfold World.frozen?; simp only [k3]; rfl
    have HFIN : RowKit.Hid (∀ V, V = ((W.setCell ⟨w.heap.size + 1, 0, none⟩ (.slice (some ⟨w2.heap.size, 0, none⟩) len len)).setCell ⟨w.heap.size + 1 + 1, 0, none⟩ (.int .i64 (p : Int))).setCell ⟨w.heap.size + 1 + 1 + 1, 0, none⟩ (.int .i64 0) →
        V.heap[D]? = some (.deferred (some [])) ∧ (V.putObj D (.deferred none)).cell? ⟨w.heap.size + 1, 0, none⟩ = some (.slice (some ⟨w2.heap.size, 0, none⟩) len len) ∧ (V.putObj D (.deferred none)).cell? ⟨w.heap.size + 1 + 1, 0, none⟩ = some (.int .i64 (p : Int)) ∧ (V.putObj D (.deferred none)).cell? ⟨w.heap.size + 1 + 1 + 1, 0, none⟩ = some (.int .i64 0) ∧
        (V.putObj D (.deferred none)).rowIs w2.heap.size 3 len (fun j => .int .i64 (I j)) ∧ Rd (V.putObj D (.deferred none)) q g0 M T (pfs I len p (app r p 3) (List.range (2 ^ p))).2 ∧ Fr (fun b => b = q) w (V.putObj D (.deferred none))) := hid fun V hV => by
      have hfV : Fr (fun k => k = w.heap.size + 1 ∨ k = w.heap.size + 1 + 1 ∨ k = w.heap.size + 1 + 1 + 1 ∨ k = D) W V := by
        rw [hV]
        exact (((Fr.refl _ W).setCell (p := ⟨w.heap.size + 1, 0, none⟩) (.inl rfl) _).setCell (p := ⟨w.heap.size + 1 + 1, 0, none⟩) (.inr (.inl rfl)) _).setCell (p := ⟨w.heap.size + 1 + 1 + 1, 0, none⟩) (.inr (.inr (.inl rfl))) _
      have hfU := hfV.grown (grownBy_putObj' V D (.deferred none)) (fun k hk _ => by cases hk; exact .inr (.inr (.inr rfl)))
      have hDV : V.heap[D]? = some (.deferred (some [])) := by
        rw [hV, RowKit.Below.heap_setCell _ _ _ _ (by show D ≠ w.heap.size + 1 + 1 + 1; omega), RowKit.Below.heap_setCell _ _ _ _ (by show D ≠ w.heap.size + 1 + 1; omega), RowKit.Below.heap_setCell _ _ _ _ (by show D ≠ w.heap.size + 1; omega)]
        exact hK
      have hUV : ∀ k, k ≠ D → (V.putObj D (.deferred none)).heap[k]? = V.heap[k]? := fun k hk => World.putObj_heap_other (by omega)
      have hWl := hI.fr.size
      refine ⟨hDV, ?_, ?_, ?_, ?_, ?_, ?_⟩
      · rw [World.cell?_of_block (a := ⟨w.heap.size + 1, 0, none⟩) (hUV _ (by show w.heap.size + 1 ≠ D; omega)), hV, World.cell?_setCell_other _ _ _ _ (by intro e; injection e with e; omega), World.cell?_setCell_other _ _ _ _ (by intro e; injection e with e; omega), World.cell?_setCell_same _ _ _ (by rw [c1])]
      · rw [World.cell?_of_block (a := ⟨w.heap.size + 1 + 1, 0, none⟩) (hUV _ (by show w.heap.size + 1 + 1 ≠ D; omega)), hV, World.cell?_setCell_other _ _ _ _ (by intro e; injection e with e; omega), World.cell?_setCell_same _ _ _ (by rw [World.cell?_setCell_other _ _ _ _ (by intro e; injection e with e; omega), c2])]
      · rw [World.cell?_of_block (a := ⟨w.heap.size + 1 + 1 + 1, 0, none⟩) (hUV _ (by show w.heap.size + 1 + 1 + 1 ≠ D; omega)), hV, World.cell?_setCell_same _ _ _ (by rw [World.cell?_setCell_other _ _ _ _ (by intro e; injection e with e; omega), World.cell?_setCell_other _ _ _ _ (by intro e; injection e with e; omega), c3])]
      · exact (hI.row.of_block (hfU.block _ (by omega) (by show ¬ (w2.heap.size = _ ∨ w2.heap.size = _ ∨ w2.heap.size = _ ∨ w2.heap.size = D); omega))).congr fun j hj => by unfold upf; rw [if_pos hj]
      · exact hI.rd.keep hfU (by show ¬ (q = _ ∨ q = _ ∨ q = _ ∨ q = D); omega) (by show ¬ (g0 = _ ∨ g0 = _ ∨ g0 = _ ∨ g0 = D); omega)
      · exact fr_new (fr_new HFW.out hI.fr (fun i hi hy => by have h0 : i = q ∨ i = w2.heap.size := hy; show i = q; omega)) hfU (fun i hi hy => by have h0 : i = w.heap.size + 1 ∨ i = w.heap.size + 1 + 1 ∨ i = w.heap.size + 1 + 1 + 1 ∨ i = D := hy; omega)
    have hlgl : w.heap.size ≤ w2.heap.size := by omega
    have HLGL := hid hlgl
    clear hI hb k1 k2 k3 HDS HPAR HK HLS HS12 H1S H1K H1F HBX HFW HR1 HR2 HF2 HGC hls hs12 h1s hlgl hK
    gi_wp2_with fail
    obtain ⟨hDV, u1, u2, u3, u4, u5, u6⟩ := HFIN.out _ rfl
    refine ⟨by simp, .inl ⟨_, _, rfl, run_takeDeferred hDV, ?_⟩⟩
    exact ⟨_, results_cells3 rfl _ _ rfl rfl rfl (ld22 u1) (ld3 u2) (ld45 u3), w2.heap.size, rfl, HLGL.out, u4, u5, u6⟩

theorem pget_any {w : World} {q g0 M T len p : Nat} {r Q : Nat × Nat} {I : Nat → Int} (hM : pad Q.1 Q.2 = M) (hT : (Q.2 + 7) / 8 = T) (hT1 : T ≤ 1048576) (hr : Rd w q g0 M T r.2)
    (hp : ord len p) (hz : allZ I len) (hlen : len ≤ 65536) (hpx : Pfx (pfs I len p (app r p 3) (List.range (2 ^ p))) Q) :
    Calls Try.prog 28 #[.pointer (some ⟨q, 0, none⟩), .int .i64 (len : Int)] w (GP w q g0 M T (pfs I len p (app r p 3) (List.range (2 ^ p))).2 I len p) :=
  callsIn_wide.1 (pget_in 9 (by decide) hM hT hT1 hr hp hz hlen hpx)
end Go.Proofs.Ytjimamjhakainaa.Part
