/- choose: the way by which a list takes least, and what it takes. Conditions: a list lies in memory as its numbers, at most 2^16 of them, and is coded. -/
import Derived.Test.YtjimamjhakainaaM21
import Derived.WalkMore
import Derived.Laws.ResultCell
namespace Go.Proofs.Ytjimamjhakainaa.Part
open Go.RowKit Bit Rice Runs

/-- What is best of the first kinds. -/
def sk1 (I : Nat → Int) (n : Nat) : Nat × Nat × Nat := if nz I n = n then (0, 0, 6) else (0, 0, 9223372036854775807)
def sk2 (I : Nat → Int) (n : Nat) : Nat × Nat × Nat := if 6 + tt I n (kr I n) < (sk1 I n).2.2 then (1, kr I n, 6 + tt I n (kr I n)) else sk1 I n
def sk3 (I : Nat → Int) (n : Nat) : Nat × Nat × Nat := if n ≤ 2 * nz I n ∧ 11 + cstI I (rbs I n 30 : Nat) n < (sk2 I n).2.2 then (2, rbs I n 30, 11 + cstI I (rbs I n 30 : Nat) n) else sk2 I n
def sk4 (I : Nat → Int) (n : Nat) : Nat × Nat × Nat := if 12 + rw_ I n * n < (sk3 I n).2.2 then (3, rw_ I n, 12 + rw_ I n * n) else sk3 I n
def sk (I : Nat → Int) (n : Nat) (k : Nat) : Nat × Nat × Nat := if k = 0 then (0, 0, 9223372036854775807) else if k = 1 then sk1 I n else if k = 2 then sk2 I n else if k = 3 then sk3 I n else sk4 I n
theorem sk_wy (I : Nat → Int) (n : Nat) (hn : n ≤ 1000000) : sk4 I n = wy I n := by
  have ht := tt_le I n (kr I n)
  have h4 : sk4 I n = if 12 + rw_ I n * n < (sk3 I n).2.2 then (3, rw_ I n, 12 + rw_ I n * n) else sk3 I n := rfl
  have h3 : sk3 I n = if n ≤ 2 * nz I n ∧ 11 + cstI I (rbs I n 30 : Nat) n < (sk2 I n).2.2 then (2, rbs I n 30, 11 + cstI I (rbs I n 30 : Nat) n) else sk2 I n := rfl
  have h2 : sk2 I n = if 6 + tt I n (kr I n) < (sk1 I n).2.2 then (1, kr I n, 6 + tt I n (kr I n)) else sk1 I n := rfl
  have h1 : sk1 I n = if nz I n = n then (0, 0, 6) else (0, 0, 9223372036854775807) := rfl
  unfold wy
  by_cases e : nz I n = n
  · rw [if_pos e] at h1 ⊢
    rw [h1, if_neg (by show ¬ 6 + _ < 6; omega)] at h2
    rw [h2, if_neg (by rintro ⟨_, h⟩; have : 11 + cstI I (rbs I n 30 : Nat) n < 6 := h; omega)] at h3
    rw [h3, if_neg (by show ¬ 12 + _ < 6; omega)] at h4
    exact h4
  · rw [if_neg e] at h1 ⊢
    rw [h1, if_pos (by show 6 + tt I n (kr I n) < 9223372036854775807; omega)] at h2
    rw [h2] at h3
    rw [h4, h3]
def ChSt (W : World) (p : Nat) (x : Nat × Nat × Nat) (v : Value) (wr : World) : Prop :=
  v = .int .i64 (x.2.2 : Int) ∧ wr.cell? ⟨p, 0, none⟩ = some (.int .i64 (x.1 : Int)) ∧ wr.cell? ⟨p, 1, none⟩ = some (.int .i64 (x.2.1 : Int)) ∧ wr.frozen? ⟨p, 0, none⟩ = false ∧ wr.frozen? ⟨p, 1, none⟩ = false ∧ Fr (fun b => b = p) W wr
theorem ChSt.keep {W wr w2 : World} {p : Nat} {x : Nat × Nat × Nat} {v : Value} (h : ChSt W p x v wr) (hp : p < W.heap.size) (hb : Below wr.heap.size wr w2) : ChSt W p x v w2 := by
  obtain ⟨h1, h2, h3, h4, h5, h6⟩ := h
  have hl := h6.size
  refine ⟨h1, (hb.cell (p := ⟨p, 0, none⟩) (by show p < _; omega)).trans h2, (hb.cell (p := ⟨p, 1, none⟩) (by show p < _; omega)).trans h3, ?_, ?_, h6.trans ((fr_of_below hb).mono fun _ _ h => h.elim)⟩
  · rw [World.frozen?_of_block (hb.block p (by omega))]; exact h4
  · rw [World.frozen?_of_block (hb.block p (by omega))]; exact h5
theorem ChSt.set {W wr : World} {p : Nat} {x : Nat × Nat × Nat} {v : Value} (h : ChSt W p x v wr) (k K bits : Nat) :
    ChSt W p (k, K, bits) (.int .i64 (bits : Int)) ((wr.setCell ⟨p, 0, none⟩ (.int .i64 (k : Int))).setCell ⟨p, 1, none⟩ (.int .i64 (K : Int))) := by
  obtain ⟨h1, h2, h3, h4, h5, h6⟩ := h
  have c1 : (wr.setCell ⟨p, 0, none⟩ (.int .i64 (k : Int))).cell? ⟨p, 1, none⟩ = some (.int .i64 (x.2.1 : Int)) := by
    rw [World.cell?_setCell_other _ _ _ _ (by intro e; simp at e)]; exact h3
  refine ⟨rfl, ?_, World.cell?_setCell_same _ _ _ c1, ?_, ?_, (h6.setCell (p := ⟨p, 0, none⟩) rfl _).setCell (p := ⟨p, 1, none⟩) rfl _⟩
  · rw [World.cell?_setCell_other _ _ _ _ (by intro e; simp at e)]; exact World.cell?_setCell_same _ _ _ h2
  · rw [frozen_setCell, frozen_setCell]; exact h4
  · rw [frozen_setCell, frozen_setCell]; exact h5
theorem ChSt.new (w : World) (T : Array Value) :
    ChSt (((w.alloc (.cells T 60)).alloc (.cells #[.int .i64 0, .int .i64 0] 25)).alloc (.cells #[.int .i64 0, .int .i64 0] 25)) (w.heap.size + 2) (0, 0, 9223372036854775807) (.int .i64 9223372036854775807)
      (((w.alloc (.cells T 60)).alloc (.cells #[.int .i64 0, .int .i64 0] 25)).alloc (.cells #[.int .i64 0, .int .i64 0] 25)) := by
  have e : ((w.alloc (.cells T 60)).alloc (.cells #[.int .i64 0, .int .i64 0] 25)).heap.size = w.heap.size + 2 := by simp
  have hh := heap_alloc_new ((w.alloc (.cells T 60)).alloc (.cells #[.int .i64 0, .int .i64 0] 25)) (.cells #[.int .i64 0, .int .i64 0] 25)
  rw [e] at hh
  have hr : (((w.alloc (.cells T 60)).alloc (.cells #[.int .i64 0, .int .i64 0] 25)).alloc (.cells #[.int .i64 0, .int .i64 0] 25)).rowIs (w.heap.size + 2) 25 2 (fun _ => .int .i64 0) :=
    ⟨_, hh, rfl, fun i hi => by rcases i with _ | _ | i <;> first | rfl | omega⟩
  exact ⟨rfl, hr.cell (show 0 < 2 by decide), hr.cell (show 1 < 2 by decide), hr.frozen 0, hr.frozen 1, Fr.refl _ _⟩
theorem w3_0 (w : World) (T : Array Value) : (((w.alloc (.cells T 60)).alloc (.cells #[.int .i64 0, .int .i64 0] 25)).alloc (.cells #[.int .i64 0, .int .i64 0] 25)).heap[w.heap.size]? = some (.cells T 60 (0, 0)) := by
  rw [RowKit.Below.heap_alloc _ _ _ (by simp; omega), RowKit.Below.heap_alloc _ _ _ (by simp)]
  exact heap_alloc_new _ _
theorem w3_1 (w : World) (T : Array Value) : (((w.alloc (.cells T 60)).alloc (.cells #[.int .i64 0, .int .i64 0] 25)).alloc (.cells #[.int .i64 0, .int .i64 0] 25)).rowIs (w.heap.size + 1) 25 2 (fun _ => .int .i64 0) := by
  refine ⟨#[.int .i64 0, .int .i64 0], ?_, rfl, fun i hi => by rcases i with _ | _ | i <;> first | rfl | omega⟩
  rw [RowKit.Below.heap_alloc _ _ _ (by simp)]
  have := heap_alloc_new (w.alloc (.cells T 60)) (.cells #[.int .i64 0, .int .i64 0] 25)
  rw [World.size_alloc] at this
  exact this
theorem two_set (w : World) (p : Nat) (a b : Value) (h0 : ∃ u, w.cell? ⟨p, 0, none⟩ = some u) (h1 : ∃ u, w.cell? ⟨p, 1, none⟩ = some u) :
    ((w.setCell ⟨p, 0, none⟩ a).setCell ⟨p, 1, none⟩ b).cell? ⟨p, 0, none⟩ = some a ∧ ((w.setCell ⟨p, 0, none⟩ a).setCell ⟨p, 1, none⟩ b).cell? ⟨p, 1, none⟩ = some b := by
  obtain ⟨u, h0⟩ := h0
  obtain ⟨v, h1⟩ := h1
  have c1 : (w.setCell ⟨p, 0, none⟩ a).cell? ⟨p, 1, none⟩ = some v := by
    rw [World.cell?_setCell_other _ _ _ _ (by intro e; simp at e)]; exact h1
  exact ⟨by rw [World.cell?_setCell_other _ _ _ _ (by intro e; simp at e)]; exact World.cell?_setCell_same _ _ _ h0, World.cell?_setCell_same _ _ _ c1⟩
theorem zgi_ib (u : Nat) (h : u < 1099511627777) : -9223372036854775808 ≤ zgi u ∧ zgi u ≤ 9223372036854775807 := by
  unfold zgi; split <;> omega
def WayPost (w : World) (x : Nat × Nat × Nat) (e : Ending) (w' : World) : Prop := e = .returned (.tuple #[.agg #[.int .i64 (x.1 : Int), .int .i64 (x.2.1 : Int)], .int .i64 (x.2.2 : Int)]) ∧ Below w.heap.size w w'
def ChRel (W : World) (p : Nat) (I : Nat → Int) (n : Nat) (g : Nat) (v i : Value) (wr : World) : Prop := ∃ k : Nat, k ≤ 4 ∧ g = 4 - k ∧ i = .int .i64 (k : Int) ∧ ChSt W p (sk I n k) v wr
set_option maxRecDepth 100000 in
set_option maxHeartbeats 4000000 in
theorem choose_any (w : World) (a : Option Addr) (len cap b off : Nat) (I : Nat → Int) (h : Is w a len cap b off I) (hlen : len ≤ 65536) (hz : allZ I len) :
    Calls Try.prog 33 #[.agg (tal (nz I len) (gr I len) (tt I len)), .slice a len cap] w (WayPost w (wy I len)) := by
  have H := hid h
  have hgr : gr I len < 1099511627776 := gr_lt I _ (by decide) len fun j hj => hz j hj
  have HGR := hid hgr
  have hsz := tal_size (nz I len) (gr I len) (tt I len)
  have hr0 : (w.alloc (.cells (tal (nz I len) (gr I len) (tt I len)) 60)).rowIs w.heap.size 60 33 (tc (nz I len) (gr I len) (tt I len)) := tal_row (heap_alloc_new _ _)
  have HR0 := hid hr0
  have HP := hid fun wr => par_any wr (nz I len) (gr I len) I len (by omega)
  have HS := hid (s60t (nz I len) (gr I len) (tt I len))
  obtain ⟨T, hT⟩ : ∃ T, tal (nz I len) (gr I len) (tt I len) = T := ⟨_, rfl⟩
  rw [hT] at hsz HP HS HR0 ⊢
  have HT := hid hT
  have HTT := hid hT
  clear h hgr hr0 hT
  obtain ⟨W, hW⟩ : ∃ W, ((w.alloc (.cells T 60)).alloc (.cells #[.int .i64 0, .int .i64 0] 25)).alloc (.cells #[.int .i64 0, .int .i64 0] 25) = W := ⟨_, rfl⟩
  have hst := ChSt.new w T
  rw [hW] at hst
  have HN := hid hst
  have hWs : W.heap.size = w.heap.size + 3 := by rw [← hW]; simp
  have hWb : Below w.heap.size w W := by rw [← hW]; exact ((((Below.refl w.heap.size w).alloc (Nat.le_refl _) _).alloc (by simp) _).alloc (by simp; omega) _)
  have hw0 := w3_0 w T
  have hw1 := w3_1 w T
  rw [hW] at hw0 hw1
  have HW := hid hW; have HWS := hid hWs; have HWB := hid hWb; have HW0 := hid hw0; have HW1 := hid hw1
  clear hW hst hz hWs hWb hw0 hw1
  go_enter Try.func33, Try.ntmps33
  go_wp2_with fail
  go_step3
  go_wp2_with fail
  go_step3
  go_wp2_with fail
  go_loopg [7, 16] 4 (fun g v i wr => ChRel W (w.heap.size + 1 + 1) I len g v i wr)
  case atStart =>
    rw [HW.out]
    exact ⟨0, by decide, rfl, rfl, HN.out⟩
  case round =>
    obtain ⟨k, hk, hg, rfl, hst⟩ := hrel
    have HG := hid hg
    have hp2 : w.heap.size + 1 + 1 < W.heap.size := by rw [HWS.out]; omega
    have HP2 := hid hp2
    have HST := hid hst
    obtain ⟨rfl, c0, c1, f0, f1, hfr⟩ := hst
    have n0 : wr.cell? ⟨w.heap.size, 0, none⟩ = some (.int .i64 (nz I len : Int)) := by
      rw [hfr.cell (p := ⟨w.heap.size, 0, none⟩) (by show w.heap.size < _; rw [HWS.out]; omega) (by show ¬ w.heap.size = _; omega)]
      have h1 := tal_row (w := W) (p := w.heap.size) (z := nz I len) (g := gr I len) (R := tt I len) (by rw [HTT.out]; exact HW0.out)
      exact h1.cell (show 0 < 33 by decide)
    have n1 : wr.cell? ⟨w.heap.size, 1, none⟩ = some (.int .u64 (gr I len : Int)) := by
      rw [hfr.cell (p := ⟨w.heap.size, 1, none⟩) (by show w.heap.size < _; rw [HWS.out]; omega) (by show ¬ w.heap.size = _; omega)]
      have h1 := tal_row (w := W) (p := w.heap.size) (z := nz I len) (g := gr I len) (R := tt I len) (by rw [HTT.out]; exact HW0.out)
      exact h1.cell (show 1 < 33 by decide)
    have HR := hid ((hfr.block w.heap.size (by rw [HWS.out]; omega) (by show ¬ w.heap.size = _; omega)).trans HW0.out)
    have hrb : Below w.heap.size w wr := ⟨hfr.os.trans HWB.out.os, hfr.tape.trans HWB.out.tape, hfr.output.trans HWB.out.output, Nat.le_trans HWB.out.size hfr.size, fun j hj => (hfr.block j (by rw [HWS.out]; omega) (by show ¬ j = _; omega)).trans (HWB.out.block j hj)⟩
    have HRB := hid hrb
    have HIS := hid (H.out.below hrb H.out.lt)
    have hnl := nz_le I len
    clear hg hrb hp2
    rcases (show k = 0 ∨ k = 1 ∨ k = 2 ∨ k = 3 ∨ k = 4 by omega) with rfl | rfl | rfl | rfl | rfl
    · have HK : RowKit.Hid (sk I len 1 = if nz I len = len then (0, 0, 6) else (0, 0, 9223372036854775807)) := hid rfl
      have hm : (sk I len 0).2.2 = 9223372036854775807 := rfl
      rw [hm]
      clear hfr hm
      by_cases e : nz I len = len
      · have e2 : ¬ (nz I len : Int) < (len : Int) := by omega
        rw [if_pos e] at HK
        clear e
        generalize sk I len 0 = x at *
        go_wp2_with fail
        go_roundg 3
        case measure => rw [HG.out]; omega
        case rel => exact ⟨1, by decide, rfl, rfl, by rw [HK.out]; exact HST.out.set 0 0 6⟩
      · have e2 : (nz I len : Int) < (len : Int) := by omega
        rw [if_neg e] at HK
        clear e
        go_wp2_with fail
        go_roundg 3
        case measure => rw [HG.out]; omega
        case rel => exact ⟨1, by decide, rfl, rfl, by rw [HK.out]; exact HST.out⟩
    · have HK : RowKit.Hid (sk I len 2 = if 6 + tt I len (kr I len) < (sk I len 1).2.2 then (1, kr I len, 6 + tt I len (kr I len)) else sk I len 1) := hid rfl
      have htl := tt_le I len (kr I len)
      have HPC := hid (HP.out wr)
      clear hfr n1
      generalize sk I len 1 = x at *
      generalize tt I len (kr I len) = t at *
      generalize kr I len = q at *
      go_wp2_with (refine wpList_load_row rfl 60 _ rfl w.heap.size rfl 60 T (0, 0) _ HR.out Try.underlying60 rfl HS.out ?_)
      refine HPC.out.mono ?_
      rintro e w1 ⟨rfl, hb1⟩
      have HS1 := hid (HST.out.keep HP2.out hb1)
      have hs1 := HS1.out
      obtain ⟨_, d0, d1, g0, g1, _⟩ := hs1
      clear c0 c1 f0 f1
      by_cases e : 6 + t < x.2.2
      · have e2 : ¬ ((x.2.2 : Nat) : Int) ≤ 6 + (t : Int) := by omega
        rw [if_pos e] at HK
        clear e
        go_wp2_with fail
        go_roundg 2
        case measure => rw [HG.out]; omega
        case rel => exact ⟨2, by decide, rfl, rfl, by rw [HK.out]; exact HS1.out.set 1 q (6 + t)⟩
      · have e2 : ((x.2.2 : Nat) : Int) ≤ 6 + (t : Int) := by omega
        rw [if_neg e] at HK
        clear e
        go_wp2_with fail
        go_roundg 2
        case measure => rw [HG.out]; omega
        case rel => exact ⟨2, by decide, rfl, rfl, by rw [HK.out]; exact HS1.out⟩
    · have HK : RowKit.Hid (sk I len 3 = if len ≤ 2 * nz I len ∧ 11 + cstI I (rbs I len 30 : Nat) len < (sk I len 2).2.2 then (2, rbs I len 30, 11 + cstI I (rbs I len 30 : Nat) len) else sk I len 2) := hid rfl
      have hcl : cstI I (rbs I len 30 : Nat) len ≤ 127 * len + 63 := by
        unfold cstI
        split
        · exact cst_le I _ len
        · exact Nat.zero_le _
      have HRC := hid (rbest_r wr a len cap b off I HIS.out (by omega))
      clear hfr n1
      generalize sk I len 2 = x at *
      generalize cstI I (rbs I len 30 : Nat) len = t at *
      generalize rbs I len 30 = q at *
      by_cases e0 : len ≤ 2 * nz I len
      · have e1 : ¬ 2 * (nz I len : Int) < (len : Int) := by omega
        go_wp2_with fail
        refine HRC.out.mono ?_
        rintro e w1 ⟨rfl, hb1⟩
        have HS1 := hid (HST.out.keep HP2.out hb1)
        have hs1 := HS1.out
        obtain ⟨_, d0, d1, g0, g1, _⟩ := hs1
        clear c0 c1 f0 f1
        by_cases e : 11 + t < x.2.2
        · have e2 : ¬ ((x.2.2 : Nat) : Int) ≤ 11 + (t : Int) := by omega
          rw [if_pos ⟨e0, e⟩] at HK
          clear e e0 e1
          go_wp2_with fail
          go_roundg 1
          case measure => rw [HG.out]; omega
          case rel => exact ⟨3, by decide, rfl, rfl, by rw [HK.out]; exact HS1.out.set 2 q (11 + t)⟩
        · have e2 : ((x.2.2 : Nat) : Int) ≤ 11 + (t : Int) := by omega
          rw [if_neg (fun h => e h.2)] at HK
          clear e e0 e1
          go_wp2_with fail
          go_roundg 1
          case measure => rw [HG.out]; omega
          case rel => exact ⟨3, by decide, rfl, rfl, by rw [HK.out]; exact HS1.out⟩
      · have e1 : 2 * (nz I len : Int) < (len : Int) := by omega
        rw [if_neg (fun h => e0 h.1)] at HK
        clear e0
        go_wp2_with fail
        go_roundg 1
        case measure => rw [HG.out]; omega
        case rel => exact ⟨3, by decide, rfl, rfl, by rw [HK.out]; exact HST.out⟩
    · have HK : RowKit.Hid (sk I len 4 = if 12 + rw_ I len * len < (sk I len 3).2.2 then (3, rw_ I len, 12 + rw_ I len * len) else sk I len 3) := hid rfl
      have hrl := rw_le I len HGR.out
      have hz := zag_any (gr I len : Int) (gr I len) rfl (by have := HGR.out; omega) wr
      have hn := need_any (zgi (gr I len)) (zgi (gr I len)) rfl (zgi_ib (gr I len) (by have := HGR.out; omega)) wr
      rw [zg_zgi] at hn
      have HZ := hid hz
      have HN2 : RowKit.Hid (Calls Try.prog 65 #[.int .i64 (zgi (gr I len))] wr fun e w' => e = .returned (.int .i64 (rw_ I len : Int)) ∧ wr = w') := hid hn
      have hml : rw_ I len * len ≤ 41 * 65536 := Nat.mul_le_mul hrl hlen
      obtain ⟨m, hm⟩ : ∃ m, rw_ I len * len = m := ⟨_, rfl⟩
      have hmi : (rw_ I len : Int) * (len : Int) = (m : Int) := by rw [← hm]; push_cast; rfl
      rw [hm] at hml HK
      clear hfr n0 hz hn hm
      generalize sk I len 3 = x at *
      generalize rw_ I len = q at *
      generalize zgi (gr I len) = y at *
      generalize gr I len = u at *
      go_wp2_with fail
      refine HZ.out.mono ?_
      rintro e w1 ⟨rfl, rfl⟩
      go_wp2_with fail
      refine HN2.out.mono ?_
      rintro e w1 ⟨rfl, rfl⟩
      by_cases e : 12 + m < x.2.2
      · have e2 : ¬ ((x.2.2 : Nat) : Int) ≤ 12 + (m : Int) := by omega
        rw [if_pos e] at HK
        clear e
        go_wp2_with fail
        go_roundg 0
        case measure => rw [HG.out]; omega
        case rel => exact ⟨4, by decide, rfl, rfl, by rw [HK.out, show (6 + (6 + (m : Int))) = ((12 + m : Nat) : Int) from by omega]; exact HST.out.set 3 q (12 + m)⟩
      · have e2 : ((x.2.2 : Nat) : Int) ≤ 12 + (m : Int) := by omega
        rw [if_neg e] at HK
        clear e
        go_wp2_with fail
        go_roundg 0
        case measure => rw [HG.out]; omega
        case rel => exact ⟨4, by decide, rfl, rfl, by rw [HK.out]; exact HST.out⟩
    · have hsk : sk I len 4 = wy I len := sk_wy I len (by omega)
      rw [hsk] at c0 c1 ⊢
      have z0 : wr.cell? ⟨w.heap.size + 1, 0, none⟩ = some (.int .i64 0) := (hfr.cell (p := ⟨w.heap.size + 1, 0, none⟩) (by show w.heap.size + 1 < _; rw [HWS.out]; omega) (by show ¬ w.heap.size + 1 = _; omega)).trans (HW1.out.cell (show 0 < 2 by decide))
      have z1 : wr.cell? ⟨w.heap.size + 1, 1, none⟩ = some (.int .i64 0) := (hfr.cell (p := ⟨w.heap.size + 1, 1, none⟩) (by show w.heap.size + 1 < _; rw [HWS.out]; omega) (by show ¬ w.heap.size + 1 = _; omega)).trans (HW1.out.cell (show 1 < 2 by decide))
      have y0 : wr.frozen? ⟨w.heap.size + 1, 0, none⟩ = false := (hfr.frozen (p := ⟨w.heap.size + 1, 0, none⟩) (by show w.heap.size + 1 < _; rw [HWS.out]; omega) (by show ¬ w.heap.size + 1 = _; omega)).trans (HW1.out.frozen 0)
      have y1 : wr.frozen? ⟨w.heap.size + 1, 1, none⟩ = false := (hfr.frozen (p := ⟨w.heap.size + 1, 1, none⟩) (by show w.heap.size + 1 < _; rw [HWS.out]; omega) (by show ¬ w.heap.size + 1 = _; omega)).trans (HW1.out.frozen 1)
      clear hfr n0 n1 hsk
      generalize wy I len = x at *
      obtain ⟨x1, x2, x3⟩ := x
      have hts := two_set wr (w.heap.size + 1) (.int .i64 (x1 : Int)) (.int .i64 (x2 : Int)) ⟨_, z0⟩ ⟨_, z1⟩
      obtain ⟨q0, q1⟩ := hts
      go_wp2_with fail
      refine bodyPost_ret (v := .tuple #[.agg #[.int .i64 (x1 : Int), .int .i64 (x2 : Int)], .int .i64 (x3 : Int)]) ?_ rfl ?_
      · rw [results_cell_tmp (p := 4) (u := 5) (ty := 25) (by kernel_rfl)]
        go_simp
      · exact ⟨rfl, (HRB.out.setCell (p := ⟨w.heap.size + 1, 0, none⟩) (show w.heap.size ≤ w.heap.size + 1 by omega) _).setCell (p := ⟨w.heap.size + 1, 1, none⟩) (show w.heap.size ≤ w.heap.size + 1 by omega) _⟩
end Go.Proofs.Ytjimamjhakainaa.Part
/- Choose of any list; the greatest order of so many numbers, and which orders they have; where a part begins and ends. Conditions: those that each lemma names. -/
namespace Go.Proofs.Ytjimamjhakainaa.Part
open Go.RowKit Bit Rice Runs

instance (I : Nat → Int) (n : Nat) : Decidable (cd I n) := by unfold cd; infer_instance
def wyc (I : Nat → Int) (n : Nat) : Nat × Nat × Nat := if cd I n then wy I n else (0, 0, 0)
set_option maxRecDepth 100000 in
theorem pchoose_any (w : World) (a : Option Addr) (len cap b off : Nat) (I : Nat → Int) (h : Is w a len cap b off I) :
    Calls Try.prog 10 #[.slice a len cap] w (WayPost w (wyc I len)) := by
  have H := hid h
  have hb0 := (Below.refl w.heap.size w).alloc (Nat.le_refl _) (.cells #[.int .i64 0, .int .i64 0] 25)
  have his := h.below hb0 h.lt
  have HIS := hid his
  have HB0 := hid hb0
  have hr : (w.alloc (.cells #[.int .i64 0, .int .i64 0] 25)).rowIs w.heap.size 25 2 (fun _ => .int .i64 0) := ⟨_, heap_alloc_new _ _, rfl, fun i hi => by rcases i with _ | _ | i <;> first | rfl | omega⟩
  have HR := hid hr
  have HCD := hid (pcoded_any _ a len cap b off I his)
  clear h his hb0 hr
  go_enter Try.func10, Try.ntmps10
  go_wp2_with fail
  refine HCD.out.mono ?_
  rintro e w' ⟨x, rfl, rfl, hx⟩
  have c0 := HR.out.cell (show 0 < 2 by decide)
  have c1 := HR.out.cell (show 1 < 2 by decide)
  have f0 := HR.out.frozen 0
  have f1 := HR.out.frozen 1
  by_cases hc : cd I len
  · obtain rfl : x = true := hx.2 hc
    have HE : RowKit.Hid (wyc I len = wy I len) := hid (if_pos hc)
    have HC := hid hc
    clear hx hc
    have HCN := hid (count_any _ a len cap b off I HIS.out (by have := HC.out.1; omega))
    have hsz : w.heap.size < (w.alloc (.cells #[.int .i64 0, .int .i64 0] 25)).heap.size := by simp
    go_wp2_with fail
    refine HCN.out.mono ?_
    rintro e w1 ⟨rfl, hb1⟩
    have HB1 := hid hb1
    have his1 := HIS.out.below hb1 HIS.out.lt
    have HCH := hid (choose_any w1 a len cap b off I his1 HC.out.1 HC.out.2)
    have hr1 := HR.out.of_block (hb1.block _ hsz)
    have HR1 := hid hr1
    clear hb1 his1 hr1 c0 c1 f0 f1
    go_wp2_with fail
    refine HCH.out.mono ?_
    rintro e w2 ⟨rfl, hb2⟩
    have hr2 := HR1.out.of_block (hb2.block _ HR1.out.lt)
    have HB : RowKit.Hid (Below w.heap.size w w2) := hid ((HB0.out.trans (HB1.out.mono HB0.out.size)).trans (hb2.mono (Nat.le_of_lt HR1.out.lt)))
    have c0 := hr2.cell (show 0 < 2 by decide)
    have c1 := hr2.cell (show 1 < 2 by decide)
    have f0 := hr2.frozen 0
    have f1 := hr2.frozen 1
    clear hb2 hr2
    have HE2 := hid HE.out
    generalize wy I len = y at *
    obtain ⟨x1, x2, x3⟩ := y
    have hts := two_set w2 w.heap.size (.int .i64 (x1 : Int)) (.int .i64 (x2 : Int)) ⟨_, c0⟩ ⟨_, c1⟩
    obtain ⟨q0, q1⟩ := hts
    go_wp2_with fail
    refine bodyPost_ret (v := .tuple #[.agg #[.int .i64 (x1 : Int), .int .i64 (x2 : Int)], .int .i64 (x3 : Int)]) ?_ rfl ?_
    · rw [results_cell_tmp (p := 2) (u := 3) (ty := 25) (by kernel_rfl)]
      go_simp
    · refine ⟨by rw [HE.out], (HB.out.setCell (p := ⟨w.heap.size, 0, none⟩) (show w.heap.size ≤ w.heap.size by omega) _).setCell (p := ⟨w.heap.size, 1, none⟩) (show w.heap.size ≤ w.heap.size by omega) _⟩
  · obtain rfl : x = false := by
      cases x
      · rfl
      · exact absurd (hx.1 rfl) hc
    have HE : RowKit.Hid (wyc I len = (0, 0, 0)) := hid (if_neg hc)
    clear hx hc
    have hts := two_set (w.alloc (.cells #[.int .i64 0, .int .i64 0] 25)) w.heap.size (.int .i64 0) (.int .i64 0) ⟨_, c0⟩ ⟨_, c1⟩
    obtain ⟨q0, q1⟩ := hts
    go_wp2_with fail
    refine bodyPost_ret (v := .tuple #[.agg #[.int .i64 0, .int .i64 0], .int .i64 0]) ?_ rfl ?_
    · rw [results_cell_tmp (p := 2) (u := 3) (ty := 25) (by kernel_rfl)]
      go_simp
    · refine ⟨by rw [HE.out]; rfl, ?_⟩
      first
        | exact HB0.out
        | exact (HB0.out.setCell (p := ⟨w.heap.size, 0, none⟩) (show w.heap.size ≤ w.heap.size by omega) _).setCell (p := ⟨w.heap.size, 1, none⟩) (show w.heap.size ≤ w.heap.size by omega) _

/-- The greatest order of n numbers, and which orders these have. -/
def fin (n : Nat) : Nat := min 6 (Lib.bitLen n - 1)
def ord (n : Nat) (p : Int) : Prop := 0 ≤ p ∧ p ≤ (fin n : Int)
instance (n : Nat) (p : Int) : Decidable (ord n p) := by unfold ord; infer_instance
theorem clamp6 (x : Int) (y : Nat) (h : (x < 0 ∧ y = 0) ∨ (6 < x ∧ y = 6) ∨ (0 ≤ x ∧ x ≤ 6 ∧ (y : Int) = x)) (w : World) : Calls Try.prog 72 #[.int .i64 x, .int .i64 0, .int .i64 6] w fun e w' => e = .returned (.int .i64 (y : Int)) ∧ w = w' := by
  rcases h with ⟨h0, rfl⟩ | ⟨h1, rfl⟩ | ⟨h0, h1, h2⟩
  · go_enter Try.func72, Try.ntmps72
    go_wp2_with fail
    go_ret
    exact ⟨rfl, rfl⟩
  · have h0 : ¬ x < 0 := by omega
    go_enter Try.func72, Try.ntmps72
    go_wp2_with fail
    go_ret
    exact ⟨rfl, rfl⟩
  · have h3 : ¬ x < 0 := by omega
    have h4 : ¬ 6 < x := by omega
    rw [h2]
    clear h2
    go_enter Try.func72, Try.ntmps72
    go_wp2_with fail
    go_ret
    exact ⟨rfl, rfl⟩
theorem finest_any (n : Nat) (hn : n ≤ 9223372036854775807) (w : World) : Calls Try.prog 44 #[.int .i64 (n : Int)] w fun e w' => e = .returned (.int .i64 (fin n : Int)) ∧ w = w' := by
  have hw := width_any n (by omega) w
  have h64 := bl64 (show n < 18446744073709551616 by omega)
  have HC : RowKit.Hid (Calls Try.prog 72 #[.int .i64 ((Lib.bitLen n : Int) - 1), .int .i64 0, .int .i64 6] w fun e w' => e = .returned (.int .i64 (fin n : Int)) ∧ w = w') := hid (clamp6 _ _ (by unfold fin; omega) w)
  generalize fin n = y at *
  generalize Lib.bitLen n = x at *
  go_enter Try.func44, Try.ntmps44
  go_wp2_with fail
  refine hw.mono ?_
  rintro e w' ⟨rfl, rfl⟩
  clear hw
  go_wp2_with fail
  refine HC.out.mono ?_
  rintro e w' ⟨rfl, rfl⟩
  go_wp2_with fail
  go_ret
  exact ⟨rfl, rfl⟩
theorem isorder_any (n : Nat) (hn : n ≤ 9223372036854775807) (p : Int) (w : World) : Calls Try.prog 48 #[.int .i64 p, .int .i64 (n : Int)] w fun e w' => e = .returned (.bool (decide (ord n p))) ∧ w = w' := by
  have hf := finest_any n hn w
  by_cases h0 : 0 ≤ p
  · have e : decide (ord n p) = decide (p ≤ (fin n : Int)) := decide_eq_decide.2 ⟨fun h => h.2, fun h => ⟨h0, h⟩⟩
    rw [e]
    generalize fin n = y at *
    clear e
    go_enter Try.func48, Try.ntmps48
    go_wp2_with fail
    refine hf.mono ?_
    rintro e w' ⟨rfl, rfl⟩
    clear hf
    go_wp2_with fail
    go_ret
    exact ⟨rfl, rfl⟩
  · rw [decide_eq_false (fun h => h0 h.1)]
    clear hf
    go_enter Try.func48, Try.ntmps48
    go_wp2_with fail
    go_ret
    exact ⟨rfl, rfl⟩
theorem two_le_bl {n p : Nat} (hn : n < 18446744073709551616) (h0 : 0 < n) : p ≤ Lib.bitLen n - 1 ↔ 2 ^ p ≤ n := by
  obtain ⟨a, b, c⟩ := bl_bounds n hn (by omega)
  constructor
  · intro h
    exact Nat.le_trans (Nat.pow_le_pow_right (by decide) h) b
  · intro h
    rcases Nat.lt_or_ge (Lib.bitLen n - 1) p with h1 | h1
    · have := Nat.pow_le_pow_right (n := 2) (by decide) (show Lib.bitLen n ≤ p by omega)
      omega
    · exact h1
theorem ord_iff {n : Nat} (hn : n < 18446744073709551616) (p : Nat) : ord n (p : Int) ↔ p = 0 ∨ (p ≤ 6 ∧ 2 ^ p ≤ n) := by
  unfold ord fin
  by_cases h0 : 0 < n
  · have := two_le_bl (p := p) hn h0
    constructor
    · rintro ⟨_, h⟩
      by_cases e : p = 0
      · exact .inl e
      · exact .inr ⟨by omega, this.1 (by omega)⟩
    · rintro (rfl | ⟨h1, h2⟩)
      · exact ⟨by omega, by omega⟩
      · have := this.2 h2
        exact ⟨by omega, by omega⟩
  · obtain rfl : n = 0 := by omega
    have hb : Lib.bitLen 0 = 0 := by decide
    rw [hb]
    have : 0 < 2 ^ p := Nat.two_pow_pos p
    constructor
    · rintro ⟨_, h⟩; exact .inl (by omega)
    · rintro (rfl | ⟨_, h⟩)
      · exact ⟨by omega, by omega⟩
      · omega
end Go.Proofs.Ytjimamjhakainaa.Part
/- Where a part begins and ends, in the program and in the document; the document's orders. Conditions: those that each lemma names. -/
namespace Go.Proofs.Ytjimamjhakainaa.Part
open Go.RowKit Bit Rice Runs

def bd (n p i : Nat) : Nat := i * n / 2 ^ p
def BdPost (w : World) (x y : Int) (e : Ending) (w' : World) : Prop := e = .returned (.tuple #[.int .i64 x, .int .i64 y]) ∧ w' = w
theorem shr_val (m p : Nat) : ((m : Int) / 2 ^ p) = ((m / 2 ^ p : Nat) : Int) := by push_cast; rfl
set_option maxRecDepth 100000 in
set_option maxHeartbeats 2000000 in
theorem bounds_in (n p i : Nat) (hn : n ≤ 65536) (hp : p ≤ 6) (hi : i < 2 ^ p) (w : World) :
    Calls Try.prog 14 #[.int .i64 (n : Int), .int .i64 (p : Int), .int .i64 (i : Int)] w (fun e w' => e = .returned (.tuple #[.int .i64 (bd n p i : Int), .int .i64 (bd n p (i + 1) : Int)]) ∧ ∃ nq, w' = w.drewN nq) := by
  have h1 : i * n ≤ 64 * 65536 := Nat.mul_le_mul (Nat.le_of_lt (Nat.lt_of_lt_of_le hi (Nat.pow_le_pow_right (n := 2) (by decide) hp))) hn
  have h2 : (i + 1) * n ≤ 64 * 65536 := Nat.mul_le_mul (Nat.lt_of_lt_of_le hi (Nat.pow_le_pow_right (n := 2) (by decide) hp)) hn
  unfold bd
  obtain ⟨m, hm⟩ : ∃ m, i * n = m := ⟨_, rfl⟩
  obtain ⟨k, hk⟩ : ∃ k, (i + 1) * n = k := ⟨_, rfl⟩
  have e1 : (i : Int) * (n : Int) = (m : Int) := by rw [← hm]; push_cast; rfl
  have e2 : ((i : Int) + 1) * (n : Int) = (k : Int) := by rw [← hk]; push_cast; rfl
  have g1 : ¬ (n : Int) < 0 := by omega
  have g2 : ¬ (65536 : Int) < (n : Int) := by omega
  have g3 : ¬ (i : Int) < 0 := by omega
  rw [hm, hk]
  rw [hm] at h1
  rw [hk] at h2
  clear hm hk hn
  rcases (show p = 0 ∨ p = 1 ∨ p = 2 ∨ p = 3 ∨ p = 4 ∨ p = 5 ∨ p = 6 by omega) with rfl | rfl | rfl | rfl | rfl | rfl | rfl
  all_goals
    have g4 : (i : Int) ≤ 63 := by omega
    go_enter Try.func14, Try.ntmps14
    go_wp2_with fail
    all_goals first
      | (exfalso; omega)
      | (go_quiet (fail)
         go_wp2_with fail
         go_ret2
         exact ⟨by simp, _, rfl⟩)

theorem bounds_out (n p i : Int) (h : n < 0 ∨ 65536 < n ∨ p < 0 ∨ 6 < p ∨ i < 0 ∨ (2 : Int) ^ p.toNat ≤ i) (w : World) :
    Calls Try.prog 14 #[.int .i64 n, .int .i64 p, .int .i64 i] w fun e w' => e = .returned (.tuple #[.int .i64 0, .int .i64 0]) ∧ w = w' := by
  by_cases h1 : n < 0
  · clear h
    go_enter Try.func14, Try.ntmps14
    go_wp2_with fail
    go_ret2
    exact ⟨rfl, rfl⟩
  by_cases h2 : 65536 < n
  · clear h
    go_enter Try.func14, Try.ntmps14
    go_wp2_with fail
    go_ret2
    exact ⟨rfl, rfl⟩
  by_cases h3 : p < 0
  · clear h
    go_enter Try.func14, Try.ntmps14
    go_wp2_with fail
    go_ret2
    exact ⟨rfl, rfl⟩
  by_cases h4 : 6 < p
  · clear h
    go_enter Try.func14, Try.ntmps14
    go_wp2_with fail
    go_ret2
    exact ⟨rfl, rfl⟩
  by_cases h5 : i < 0
  · clear h
    go_enter Try.func14, Try.ntmps14
    go_wp2_with fail
    go_ret2
    exact ⟨rfl, rfl⟩
  have h6 : (2 : Int) ^ p.toNat ≤ i := by omega
  clear h
  obtain ⟨k, rfl⟩ : ∃ k : Nat, p = (k : Int) := ⟨p.toNat, by omega⟩
  rw [Int.toNat_natCast] at h6
  rcases (show k = 0 ∨ k = 1 ∨ k = 2 ∨ k = 3 ∨ k = 4 ∨ k = 5 ∨ k = 6 by omega) with rfl | rfl | rfl | rfl | rfl | rfl | rfl
  all_goals
    clear h3 h4
    simp only [Int.reducePow] at h6
    go_enter Try.func14, Try.ntmps14
    go_wp2_with fail
    all_goals first
      | (exfalso; omega)
      | (go_ret2
         exact ⟨rfl, rfl⟩)
theorem power_p (p y : Nat) (hp : p ≤ 6) (hy : 2 ^ p = y) (w : World) : Calls Try.prog 43 #[.int .i64 (p : Int)] w fun e w' => e = .returned (.int .i64 (y : Int)) ∧ w = w' := power_gen p y (by omega) hy w
theorem rorder_any (n : Nat) (hn : n ≤ 9223372036854775807) (p : Int) (w : World) : Calls Try.prog 23 #[.int .i64 (n : Int), .int .i64 p] w fun e w' => e = .returned (.bool (decide (ord n p))) ∧ w = w' := by
  by_cases h0 : p = 0
  · subst h0
    rw [decide_eq_true (show ord n 0 from (ord_iff (by omega) 0).2 (.inl rfl))]
    go_enter Try.func23, Try.ntmps23
    go_wp2_with fail
    go_ret
    exact ⟨rfl, rfl⟩
  · have hb : (p == 0) = false := beq_eq_false_iff_ne.2 h0
    by_cases h1 : 1 ≤ p
    · obtain ⟨k, rfl⟩ : ∃ k : Nat, p = (k : Int) := ⟨p.toNat, by omega⟩
      by_cases h6 : (k : Int) ≤ 6
      · have hp := power_p k (2 ^ k) (by omega) rfl w
        have e : decide (ord n (k : Int)) = decide (((2 ^ k : Nat) : Int) ≤ (n : Int)) := decide_eq_decide.2 ((ord_iff (by omega) k).trans ⟨fun h => by rcases h with h | h <;> omega, fun h => .inr ⟨by omega, by omega⟩⟩)
        rw [e]
        clear e h0
        generalize 2 ^ k = y at *
        go_enter Try.func23, Try.ntmps23
        go_wp2_with fail
        refine hp.mono ?_
        rintro e w' ⟨rfl, rfl⟩
        clear hp
        go_wp2_with fail
        go_ret
        exact ⟨congrArg (fun z : Bool => Ending.returned (.bool z)) (decide_eq_decide.2 (by omega)), rfl⟩
      · rw [decide_eq_false (fun h => by have := (ord_iff (by omega) k).1 h; omega)]
        clear h0
        go_enter Try.func23, Try.ntmps23
        go_wp2_with fail
        go_ret
        exact ⟨rfl, rfl⟩
    · rw [decide_eq_false (fun h => by have := h.1; omega)]
      clear h0
      go_enter Try.func23, Try.ntmps23
      go_wp2_with fail
      go_ret
      exact ⟨rfl, rfl⟩
set_option maxRecDepth 100000 in
set_option maxHeartbeats 2000000 in
theorem rbounds_any (n p i : Nat) (hn : n ≤ 65536) (hp : p ≤ 6) (hi : i < 2 ^ p) (w : World) :
    Calls Try.prog 15 #[.int .i64 (n : Int), .int .i64 (p : Int), .int .i64 (i : Int)] w (fun e w' => e = .returned (.tuple #[.int .i64 (bd n p i : Int), .int .i64 (bd n p (i + 1) : Int)]) ∧ ∃ nq, w' = w.drewN nq) := by
  have h1 : i * n ≤ 64 * 65536 := Nat.mul_le_mul (Nat.le_of_lt (Nat.lt_of_lt_of_le hi (Nat.pow_le_pow_right (n := 2) (by decide) hp))) hn
  have h2 : (i + 1) * n ≤ 64 * 65536 := Nat.mul_le_mul (Nat.lt_of_lt_of_le hi (Nat.pow_le_pow_right (n := 2) (by decide) hp)) hn
  unfold bd
  obtain ⟨m, hm⟩ : ∃ m, i * n = m := ⟨_, rfl⟩
  obtain ⟨k, hk⟩ : ∃ k, (i + 1) * n = k := ⟨_, rfl⟩
  have e1 : (i : Int) * (n : Int) = (m : Int) := by rw [← hm]; push_cast; rfl
  have e2 : ((i : Int) + 1) * (n : Int) = (k : Int) := by rw [← hk]; push_cast; rfl
  rw [hm, hk]
  rw [hm] at h1
  rw [hk] at h2
  have hwm : IntKind.i64.wrap (m : Int) = (m : Int) := IntWalk.i64_in _ (by omega)
  have hwk : IntKind.i64.wrap (k : Int) = (k : Int) := IntWalk.i64_in _ (by omega)
  obtain ⟨y, hy⟩ : ∃ y, 2 ^ p = y := ⟨_, rfl⟩
  have HPW := hid fun wr => power_p p y hp hy wr
  have hy0 : 0 < y := by rw [← hy]; exact Nat.two_pow_pos p
  have hy1 : (y : Int) ≠ 0 := by omega
  have hi63 : i < 64 := Nat.lt_of_lt_of_le hi (Nat.pow_le_pow_right (n := 2) (by decide) hp)
  rw [hy]
  have g4 : (i : Int) ≤ 63 := by omega
  have HQ1 : RowKit.Hid (wrap64 ((m : Int) / (y : Int)) = ((m / y : Nat) : Int)) := hid (by
    have hle := Nat.div_le_self m y
    rw [show (m : Int) / (y : Int) = ((m / y : Nat) : Int) from by push_cast; rfl]
    generalize m / y = q at *
    exact IntWalk.wrap64_in _ (by omega))
  have HQ2 : RowKit.Hid (wrap64 ((k : Int) / (y : Int)) = ((k / y : Nat) : Int)) := hid (by
    have hle := Nat.div_le_self k y
    rw [show (k : Int) / (y : Int) = ((k / y : Nat) : Int) from by push_cast; rfl]
    generalize k / y = q at *
    exact IntWalk.wrap64_in _ (by omega))
  clear hm hk hn hi hp hy
  go_enter Try.func15, Try.ntmps15
  go_wp2_with fail
  go_quiet (first | (go_at_call 43; refine Calls.quiet_of_same (qt (HPW.out _))))
  rw [HQ1.out, HQ2.out]
  go_wp2_with fail
  go_ret2
  exact ⟨rfl, _, rfl⟩
end Go.Proofs.Ytjimamjhakainaa.Part
