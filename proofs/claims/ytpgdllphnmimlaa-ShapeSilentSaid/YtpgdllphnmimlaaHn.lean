/- Targets of the program. Conditions: both lists lie in memory, as many numbers in each, at most 2^40. -/
import Derived.Test.YtpgdllphnmimlaaHm
import Derived.Deep.Slices
namespace Go.Proofs.Ytpgdllphnmimlaa.Shape
open Go.RowKit Gen

/-- The misses of the first samples. -/
def mlist (k : Nat) (X Y : Nat → Int) : Nat → List Int
  | 0 => []
  | j + 1 => mlist k X Y j ++ [mis (Y j) (tg k (mL (mlist k X Y j)) (X j))]
/-- The target of a sample. -/
def tt (k : Nat) (X Y : Nat → Int) (j : Nat) : Int := tg k (mL (mlist k X Y j)) (X j)
theorem ml_next (k : Nat) (X Y : Nat → Int) (j : Nat) : mlist k X Y (j + 1) = mlist k X Y j ++ [mis (Y j) (tt k X Y j)] := rfl
theorem ml_low (k : Nat) (X Y : Nat → Int) : ∀ j, lowM (mL (mlist k X Y j))
  | 0 => low0
  | j + 1 => by rw [ml_next, mL_app]; exact low_nx (ml_low k X Y j) (mis_in _ _)
theorem ml_len (k : Nat) (X Y : Nat → Int) : ∀ j, (mlist k X Y j).length = j
  | 0 => rfl
  | j + 1 => by rw [ml_next, List.length_append, ml_len k X Y j]; rfl
theorem tt_in {k : Nat} (hk : k ≤ 3) (X Y : Nat → Int) (j : Nat) : -1099511627776 ≤ tt k X Y j ∧ tt k X Y j ≤ 1099511627776 := tg_in k hk (ml_low k X Y j) _

/-- The targets that are being filled in at g, the shaper at q. -/
structure Ts (w wr : World) (q g k n : Nat) (X Y : Nat → Int) (j : Nat) (t : Int) : Prop where
  s : Shp wr q k (mL (mlist k X Y j)) t
  r : wr.rowIs g 3 n (fun i => .int .i64 (if i < j then tt k X Y i else 0))
  tb : -1099511627776 ≤ t ∧ t ≤ 1099511627776
  bel : Below w.heap.size w wr
  qw : w.heap.size ≤ q
  gw : w.heap.size ≤ g
  qg : q ≠ g
theorem Ts.cell {w wr : World} {q g k n : Nat} {X Y : Nat → Int} {j : Nat} {t : Int} (h : Ts w wr q g k n X Y j t) (hj : j < n) : wr.cell? ⟨g, j, none⟩ = some (.int .i64 0) := by
  have := h.r.cell hj
  rw [if_neg (Nat.lt_irrefl j)] at this
  exact this
/-- Aimed at, and filled in. -/
theorem Ts.aim {w wr w2 : World} {q g k n : Nat} {X Y : Nat → Int} {j : Nat} {t : Int} (hk : k ≤ 3) (h : Ts w wr q g k n X Y j t) (hs : Shp w2 q k (mL (mlist k X Y j)) (tt k X Y j)) (hf : Fr (fun b => b = q) wr w2) :
    w2.cell? ⟨g, j, none⟩ = wr.cell? ⟨g, j, none⟩ ∧ w2.frozen? ⟨g, j, none⟩ = false ∧ Ts w w2 q g k n X Y j (tt k X Y j) := by
  have hr : w2.rowIs g 3 n (fun i => .int .i64 (if i < j then tt k X Y i else 0)) := h.r.of_block (hf.block g h.r.lt fun e => h.qg e.symm)
  exact ⟨hf.cell (p := ⟨g, j, none⟩) h.r.lt fun e => h.qg e.symm, hr.frozen j, ⟨hs, hr, tt_in hk X Y j, bel_fr h.bel hf h.qw, h.qw, h.gw, h.qg⟩⟩
/-- Filled in. -/
structure Tf (w wr : World) (q g k n : Nat) (X Y : Nat → Int) (j : Nat) : Prop where
  s : Shp wr q k (mL (mlist k X Y j)) (tt k X Y j)
  r : wr.rowIs g 3 n (fun i => .int .i64 (if i < j + 1 then tt k X Y i else 0))
  tb : -1099511627776 ≤ tt k X Y j ∧ tt k X Y j ≤ 1099511627776
  bel : Below w.heap.size w wr
  qw : w.heap.size ≤ q
  gw : w.heap.size ≤ g
  qg : q ≠ g
theorem Ts.fill {w wr : World} {q g k n : Nat} {X Y : Nat → Int} {j : Nat} (h : Ts w wr q g k n X Y j (tt k X Y j)) : Tf w (wr.setCell ⟨g, j, none⟩ (.int .i64 (tt k X Y j))) q g k n X Y j := by
  have hf := frq (w := wr) (q := g) j (.int .i64 (tt k X Y j))
  refine ⟨h.s.fr hf h.qg, (h.r.set j _).congr fun i hi => ?_, h.tb, bel_fr h.bel hf h.gw, h.qw, h.gw, h.qg⟩
  by_cases e : i = j
  · subst e; rw [if_pos rfl, if_pos (Nat.lt_succ_self i)]
  · rw [if_neg e]
    by_cases e2 : i < j
    · rw [if_pos e2, if_pos (by omega)]
    · rw [if_neg e2, if_neg (by omega)]
theorem Tf.note {w wr w2 : World} {q g k n : Nat} {X Y : Nat → Int} {j : Nat} (h : Tf w wr q g k n X Y j) (hs : Shp w2 q k (nx (mL (mlist k X Y j)) (mis (Y j) (tt k X Y j))) (tt k X Y j)) (hf : Fr (fun b => b = q) wr w2) : Ts w w2 q g k n X Y (j + 1) (tt k X Y j) :=
  ⟨by rw [ml_next, mL_app]; exact hs, h.r.of_block (hf.block g h.r.lt fun e => h.qg e.symm), h.tb, bel_fr h.bel hf h.qw, h.qw, h.gw, h.qg⟩
theorem ts_new {w w1 : World} {q k : Nat} (n : Nat) (X Y : Nat → Int) (hs : Shp w1 q k (fun _ => 0) 0) (hq : w.heap.size ≤ q) (hb : Below w.heap.size w w1) : Ts w (w1.alloc (.cells (madeCells #[.int .i64 0] n) 3)) q w1.heap.size k n X Y 0 0 :=
  ⟨hs.below (below_new _ _), (World.rowIs_made w1 (.int .i64 0) n 3).congr fun i _ => by rw [if_neg (Nat.not_lt_zero i)], by decide, hb.alloc hb.size _, hq, hb.size, Nat.ne_of_lt hs.lt⟩
/-- A list of targets in new memory. -/
def TsPost (w : World) (n : Nat) (T : Nat → Int) (e : Ending) (w' : World) : Prop := ∃ lo cap b, e = .returned (.tuple #[.slice lo n cap, .int .i64 0]) ∧ Isb w' lo n b 0 T ∧ (0 < n → w.heap.size ≤ b) ∧ Below w.heap.size w w'
theorem Ts.post {w wr : World} {q g k n : Nat} {X Y : Nat → Int} {t : Int} (h : Ts w wr q g k n X Y n t) (hn : n ≤ 1099511627776) : TsPost w n (tt k X Y) (.returned (.tuple #[.slice (some ⟨g, 0, none⟩) n n, .int .i64 0])) wr :=
  ⟨_, n, g, rfl, ⟨fun _ => rfl, fun i hi => by rw [Nat.zero_add, h.r.cell hi, if_pos hi], fun _ => h.r.lt, by omega⟩, fun _ => h.gw, h.bel⟩
set_option maxHeartbeats 3200000 in
theorem targets_any (w : World) (k : Nat) (hk : k ≤ 3) (a a' : Option Addr) (n cap cap' b off b' off' : Nat) (X Y : Nat → Int) (h : Isb w a n b off X) (h' : Isb w a' n b' off' Y) (hn : n ≤ 1099511627776) :
    Calls Try.prog 18 #[.int .i64 (k : Int), .slice a n cap, .slice a' n cap'] w (TsPost w n (tt k X Y)) := by
  have H := hid h
  have H' := hid h'
  have HK := hid hk
  clear h h' hk
  have hmk : ∀ w, (Instr.makeSlice 26 (.int .i64 (n : Int)) (.int .i64 (n : Int))).run Try.prog w = .ok (.slice (some ⟨w.heap.size, 0, none⟩) n n) (w.alloc (.cells (madeCells #[.int .i64 0] n) 3)) := fun w =>
    run_make_row' (P := Try.prog) 26 3 (.int .i64 0) 8 Try.underlying26 Try.info3 rfl .i64 .i64 n (by omega) (by omega) w
  go_enter Try.func18, Try.ntmps18
  go_wp2_with fail
  refine (new_any k HK.out w).mono ?_
  rintro e w1 ⟨q, rfl, hs1, hq, hb1⟩
  have HT := hid (ts_new n X Y hs1 hq hb1)
  clear hs1 hb1 hq
  go_wp2_with fail
  generalize w1.alloc (.cells (madeCells #[.int .i64 0] n) 3) = W1 at *
  generalize w1.heap.size = g at *
  clear hmk
  have hln := H.out.hl
  go_loopg [33] n (fun gh i wr => ∃ (j : Nat) (t : Int), j ≤ n ∧ gh = n - j ∧ i = .int .i64 j ∧ Ts w wr q g k n X Y j t)
  case atStart => exact ⟨0, 0, Nat.zero_le _, rfl, rfl, HT.out⟩
  case round =>
    obtain ⟨j, t, hj, hg, rfl, hts⟩ := hrel
    have HG := hid hg
    have HTS := hid hts
    clear hg hts HT
    by_cases hlt : j < n
    · have hlt2 : (j : Int) < (n : Int) := by omega
      obtain rfl := H.out.addr (by omega)
      obtain rfl := H'.out.addr (by omega)
      have ck := (H.out.below HTS.out.bel H.out.lt).c j hlt
      have HTA := hid (target_any HTS.out.s HK.out (ml_low k X Y j) (X j))
      unfold TgPost at HTA
      have etg : tg k (mL (mlist k X Y j)) (X j) = tt k X Y j := rfl
      rw [etg] at HTA
      clear etg
      have HAIM := hid fun (w2 : World) hs hf => HTS.out.aim (w2 := w2) HK.out hs hf
      have HFI := hid fun (w2 : World) (h : Ts w w2 q g k n X Y j (tt k X Y j)) => h.fill
      have HCL := hid (HTS.out.cell hlt)
      have HNT := hid fun (w2 : World) (h : Tf w w2 q g k n X Y j) => note_any h.s h.tb (Y j)
      have HNN := hid fun (w2 w3 : World) (h : Tf w w2 q g k n X Y j) hs hf => h.note (w2 := w3) hs hf
      have HYC := hid fun (w2 : World) (h : Tf w w2 q g k n X Y j) => (H'.out.below h.bel H'.out.lt).c j hlt
      have HSUC := hid fun (w2 : World) (h : Ts w w2 q g k n X Y (j + 1) (tt k X Y j)) => h
      generalize X j = x at *
      generalize Y j = y at *
      generalize tt k X Y j = T at *
      go_wp2_with fail
      refine HTA.out.mono ?_
      rintro e w2 ⟨rfl, hs2, hf2⟩
      obtain ⟨hc2, hfz2, ht2⟩ := HAIM.out w2 hs2 hf2
      rw [HCL.out] at hc2
      have HT2 := hid (HFI.out w2 ht2)
      clear hs2 hf2 ht2 ck
      have cy := HYC.out _ HT2.out
      go_wp2_with fail
      refine (HNT.out _ HT2.out).mono ?_
      rintro e w3 ⟨rfl, hs3, hf3⟩
      have HT3 := hid (HNN.out _ _ HT2.out hs3 hf3)
      clear hs3 hf3 cy hc2 hfz2
      go_wp2_with fail
      go_roundg (n - (j + 1))
      case measure => rw [HG.out]; omega
      case rel => exact ⟨j + 1, T, by omega, rfl, by go_num, HT3.out⟩
    · have hge : ¬ (j : Int) < (n : Int) := by omega
      obtain rfl : j = n := by omega
      have HF := hid (HTS.out.post hn)
      go_wp2_with fail
      go_ret2
      exact HF.out
theorem targets_bad (w : World) (x : Int) (hx : ¬ (0 ≤ x ∧ x < 4)) (l l' : Value) : Calls Try.prog 18 #[.int .i64 x, l, l'] w fun e w' => e = .returned (.tuple #[.slice none 0 0, .int .i64 1]) ∧ Below w.heap.size w w' := by
  have HX := hid hx
  clear hx
  go_enter Try.func18, Try.ntmps18
  go_wp2_with fail
  refine (new_bad x HX.out w).mono ?_
  rintro e w1 ⟨rfl, rfl⟩
  go_wp2_with fail
  go_ret2
  exact ⟨rfl, Below.refl _ _⟩
theorem targets_len (w : World) (k : Nat) (hk : k ≤ 3) (a a' : Option Addr) (n n' cap cap' : Nat) (h : ¬ n = n') : Calls Try.prog 18 #[.int .i64 (k : Int), .slice a n cap, .slice a' n' cap'] w fun e w' => e = .returned (.tuple #[.slice none 0 0, .int .i64 22]) ∧ Below w.heap.size w w' := by
  have e1 : ((n : Int) != (n' : Int)) = true := bne_iff_ne.2 (by omega)
  have HK := hid hk
  clear h hk
  go_enter Try.func18, Try.ntmps18
  go_wp2_with fail
  refine (new_any k HK.out w).mono ?_
  rintro e w1 ⟨q, rfl, hs1, hq, hb1⟩
  have HB := hid hb1
  clear hs1 hq hb1
  go_wp2_with fail
  go_ret2
  exact ⟨rfl, HB.out⟩
end Go.Proofs.Ytpgdllphnmimlaa.Shape
