/- Targets of the document. Conditions: both lists lie in memory, as many numbers in each, at most 2^40. -/
import Derived.Test.YtpgdllphnmimlaaHn
namespace Go.Proofs.Ytpgdllphnmimlaa.Shape
open Go.RowKit Gen

/-- The first targets. -/
def tlist (k : Nat) (X Y : Nat → Int) : Nat → List Int
  | 0 => []
  | j + 1 => tlist k X Y j ++ [tt k X Y j]
theorem tl_next (k : Nat) (X Y : Nat → Int) (j : Nat) : tlist k X Y (j + 1) = tlist k X Y j ++ [tt k X Y j] := rfl
theorem tl_len (k : Nat) (X Y : Nat → Int) : ∀ j, (tlist k X Y j).length = j
  | 0 => rfl
  | j + 1 => by rw [tl_next, List.length_append, tl_len k X Y j]; rfl
theorem tl_at (k : Nat) (X Y : Nat → Int) : ∀ j i, i < j → gd (tlist k X Y j) i = tt k X Y i
  | 0, i, h => absurd h (Nat.not_lt_zero i)
  | j + 1, i, h => by
    unfold gd
    rw [tl_next, List.getD_eq_getElem?_getD]
    by_cases e : i = j
    · subst e
      rw [List.getElem?_append_right (by rw [tl_len]; omega), tl_len, Nat.sub_self]; rfl
    · rw [List.getElem?_append_left (by rw [tl_len]; omega), ← List.getD_eq_getElem?_getD]
      exact tl_at k X Y j i (by omega)
/-- Two lists of a call's own, apart from each other. -/
structure Rs (w wr : World) (lo : Option Addr) (cap : Nat) (L : List Int) (lm : Option Addr) (capm : Nat) (M : List Int) : Prop where
  l : Il wr w.heap.size lo cap L
  m : Il wr w.heap.size lm capm M
  sep : ∀ g, blk lo = some g → blk lm ≠ some g
  bel : Below w.heap.size w wr
theorem Rs.below {w wr w2 : World} {lo lm : Option Addr} {cap capm : Nat} {L M : List Int} (h : Rs w wr lo cap L lm capm M) (hb : Below wr.heap.size wr w2) : Rs w w2 lo cap L lm capm M :=
  ⟨h.l.below hb, h.m.below hb, h.sep, h.bel.trans (hb.mono h.bel.size)⟩
theorem Rs.appL {w wr w4 : World} {lo lm : Option Addr} {cap capm gg cap' : Nat} {L M : List Int} {u : Int} (h : Rs w wr lo cap L lm capm M)
    (hown : w4.ownsRow w.heap.size 3 1 (.slice (some ⟨gg, 0, none⟩) (L.length + 1) cap') (L.length + 1) (il L ++ [.int .i64 u])) (hk : Kept wr w4 (blk lo) L.length gg) : Rs w w4 (some ⟨gg, 0, none⟩) cap' (L ++ [u]) lm capm M := by
  refine ⟨?_, h.m.block fun g hg => hk.grown.block g (h.m.lt hg).2 fun e => h.sep g e.symm hg, fun g hg e => ?_, h.bel.grown hk.grown h.bel.size fun g hg => (h.l.lt hg).1⟩
  · unfold Il; rw [List.length_append, il_app]; exact hown
  · have hg' : gg = g := Option.some.inj hg
    subst hg'
    rcases hk.at_ with h1 | h1
    · exact h.sep gg h1 e
    · have := (h.m.lt e).2; omega
theorem Rs.appM {w wr w4 : World} {lo lm : Option Addr} {cap capm gg cap' : Nat} {L M : List Int} {u : Int} (h : Rs w wr lo cap L lm capm M)
    (hown : w4.ownsRow w.heap.size 3 1 (.slice (some ⟨gg, 0, none⟩) (M.length + 1) cap') (M.length + 1) (il M ++ [.int .i64 u])) (hk : Kept wr w4 (blk lm) M.length gg) : Rs w w4 lo cap L (some ⟨gg, 0, none⟩) cap' (M ++ [u]) := by
  refine ⟨h.l.block fun g hg => hk.grown.block g (h.l.lt hg).2 fun e => h.sep g hg e.symm, ?_, fun g hg e => ?_, h.bel.grown hk.grown h.bel.size fun g hg => (h.m.lt hg).1⟩
  · unfold Il; rw [List.length_append, il_app]; exact hown
  · have hg' : gg = g := Option.some.inj e
    subst hg'
    rcases hk.at_ with h1 | h1
    · exact h.sep gg hg h1
    · have := (h.l.lt hg).2; omega
def RsRel (w : World) (k : Nat) (X Y : Nat → Int) (j : Nat) (v vm : Value) (wr : World) : Prop := ∃ (L M : List Int) (lo lm : Option Addr) (cap capm : Nat), v = .slice lo L.length cap ∧ vm = .slice lm M.length capm ∧ RowKit.Hid (L = tlist k X Y j ∧ M = mlist k X Y j) ∧ Rs w wr lo cap L lm capm M
/-- A list of targets of the document. -/
def RlPost (w : World) (n : Nat) (T : Nat → Int) (e : Ending) (w' : World) : Prop := ∃ lo cap b, e = .returned (.slice lo n cap) ∧ Isb w' lo n b 0 T ∧ (0 < n → w.heap.size ≤ b) ∧ Below w.heap.size w w'
theorem isb_congr {w : World} {a : Option Addr} {n b off : Nat} {X Y : Nat → Int} (h : Isb w a n b off X) (he : ∀ i, i < n → X i = Y i) : Isb w a n b off Y :=
  ⟨h.addr, fun i hi => by rw [← he i hi]; exact h.c i hi, h.lt, h.hl⟩
theorem rs_post {w wr : World} {k n : Nat} {X Y : Nat → Int} {lo lm : Option Addr} {cap capm : Nat} {L M : List Int} (h : Rs w wr lo cap L lm capm M) (hL : L = tlist k X Y n) (hn : n ≤ 1099511627776) : RlPost w n (tt k X Y) (.returned (.slice lo L.length cap)) wr := by
  have hl : L.length = n := by rw [hL, tl_len]
  obtain ⟨b, h1, h2⟩ := h.l.isb (by omega)
  rw [hl] at h1 h2
  exact ⟨lo, cap, b, by rw [hl], isb_congr h1 fun i hi => by rw [hL]; exact tl_at k X Y n i hi, h2, h.bel⟩
theorem rt_list2 {w wr : World} {k : Nat} {lo lm : Option Addr} {cap capm : Nat} {L M : List Int} (hk : k ≤ 3) (h : Rs w wr lo cap L lm capm M) (hl : M.length ≤ 9223372036854775807) (hm : lowM (mL M)) (x : Int) :
    Calls Try.prog 14 #[.int .i64 (k : Int), .slice lm M.length capm, .int .i64 x] wr (RtPost wr (tg k (mL M) x)) := by
  obtain ⟨b, hi, _⟩ := h.m.isb hl
  have := rtarget_any wr k hk lm M.length capm b 0 (gd M) hi (by rw [ms_mL]; exact hm) x
  rw [ms_mL] at this
  exact this
set_option maxHeartbeats 3200000 in
theorem rtargets_any (w : World) (k : Nat) (hk : k ≤ 3) (a a' : Option Addr) (n cap cap' b off b' off' : Nat) (X Y : Nat → Int) (h : Isb w a n b off X) (h' : Isb w a' n b' off' Y) (hn : n ≤ 1099511627776) :
    Calls Try.prog 19 #[.int .i64 (k : Int), .slice a n cap, .slice a' n cap'] w (RlPost w n (tt k X Y)) := by
  have H := hid h
  have H' := hid h'
  have HK := hid hk
  have hp : RsRel w k X Y 0 (.slice none 0 0) (.slice none 0 0) w := ⟨[], [], none, none, 0, 0, rfl, rfl, hid ⟨rfl, rfl⟩, ⟨Il.nil _ _, Il.nil _ _, fun g hg => (by cases hg), Below.refl _ _⟩⟩
  have HP := hid hp
  clear h h' hk hp
  obtain ⟨i0, hi, hz0, hz1, hz2⟩ := info_parts Try.info3
  go_enter Try.func19, Try.ntmps19
  go_wp2_with fail
  go_loopg [7, 8, 9] n (fun gh v vm i wr => ∃ (j : Nat), j ≤ n ∧ gh = n - j ∧ i = .int .i64 j ∧ RsRel w k X Y j v vm wr)
  case atStart => exact ⟨0, Nat.zero_le _, rfl, rfl, HP.out⟩
  case round =>
    obtain ⟨j, hj, hg, rfl, L, M, lo, lm, lcap, mcap, rfl, rfl, HLM, hrs⟩ := hrel
    have HG := hid hg
    have HRS := hid hrs
    clear hg hrs HP
    have hll : L.length = j := by rw [HLM.out.1, tl_len]
    have hml : M.length = j := by rw [HLM.out.2, ml_len]
    have HLL := hid hll
    have HML := hid hml
    by_cases hlt : j < n
    · have hlt2 : (j : Int) < (n : Int) := by omega
      obtain rfl := H.out.addr (by omega)
      obtain rfl := H'.out.addr (by omega)
      have ck := (H.out.below HRS.out.bel H.out.lt).c j hlt
      have hta := rt_list2 HK.out HRS.out (by omega) (by rw [HLM.out.2]; exact ml_low k X Y j) (X j)
      have etg : tg k (mL M) (X j) = tt k X Y j := by rw [HLM.out.2]; rfl
      rw [etg] at hta
      have HTA := hid hta
      have HTI := hid (tt_in HK.out X Y j)
      have HYC := hid fun (w2 : World) (h : Below w.heap.size w w2) => (H'.out.below h H'.out.lt).c j hlt
      have HN1 := hid (show L = tlist k X Y j → L ++ [tt k X Y j] = tlist k X Y (j + 1) from fun e => by rw [tl_next, e])
      have HN2 := hid (show M = mlist k X Y j → M ++ [mis (Y j) (tt k X Y j)] = mlist k X Y (j + 1) from fun e => by rw [ml_next, e])
      have HMI := hid fun w => rmiss_any (Y j) (tt k X Y j) HTI.out w
      clear etg hta
      generalize X j = x at *
      generalize Y j = y at *
      generalize tt k X Y j = T at *
      generalize mis y T = u at *
      clear hll hml
      go_wp2_with fail
      refine HTA.out.mono ?_
      rintro e w2 ⟨rfl, hb2⟩
      have HR2 := hid (HRS.out.below hb2)
      have HR3 := hid (HR2.out.below (below_new _ (.cells #[.int .i64 T] 3)))
      have hcell : (w2.alloc (.cells #[.int .i64 T] 3)).cell? ⟨w2.heap.size, 0, none⟩ = some (.int .i64 T) := by simp
      have hown : (w2.alloc (.cells #[.int .i64 T] 3)).ownsRow w.heap.size 3 1 (.slice lo L.length lcap) L.length (il L) := HR3.out.l
      have hBs := HR3.out.bel.size
      have hlj : L.length ≤ n := by have := HLL.out; omega
      clear ck hb2
      go_wp2_with (at_builtin; go_must (refine wpList_append_one rfl (.tmp 24) (.tmp 26) 26 rfl w.heap.size 3 i0 (.int .i64 0) 8 Try.underlying26 hi hz0 hz1 hz2 rfl lo L.length lcap (il L) rfl hown ⟨w2.heap.size, 0, none⟩ 1 (.int .i64 T) rfl hcell rfl (by unfold maxLen; omega) (by omega) hBs ?_))
      intro gg cap1 w4 hown4 hkept
      have HR4 := hid (HR3.out.appL hown4 hkept)
      clear hown4 hkept hcell hown hBs hlj
      have cy := HYC.out _ HR4.out.bel
      go_wp2_with fail
      refine (HMI.out _).mono ?_
      rintro e w5 ⟨rfl, rfl⟩
      have HR5 := hid (HR4.out.below (below_new _ (.cells #[.int .i64 u] 3)))
      have hcell : (w4.alloc (.cells #[.int .i64 u] 3)).cell? ⟨w4.heap.size, 0, none⟩ = some (.int .i64 u) := by simp
      have hown : (w4.alloc (.cells #[.int .i64 u] 3)).ownsRow w.heap.size 3 1 (.slice lm M.length mcap) M.length (il M) := HR5.out.m
      have hBs := HR5.out.bel.size
      have hlj : M.length ≤ n := by have := HML.out; omega
      clear cy
      go_wp2_with (at_builtin; go_must (refine wpList_append_one rfl (.tmp 28) (.tmp 35) 26 rfl w.heap.size 3 i0 (.int .i64 0) 8 Try.underlying26 hi hz0 hz1 hz2 rfl lm M.length mcap (il M) rfl hown ⟨w4.heap.size, 0, none⟩ 1 (.int .i64 u) rfl hcell rfl (by unfold maxLen; omega) (by omega) hBs ?_))
      intro g2 cap2 w6 hown6 hkept6
      have HR6 := hid (HR5.out.appM hown6 hkept6)
      clear hown6 hkept6 hcell hown hBs hlj
      go_wp2_with fail
      go_roundg (n - (j + 1))
      case measure => rw [HG.out]; omega
      case rel => exact ⟨j + 1, by omega, rfl, by go_num, L ++ [T], M ++ [u], _, _, cap1, cap2, by rw [List.length_append]; rfl, by rw [List.length_append]; rfl, hid ⟨HN1.out HLM.out.1, HN2.out HLM.out.2⟩, HR6.out⟩
    · have hge : ¬ (j : Int) < (n : Int) := by omega
      obtain rfl : j = n := by omega
      have HF := hid (rs_post HRS.out HLM.out.1 hn)
      clear hll hml
      go_wp2_with fail
      go_ret
      exact HF.out
end Go.Proofs.Ytpgdllphnmimlaa.Shape
