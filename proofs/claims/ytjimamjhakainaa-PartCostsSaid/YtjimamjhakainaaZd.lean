/- tallies: the tallies of all parts of a list. Conditions: the list lies in memory, is coded, has the order. -/
import Derived.Test.YtjimamjhakainaaZa
namespace Go.Proofs.Ytjimamjhakainaa.Part
open Go.RowKit Go.Shelf Bit Rice Runs
attribute [local go_sem] Oper.semAt_some

theorem shl_p (p y : Nat) (hp : p ≤ 6) (hy : 2 ^ p = y) : wrap64 ((2 : Int) ^ p) = (y : Int) ∧ y ≤ 64 ∧ 1 ≤ y := by
  have h1 : y ≤ 64 := by rw [← hy]; exact Nat.pow_le_pow_right (n := 2) (by decide) hp
  have h2 : 1 ≤ y := by rw [← hy]; exact Nat.one_le_two_pow
  refine ⟨?_, h1, h2⟩
  rw [show (2 : Int) ^ p = ((2 ^ p : Nat) : Int) from by push_cast; rfl, hy]
  exact IntWalk.wrap64_in _ (by omega)
theorem mk70 (w : World) (y : Nat) (hy : y ≤ 64) : (Instr.makeSlice 70 (.int .i64 (y : Int)) (.int .i64 (y : Int))).run Try.prog w = .ok (.slice (some ⟨w.heap.size, 0, none⟩) y y) (w.alloc (.cells (madeCells (tal 0 0 fun _ => 0) (y * 33)) 60)) := by
  obtain ⟨i0, hi, hz0, hz1, hz2⟩ := info_parts Try.info60
  have hm := run_make (P := Try.prog) w 70 60 i0 (.agg (tal 0 0 fun _ => 0)) Try.underlying70 hi hz0 .i64 .i64 (y : Int) (y : Int) (by omega) (by omega) (by rw [hz2]; omega) (by omega)
  rw [hz1, Int.toNat_natCast] at hm
  exact hm
def TlPost (w : World) (I : Nat → Int) (len p y : Nat) (e : Ending) (w' : World) : Prop := ∃ g, e = .returned (.slice (some ⟨g, 0, none⟩) y y) ∧ Tl w' g I len p y (List.range y) ∧ w.heap.size ≤ g ∧ g < w'.heap.size ∧ Below w.heap.size w w'
/-- What stands while the tallies are made. -/
structure TIn (w : World) (I : Nat → Int) (len p y : Nat) (l : List Nat) (W : World) : Prop where
  box : W.cell? ⟨w.heap.size + 1, 0, none⟩ = some (.slice (some ⟨w.heap.size, 0, none⟩) y y)
  tl : Tl W w.heap.size I len p y l
  below : Below w.heap.size w W
theorem tin_own (w : World) (I : Nat → Int) (len p y : Nat) {B : Nat} (hB : w.heap.size + 2 ≤ B) {α : Type} (f : List α → List Nat) (hB2 : ∀ s W, TIn w I len p y (f s) W → w.heap.size + 2 ≤ W.heap.size) : OwnFrom B (fun s W' => TIn w I len p y (f s) W') := by
  intro s A A' row hs hg hr
  have hsz := hB2 s A hs
  have hk : ∀ k, k < w.heap.size + 2 → A'.heap[k]? = A.heap[k]? := fun k hk => hg.block k (by omega) fun e => by have := (hr k e.symm).1; omega
  exact ⟨(World.cell?_of_block (a := ⟨w.heap.size + 1, 0, none⟩) (hk (w.heap.size + 1) (by omega))).trans hs.box, hs.tl.of_block (hk w.heap.size (by omega)), hs.below.grown hg hs.below.size fun b hb => by have := (hr b hb).1; omega⟩
theorem TIn.sz {w W : World} {I : Nat → Int} {len p y : Nat} {l : List Nat} (h : TIn w I len p y l W) : w.heap.size + 2 ≤ W.heap.size := World.block_lt_of_cell? _ _ h.box
set_option maxRecDepth 100000 in
set_option maxHeartbeats 2000000 in
theorem tallies_in (n : Nat) (hn3 : 3 ≤ n) (a : Option Addr) (len cap b off : Nat) (I : Nat → Int) (p y : Nat) (hp6 : p ≤ 6) (hy : 2 ^ p = y) (w : World)
    (h : Is w a len cap b off I) (hz : allZ I len) (hlen : len ≤ 65536) :
    CallsIn Fence.wide n Try.prog 45 #[.slice a len cap, .int .i64 (p : Int)] w (TlPost w I len p y) := by
  obtain ⟨hsh, hy64, hy1⟩ := shl_p p y hp6 hy
  have hmk := mk70 w y hy64
  have htl := tl_made w (tal 0 0 fun _ => 0) y I len p
  obtain ⟨C, hC⟩ : ∃ C, madeCells (tal 0 0 fun _ => 0) (y * 33) = C := ⟨_, rfl⟩
  rw [hC] at hmk htl
  have hpw : (0 : Int) ≤ (p : Int) := by omega
  have HZ := hid hz; have HH := hid h
  clear hz h hC
  refine callsIn_of_wp_marks Try.func45 rfl trivial ?_ rfl
  simp only [Try.ntmps45, List.size_toArray, List.length_cons, List.length_nil, Nat.reduceAdd, Nat.reduceSub, Array.replicate_succ, Array.replicate_zero, List.push_toArray, List.append_toArray, List.nil_append, List.cons_append]
  gi_wp2_with fail
  refine ⟨trivial, fun h => (by cases h), ?_⟩
  refine (callsIn_wide.2 (parts_any a len cap p _)).mono ?_
  rintro e w3 ⟨rfl, rfl⟩
  gi_wp2_with fail
  obtain ⟨W2, hW2⟩ : ∃ W2, (w.alloc (.cells C 60)).alloc (.cells #[.slice (some ⟨w.heap.size, 0, none⟩) y y] 70) = W2 := ⟨_, rfl⟩
  have h2s : W2.heap.size = w.heap.size + 2 := by rw [← hW2]; simp
  have h2b : Below w.heap.size w W2 := by rw [← hW2]; exact ((Below.refl w.heap.size w).alloc (Nat.le_refl _) _).alloc (by simp) _
  have h2t : Tl W2 w.heap.size I len p y [] := htl.of_block (by rw [← hW2]; exact RowKit.Below.heap_alloc _ _ _ (by simp))
  have h2c : W2.cell? ⟨w.heap.size + 1, 0, none⟩ = some (.slice (some ⟨w.heap.size, 0, none⟩) y y) := by
    rw [← hW2]
    have e : w.heap.size + 1 = (w.alloc (.cells C 60)).heap.size := by simp
    rw [e]; simp
  obtain ⟨Wl, hWl⟩ : ∃ Wl, (W2.alloc (.cells #[.slice a len cap] 22)).alloc (.cells #[.int .i64 (p : Int)] 3) = Wl := ⟨_, rfl⟩
  have hls : Wl.heap.size = w.heap.size + 4 := by rw [← hWl]; simp; omega
  have hlb : Below W2.heap.size W2 Wl := by rw [← hWl]; exact (((Below.refl W2.heap.size W2).alloc (Nat.le_refl _) _).alloc (by simp) _)
  have hlc0 : Wl.cell? ⟨w.heap.size + 1 + 1, 0, none⟩ = some (.slice a len cap) := by
    rw [← hWl, World.cell?_of_block (RowKit.Below.heap_alloc _ _ _ (by simp; omega)), show w.heap.size + 1 + 1 = W2.heap.size by omega]; simp
  have hlc1 : Wl.cell? ⟨w.heap.size + 1 + 1 + 1, 0, none⟩ = some (.int .i64 (p : Int)) := by
    rw [← hWl]
    have e : w.heap.size + 1 + 1 + 1 = (W2.alloc (.cells #[.slice a len cap] 22)).heap.size := by simp; omega
    rw [e]; simp
  have hlB : Below w.heap.size w Wl := h2b.trans (hlb.mono (by omega))
  have hlt : Tl Wl w.heap.size I len p y [] := h2t.of_block (hlb.block _ (by omega))
  have hlc : Wl.cell? ⟨w.heap.size + 1, 0, none⟩ = some (.slice (some ⟨w.heap.size, 0, none⟩) y y) := (hlb.cell (p := ⟨w.heap.size + 1, 0, none⟩) (by show w.heap.size + 1 < _; omega)).trans h2c
  rw [hW2, hWl]
  have HPAR := hid (parts_stops (n - 1) (w.heap.size + 1 + 1 + 1) (w.heap.size + 1 + 1) a len cap p hlen hp6 HH.out.hl y hy Wl (by omega) (by omega) hlc1 hlc0)
  have HLS := hid hls; have HLB := hid hlB; have HLT := hid hlt; have HLC := hid hlc
  clear hW2 hWl htl h2b h2t h2c hlb hlc0 hlc1 hlB hlt hlc hls h2s
  refine wpIn_rangeFunc_ownG rfl (by omega) (gf := 75) (lb := #[.pointer (some ⟨w.heap.size + 1 + 1 + 1, 0, none⟩), .pointer (some ⟨w.heap.size + 1 + 1, 0, none⟩)]) rfl trivial (enters_of Try.func75 (by kernel_rfl) rfl) HPAR.out Kp2.trans
    (fun W l ob ob' hl hW _ _ => ⟨by simp, World.putObj_heap_other (by have := HLS.out; omega), World.putObj_heap_other (by have := HLS.out; omega)⟩) (Below.refl _ _) (fun _ => rfl)
    (fun pre W' => TIn w I len p y (pre.map Fin.val) W' ∧ Wl.heap.size ≤ W'.heap.size) (fun _ _ _ => False)
    (fun s A A' row hs hg hr => ⟨tin_own w I len p y (by have := HLS.out; omega) _ (fun s W h => h.sz) s A A' row hs.1 hg hr, Nat.le_trans hs.2 hg.size⟩) (fun _ _ _ _ _ hs _ _ => hs)
    ⟨⟨HLC.out, HLT.out, HLB.out⟩, Nat.le_refl _⟩
    (fun x => { tmps := #[.slice a len cap, .int .i64 (p : Int), undef, undef, .slice none 0 0, .pointer (some ⟨w.heap.size + 1, 0, none⟩), .int .i64 ((x.val : Nat) : Int), .slice (ptA a cap (bd len p x.val)) (bd len p (x.val + 1) - bd len p x.val) (cap - bd len p x.val), .int .i64 (p : Int), .int .i64 (y : Int), .slice (some ⟨w.heap.size, 0, none⟩) y y, .slice a len cap, .int .i64 (p : Int),
      .func (.func 75) #[] #[.pointer (some ⟨w.heap.size + 1 + 1 + 1, 0, none⟩), .pointer (some ⟨w.heap.size + 1 + 1, 0, none⟩)], .int .i64 ((x.val : Nat) : Int), .slice (ptA a cap (bd len p x.val)) (bd len p (x.val + 1) - bd len p x.val) (cap - bd len p x.val),
      undef, undef, undef, undef, undef, undef], defers := [] }) ?assign ?body ?done ?stop
  case assign =>
    intro l x W K hK
    unfold encP
    gi_wp2_with fail
    exact hK
  case body =>
    rintro l pre x W ⟨hI, hWl⟩ hpre
    have HB3 := hid hWl
    clear hWl
    have HI := hid hI
    have hbx := hI.box
    have hi3 := HH.out.below hI.below HH.out.lt
    have hxy : x.val < 2 ^ p := by rw [hy]; exact x.isLt
    have hisp := is_part hi3 p x.val hxy
    have hpnl : pn len p x.val ≤ 65536 := by have := pn_le len p x.val hxy; omega
    have HCNT : RowKit.Hid (∀ W', Below W.heap.size W W' → Calls Try.prog 32 #[.slice (ptA a cap (bd len p x.val)) (pn len p x.val) (cap - bd len p x.val)] W' fun e w' => e = .returned (.agg (tT I len p x.val).toArray) ∧ Below W'.heap.size W' w') := hid fun W' hb => by
      rw [tT_arr]
      exact count_any W' _ _ _ _ _ _ (is_part (hi3.below hb hi3.lt) p x.val hxy) (by omega)
    have hpne : pn len p x.val = bd len p (x.val + 1) - bd len p x.val := rfl
    rw [← hpne]
    have hxl : ((x.val : Nat) : Int) < (y : Int) := by have := x.isLt; omega
    have HST := hid fun W' (hb : Below W.heap.size W W') => run_sc (P := Try.prog) W' w.heap.size (x.val * 33) (tT I len p x.val) (by rw [tT_len]; exact (hI.tl.of_block (hb.block _ (by have := hI.sz; omega))).sub x.isLt) (tT_one I len p x.val)
    have hT33 := tT_len I len p x.val
    have HXL := hid x.isLt
    have HSET := hid fun W' (hb : Below W.heap.size W W') => (hI.tl.of_block (hb.block w.heap.size (by have := hI.sz; omega))).set x.isLt
    have HBXL := hid (World.block_lt_of_cell? _ _ hbx)
    have bd1 : Below W.heap.size W W.drew := (Below.refl _ _).drew
    generalize tT I len p x.val = T at *
    clear hpne hI hi3 hisp
    gi_wp2_with fail
    gi_region_with (first
      | (refine ⟨trivial, fun h => (by cases h), ?_⟩; refine (CallsIn.inRound l (callsIn_wide.2 (HCNT.out _ bd1))).mono ?_; rintro e w4 ⟨rfl, hb4⟩; have b4 := bd1.trans hb4; have hst := HST.out w4 b4; have hbx4 := (b4.cell (p := ⟨w.heap.size + 1, 0, none⟩) HBXL.out).trans hbx)
      )
    all_goals
      have hb5 : Below w.heap.size w w4 := HI.out.below.trans (b4.mono HI.out.below.size)
      have hls := HLS.out
      have hsz := HI.out.sz
      have hW := HB3.out
      have hfin : TIn w I len p y ((pre ++ [x]).map Fin.val) (w4.setCells w.heap.size (x.val * 33) T) := by
        refine ⟨?_, ?_, below_setCells hb5 (Nat.le_refl _) _ _⟩
        · rw [World.cell?_of_block (a := ⟨w.heap.size + 1, 0, none⟩) (heap_setCells_ne _ _ _ _ _ (by show w.heap.size + 1 ≠ _; omega)), World.cell?_of_block (a := ⟨w.heap.size + 1, 0, none⟩) (b4.block (w.heap.size + 1) (by omega))]
          exact HI.out.box
        · rw [List.map_append]
          exact HSET.out w4 b4
      have hKF : KeepsFrom Wl.heap.size W (w4.setCells w.heap.size (x.val * 33) T) := ⟨by rw [size_setCells]; exact b4.size, fun k ob hk ho _ => by
        rw [heap_setCells_ne _ _ _ _ _ (by omega), b4.block k (Array.getElem?_eq_some_iff.1 ho).1]; exact ho⟩
      have hKP : Kp2 (w.heap.size + 1 + 1 + 1) (w.heap.size + 1 + 1) W (w4.setCells w.heap.size (x.val * 33) T) := ⟨by rw [size_setCells]; exact b4.size, by rw [heap_setCells_ne _ _ _ _ _ (by omega), b4.block _ (by omega)], by rw [heap_setCells_ne _ _ _ _ _ (by omega), b4.block _ (by omega)]⟩
      have HFIN := hid hfin; have HKF := hid hKF; have HKP := hid hKP
      clear hfin hKF hKP hb5 hst b4 hb4
      gi_wp2_with fail
      exact ⟨HKF.out, HKP.out, HFIN.out, Nat.le_trans HB3.out HKP.out.1⟩
  case done =>
    rintro D xs W hD rfl ⟨hI, _⟩ hK
    rw [finRange_val] at hI
    have hI2 := (tin_own w I len p y (B := Wl.heap.size) (by have := HLS.out; omega) (fun (_ : List Nat) => List.range y) fun s W h => h.sz).putObj (s := []) (.deferred none) hI hD hK rfl
    have HFIN := hid hI2
    have hbx := hI.box
    clear hI2 hI
    gi_wp2_with fail
    refine ⟨by simp, .inl ⟨_, _, rfl, run_takeDeferred hK, ?_⟩⟩
    exact ⟨_, results_tmp rfl _ _ _, w.heap.size, rfl, HFIN.out.tl, Nat.le_refl _, by have := HFIN.out.sz; omega, HFIN.out.below⟩
  case stop =>
    rintro D c pre W _ _ h _
    exact h.elim
end Go.Proofs.Ytjimamjhakainaa.Part
