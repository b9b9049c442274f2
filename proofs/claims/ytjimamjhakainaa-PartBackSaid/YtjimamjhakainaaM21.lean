/- The tally of a list (how many noughts, the greatest Zig, what all cost with each parameter), as a value, in memory; count. Conditions: those of the memory's own form alone. -/
import Derived.Test.YtjimamjhakainaaM20
import Derived.Deep.WholeRow
import Derived.Laws.Rows
import Derived.Great.BuildSlice
namespace Go.Proofs.Ytjimamjhakainaa.Part
open Go.RowKit Bit Rice Runs

def tc (z g : Nat) (R : Nat → Nat) (i : Nat) : Value := if i = 0 then .int .i64 (z : Int) else if i = 1 then .int .u64 (g : Int) else .int .i64 (R (i - 2) : Int)
def tal (z g : Nat) (R : Nat → Nat) : Array Value := (Array.range 33).map (tc z g R)
theorem tal_size (z g : Nat) (R : Nat → Nat) : (tal z g R).size = 33 := by simp [tal]
theorem tal_at (z g : Nat) (R : Nat → Nat) (i : Nat) (h : i < 33) : (tal z g R)[i]? = some (tc z g R i) := by simp [tal, h]
theorem tal_one (z g : Nat) (R : Nat → Nat) : (tal z g R).all (·.oneCell') = true := by
  rw [Array.all_eq_true_iff_forall_mem]
  intro v hv
  obtain ⟨i, hi⟩ := Array.getElem?_of_mem hv
  have hi2 : i < 33 := by rw [← tal_size z g R]; exact (Array.getElem?_eq_some_iff.1 hi).1
  rw [tal_at z g R i hi2] at hi
  cases hi
  unfold tc
  split
  · rfl
  · split <;> rfl
theorem tal_ext {cs : Array Value} {z g : Nat} {R : Nat → Nat} (h : cs.size = 33) (h2 : ∀ i, i < 33 → cs[i]? = some (tc z g R i)) : cs = tal z g R := by
  apply Array.ext_getElem?
  intro i
  by_cases hi : i < 33
  · rw [h2 i hi, tal_at z g R i hi]
  · rw [Array.getElem?_eq_none (by omega), Array.getElem?_eq_none (by rw [tal_size]; omega)]
theorem tc_congr {z g : Nat} {R R' : Nat → Nat} (h : ∀ k, k < 31 → R k = R' k) (i : Nat) (hi : i < 33) : tc z g R i = tc z g R' i := by
  unfold tc
  split
  · rfl
  · split
    · rfl
    · rw [h (i - 2) (by omega)]
theorem tal_congr {z g : Nat} {R R' : Nat → Nat} (h : ∀ k, k < 31 → R k = R' k) : tal z g R = tal z g R' :=
  tal_ext (tal_size _ _ _) fun i hi => by rw [tal_at z g R i hi, tc_congr h i hi]
theorem row_tal {w : World} {p z g : Nat} {R : Nat → Nat} (h : w.rowIs p 60 33 (tc z g R)) : w.heap[p]? = some (.cells (tal z g R) 60 (0, 0)) := by
  obtain ⟨cs, h1, h2, h3⟩ := h
  rw [h1, tal_ext h2 h3]
theorem tal_row {w : World} {p z g : Nat} {R : Nat → Nat} (h : w.heap[p]? = some (.cells (tal z g R) 60 (0, 0))) : w.rowIs p 60 33 (tc z g R) := ⟨_, h, tal_size _ _ _, fun i hi => tal_at z g R i hi⟩
theorem Try.zero60 : (Try.prog.info? 60).map (fun i => (i.zero, i.size)) = some (some (.agg (tal 0 0 fun _ => 0)), 33) := by kernel_rfl
theorem z60 (w : World) : (zeroValue 60).run Try.prog w = .ok (.agg (tal 0 0 fun _ => 0)) w := (zero_of_info Try.zero60).1 w
theorem s60 : (Try.prog.info? 60).map (·.size) = some 33 := (zero_of_info Try.zero60).2
theorem s60t (z g : Nat) (R : Nat → Nat) : (Try.prog.info? 60).map (·.size) = some (tal z g R).size := by rw [tal_size]; exact s60
theorem below_setRow {B : Nat} {w w' : World} (h : Below B w w') {g : Nat} (hg : B ≤ g) (cs : Array Value) : Below B w (w'.setRow g cs) :=
  ⟨h.os, h.tape, h.output, by rw [size_setRow]; exact h.size, fun k hk => (setRow_other w' g k cs (by omega)).trans (h.block k hk)⟩
def TalPost (w : World) (z g : Nat) (R : Nat → Nat) (e : Ending) (w' : World) : Prop := e = .returned (.agg (tal z g R)) ∧ Below w.heap.size w w'
end Go.Proofs.Ytjimamjhakainaa.Part
/- count: the tally of a list. Conditions: a list lies in memory as its numbers, at most 2^20 of them. -/
namespace Go.Proofs.Ytjimamjhakainaa.Part
open Go.RowKit Bit Rice Runs

theorem built60 : Try.prog.built 60 [] = some (tal 0 0 fun _ => 0) := by kernel_rfl
def CSt (w1 : World) (I : Nat → Int) (n j m : Nat) (wr : World) : Prop := wr.rowIs w1.heap.size 60 33 (tc (nz I j) (gr I j) fun k => if k < m then tt I n k else 0) ∧ Below w1.heap.size w1 wr
theorem tc_0 (z g : Nat) (R : Nat → Nat) : tc z g R 0 = .int .i64 (z : Int) := rfl
theorem tc_1 (z g : Nat) (R : Nat → Nat) : tc z g R 1 = .int .u64 (g : Int) := rfl
theorem tc_2 (z g : Nat) (R : Nat → Nat) (k : Nat) : tc z g R (2 + k) = .int .i64 (R k : Int) := by
  unfold tc
  rw [if_neg (by omega), if_neg (by omega), show 2 + k - 2 = k from by omega]
theorem CSt.c0 {w1 wr : World} {I : Nat → Int} {n j m : Nat} (h : CSt w1 I n j m wr) : wr.cell? ⟨w1.heap.size, 0, none⟩ = some (.int .i64 (nz I j : Int)) := h.1.cell (show 0 < 33 by decide)
theorem CSt.c1 {w1 wr : World} {I : Nat → Int} {n j m : Nat} (h : CSt w1 I n j m wr) : wr.cell? ⟨w1.heap.size, 1, none⟩ = some (.int .u64 (gr I j : Int)) := h.1.cell (show 1 < 33 by decide)
theorem CSt.c2 {w1 wr : World} {I : Nat → Int} {n j m : Nat} (h : CSt w1 I n j m wr) (k : Nat) (hk : k < 31) : ∃ v, wr.cell? ⟨w1.heap.size, 2 + k, none⟩ = some v ∧ v.cells.size = 1 := ⟨_, h.1.cell (show 2 + k < 33 by omega), by rw [tc_2]; rfl⟩
theorem CSt.lt {w1 wr : World} {I : Nat → Int} {n j m : Nat} (h : CSt w1 I n j m wr) : w1.heap.size < wr.heap.size := h.1.lt
theorem CSt.keep {w1 wr w2 : World} {I : Nat → Int} {n j m : Nat} (h : CSt w1 I n j m wr) (hb : Below wr.heap.size wr w2) : CSt w1 I n j m w2 :=
  ⟨h.1.of_block (hb.block _ h.lt), h.2.trans (hb.mono h.2.size)⟩
theorem CSt.set {w1 wr : World} {I : Nat → Int} {n j m : Nat} (h : CSt w1 I n j m wr) (i : Nat) (v : Value) {j' m' : Nat} (hv : ∀ k, k < 33 → (if k = i then v else tc (nz I j) (gr I j) (fun k => if k < m then tt I n k else 0) k) = tc (nz I j') (gr I j') (fun k => if k < m' then tt I n k else 0) k) :
    CSt w1 I n j' m' (wr.setCell ⟨w1.heap.size, i, none⟩ v) :=
  ⟨(h.1.set i v).congr fun k hk => hv k hk, h.2.setCell (p := ⟨w1.heap.size, i, none⟩) (Nat.le_refl _) _⟩
theorem zg_zero {x : Int} (h : zg x = 0) : x = 0 := by
  by_cases e : x = 0
  · exact e
  · have := zg_pos e; omega
theorem tc_step1 (I : Nat → Int) (n j : Nat) (k : Nat) (hz : ¬ I j = 0) : (if k = 1 then Value.int .u64 ((max (gr I j) (zg (I j)) : Nat) : Int) else tc (nz I j) (gr I j) (fun k => if k < 0 then tt I n k else 0) k) = tc (nz I (j + 1)) (gr I (j + 1)) (fun k => if k < 0 then tt I n k else 0) k := by
  have e : nz I (j + 1) = nz I j := if_neg hz
  rw [e]
  unfold tc
  by_cases h : k = 1
  · subst h; rfl
  · rw [if_neg h]
    by_cases h0 : k = 0
    · rw [if_pos h0, if_pos h0]
    · rw [if_neg h0, if_neg h0, if_neg h, if_neg h]
theorem tc_step2 (I : Nat → Int) (n m k : Nat) : (if k = 2 + m then Value.int .i64 (tt I n m : Int) else tc (nz I n) (gr I n) (fun k => if k < m then tt I n k else 0) k) = tc (nz I n) (gr I n) (fun k => if k < m + 1 then tt I n k else 0) k := by
  by_cases h : k = 2 + m
  · subst h
    rw [if_pos rfl, tc_2, if_pos (by omega)]
  · rw [if_neg h]
    unfold tc
    by_cases h0 : k = 0
    · rw [if_pos h0, if_pos h0]
    · rw [if_neg h0, if_neg h0]
      by_cases h1 : k = 1
      · rw [if_pos h1, if_pos h1]
      · rw [if_neg h1, if_neg h1]
        dsimp only
        by_cases h2 : k - 2 < m
        · rw [if_pos h2, if_pos (by omega)]
        · rw [if_neg h2, if_neg (by omega)]
set_option maxRecDepth 100000 in
set_option maxHeartbeats 4000000 in
theorem count_any (w : World) (a : Option Addr) (len cap b off : Nat) (I : Nat → Int) (h : Is w a len cap b off I) (hlen : len ≤ 1000000) :
    Calls Try.prog 32 #[.slice a len cap] w (TalPost w (nz I len) (gr I len) (tt I len)) := by
  have H := hid h
  have hlt := h.lt
  have hz := z60
  have hbt := built60
  have hzs := tal_size 0 0 fun _ => 0
  have hz1 := tal_one 0 0 fun _ => 0
  have HZ := hid (show ∀ i, i < 33 → (tal 0 0 fun _ => 0)[i]? = some (tc 0 0 (fun _ => 0) i) from tal_at 0 0 fun _ => 0)
  generalize (tal 0 0 fun _ => 0) = Z at *
  have HZS := hid hzs
  have HZ1 := hid hz1
  have HBT := hid hbt
  have HIB := hid h.ib
  have hzp := zigs_any (w.alloc (.cells Z 60)) a len cap b off I (h.below ((Below.refl w.heap.size w).alloc (Nat.le_refl _) _) hlt) (by omega)
  clear h hlt hzs hz1 hbt
  go_enter Try.func32, Try.ntmps32
  go_wp2_with (refine wpList_buildTo rfl 60 #[] rfl (some 8) rfl Z HBT.out ?_)
  refine hzp.mono ?_
  rintro e w1 ⟨lo, lcap, zb, rfl, hus, hzb, hb1⟩
  clear hzp
  have HUS := hid hus
  have HB1 := hid hb1
  have HR0 := hid (show (w1.alloc (.cells Z 60)).heap[w1.heap.size]? = some (.cells Z 60 (0, 0)) from heap_alloc_new _ _)
  have HS : RowKit.Hid (CSt w1 I len 0 0 ((w1.alloc (.cells Z 60)).setRow w1.heap.size Z)) := hid ⟨⟨Z, setRow_heap _ _ _ _ _ _ HR0.out, HZS.out, fun i hi => by
      have := HZ.out i hi
      rw [this]
      exact congrArg some (tc_congr (fun k hk => by rw [if_neg (by omega)]) i hi)⟩, below_setRow ((Below.refl _ _).alloc (Nat.le_refl _) _) (Nat.le_refl _) _⟩
  clear hus hb1
  go_wp2_with (refine wpList_store_row rfl 60 _ _ rfl w1.heap.size Z rfl rfl 60 Z HR0.out (by rw [HZS.out]; exact s60) rfl HZ1.out ?_)
  clear hz
  go_loopg [13] len (fun g i wr => ∃ j : Nat, j ≤ len ∧ g = len - j ∧ i = .int .i64 j ∧ CSt w1 I len j 0 wr)
  case atStart => exact ⟨0, Nat.zero_le _, rfl, rfl, HS.out⟩
  case round =>
    obtain ⟨j, hj, hg, rfl, hst⟩ := hrel
    have HG := hid hg
    clear hg
    by_cases hlt : j < len
    · have hlt2 : (j : Int) < (len : Int) := by omega
      obtain rfl := HUS.out.addr (by omega)
      have ck := (HUS.out.below hst.2 HUS.out.lt).c j hlt
      rw [Nat.zero_add] at ck
      have c0 := hst.c0
      have c1 := hst.c1
      have f0 := hst.1.frozen 0
      have f1 := hst.1.frozen 1
      have hne : zb ≠ w1.heap.size := by have := HUS.out.lt (by omega); omega
      have HST := hid hst
      by_cases hx : I j = 0
      · have HN : RowKit.Hid (nz I (j + 1) = nz I j + 1) := hid (if_pos hx)
        have HGR : RowKit.Hid (gr I (j + 1) = gr I j) := hid (by show max (gr I j) (zg (I j)) = gr I j; rw [hx]; exact Nat.max_eq_left (by show zg 0 ≤ _; exact Nat.zero_le _))
        have hu : zs I j = 0 := by show zg (I j) = 0; rw [hx]; rfl
        rw [hu] at ck
        have hnb := nz_le I j
        obtain ⟨y, hy⟩ : ∃ y, nz I j = y := ⟨_, rfl⟩
        obtain ⟨x, hxe⟩ : ∃ x, gr I j = x := ⟨_, rfl⟩
        have HY := hid hy; have HX := hid hxe
        rw [hy] at c0 HN hnb
        rw [hxe] at c1 HGR
        clear hst hu hx hy hxe
        go_wp2_with fail
        go_roundg (len - (j + 1))
        case measure => rw [HG.out]; omega
        case rel =>
          refine ⟨j + 1, by omega, rfl, by go_num, (HST.out.set 1 (.int .u64 (x : Int)) (j' := j) (m' := 0) fun k hk => ?_).set 0 (.int .i64 ((y : Int) + 1)) fun k hk => ?_⟩
          · rw [HY.out, HX.out]
            by_cases e : k = 1
            · subst e; rfl
            · rw [if_neg e]
          · rw [HY.out, HX.out, HN.out, HGR.out]
            by_cases e : k = 0
            · subst e; rfl
            · rw [if_neg e]; unfold tc; rw [if_neg e, if_neg e]
      · have HN : RowKit.Hid (nz I (j + 1) = nz I j) := hid (if_neg hx)
        have HGR : RowKit.Hid (gr I (j + 1) = max (gr I j) (zg (I j))) := hid rfl
        have hu : ((zs I j : Nat) : Int) ≠ 0 := by have := zg_pos hx; show ((zg (I j) : Nat) : Int) ≠ 0; omega
        have hub : (((zs I j : Nat) : Int) == 0) = false := beq_eq_false_iff_ne.2 hu
        have HX := hid hx
        have HW := hid (tc_step1 I len j)
        clear hst hu hx
        have hzs : zs I j = zg (I j) := rfl
        rw [hzs] at ck hub
        clear hzs
        obtain ⟨x, hxe⟩ : ∃ x, gr I j = x := ⟨_, rfl⟩
        obtain ⟨u, hue⟩ : ∃ u, zg (I j) = u := ⟨_, rfl⟩
        have HXE := hid hxe; have HUE := hid hue
        rw [hxe] at c1 HGR
        rw [hue] at ck hub HGR
        clear hxe hue
        go_wp2_with fail
        go_roundg (len - (j + 1))
        case measure => rw [HG.out]; omega
        case rel =>
          refine ⟨j + 1, by omega, rfl, by go_num, HST.out.set 1 _ fun k hk => ?_⟩
          rw [show max (x : Int) (u : Int) = ((max x u : Nat) : Int) from by omega, ← HXE.out, ← HUE.out]
          exact HW.out k HX.out
    · have hge : ¬ (j : Int) < (len : Int) := by omega
      obtain rfl : len = j := by omega
      have HST := hid hst
      clear hst
      go_wp2_with fail
      go_loopg [29] 31 (fun g i wr => ∃ m : Nat, m ≤ 31 ∧ g = 31 - m ∧ i = .int .i64 m ∧ CSt w1 I len len m wr)
      case atStart => exact ⟨0, Nat.zero_le _, rfl, rfl, HST.out⟩
      case round =>
        obtain ⟨m, hm, hg, rfl, hst⟩ := hrel
        have HG := hid hg
        clear hg
        by_cases hlt : m < 31
        · have hlt2 : (m : Int) < 31 := by omega
          have c1 := hst.c1
          obtain ⟨v, cv, hv⟩ := hst.c2 m hlt
          have fv := hst.1.frozen (2 + m)
          have HST := hid hst
          have h64 := gr_64 I len fun i hi => HIB.out i hi
          have hwd := width_any (gr I len) h64 wr
          have H64 := hid h64
          clear hst h64
          go_wp2_with fail
          refine hwd.mono ?_
          rintro e w' ⟨rfl, rfl⟩
          clear hwd
          by_cases hw : m < Lib.bitLen (gr I len)
          · have hw2 : (m : Int) < (Lib.bitLen (gr I len) : Int) := by omega
            have HT := hid (total_any wr lo len lcap zb 0 (zs I) (HUS.out.below HST.out.2 HUS.out.lt) (by omega) (m : Int))
            go_wp2_with fail
            refine HT.out.mono ?_
            rintro e w4 ⟨rfl, hb4⟩
            have hst4 := HST.out.keep hb4
            obtain ⟨v4, cv4, hv4⟩ := hst4.c2 m hlt
            have fv4 := hst4.1.frozen (2 + m)
            have HST4 := hid hst4
            have HE := hid (show tot (zs I) (m : Int) len = tt I len m from rfl)
            clear hst4 cv fv
            go_wp2_with fail
            go_roundg (31 - (m + 1))
            case measure => rw [HG.out]; omega
            case rel =>
              refine ⟨m + 1, by omega, rfl, by go_num, HST4.out.set (2 + m) _ fun k hk => ?_⟩
              rw [HE.out]
              exact tc_step2 I len m k
          · have hw2 : ¬ (m : Int) < (Lib.bitLen (gr I len) : Int) := by omega
            have hg2 : gr I len < 2 ^ m := Nat.lt_of_lt_of_le (blt H64.out) (Nat.pow_le_pow_right (by decide) (by omega))
            have HC := hid (cost_any (gr I len) (m : Int) H64.out wr)
            have hcf := cost_flat (u := gr I len) (k := m) (by omega) hg2
            have HE := hid (show len * (m + 1) = tt I len m from (tt_flat I len m (by omega) hg2).symm)
            have hmul : len * (m + 1) ≤ 31 * len := by rw [Nat.mul_comm]; exact Nat.mul_le_mul_right _ (by omega)
            rw [hcf] at HC
            clear hg2 hcf
            go_wp2_with fail
            refine HC.out.mono ?_
            rintro e w4 ⟨rfl, rfl⟩
            have hwr : wrap64 ((len : Int) * ((m : Int) + 1)) = ((tt I len m : Nat) : Int) := by
              rw [← HE.out, show (len : Int) * ((m : Int) + 1) = ((len * (m + 1) : Nat) : Int) from by push_cast; rfl]
              exact IntWalk.wrap64_in _ (by omega)
            have HWR := hid hwr
            clear hwr hmul
            go_wp2_with fail
            rw [HWR.out]
            go_roundg (31 - (m + 1))
            case measure => rw [HG.out]; omega
            case rel => exact ⟨m + 1, by omega, rfl, by go_num, HST.out.set (2 + m) _ fun k hk => tc_step2 I len m k⟩
        · have hge : ¬ (m : Int) < 31 := by omega
          obtain rfl : m = 31 := by omega
          have HT := hid (row_tal hst.1)
          have hb2 : Below (w.heap.size + 1) (w.alloc (.cells Z 60)) w1 := by have := HB1.out; rwa [World.size_alloc] at this
          have hsz : w.heap.size + 1 ≤ w1.heap.size := by have := hb2.size; rwa [World.size_alloc] at this
          have HR1 : RowKit.Hid (wr.heap[w.heap.size]? = some (.cells Z 60 (0, 0))) := hid ((hst.2.block _ (by omega)).trans ((hb2.block _ (by omega)).trans (heap_alloc_new _ _)))
          have HB : RowKit.Hid (Below w.heap.size w wr) := hid ((((Below.refl w.heap.size w).alloc (Nat.le_refl _) _).trans (hb2.mono (by omega))).trans (hst.2.mono (by omega)))
          have HCG := hid (tal_congr (z := nz I len) (g := gr I len) (R := fun k => if k < 31 then tt I len k else 0) (R' := tt I len) fun k hk => if_pos hk)
          rw [HCG.out] at HT
          have hs1 := s60t (nz I len) (gr I len) (tt I len)
          have ho1 := tal_one (nz I len) (gr I len) (tt I len)
          have hs2 := tal_size (nz I len) (gr I len) (tt I len)
          obtain ⟨T, hT⟩ : ∃ T, tal (nz I len) (gr I len) (tt I len) = T := ⟨_, rfl⟩
          have HT2 := hid hT
          rw [hT] at hs1 ho1 hs2 HT
          clear hT HCG
          have HS1 := hid hs1; have HO1 := hid ho1; have HS2 := hid hs2
          clear hst hs1 ho1 hs2
          go_wp2_with (first
            | (refine wpList_load_row rfl 60 _ rfl w1.heap.size rfl 60 T (0, 0) _ HT.out Try.underlying60 rfl HS1.out ?_)
            | (refine wpList_store_row rfl 60 _ _ rfl w.heap.size T rfl rfl 60 Z HR1.out HS1.out (by rw [HZS.out, HS2.out]) HO1.out ?_))
          refine bodyPost_ret (results_cell_row (p := 2) (ty := 60) (by kernel_rfl) _ _ w.heap.size 60 T (0, 0) _ rfl (setRow_heap _ _ _ _ _ _ HR1.out) Try.underlying60 rfl HS1.out) rfl ?_
          exact ⟨by rw [HT2.out], below_setRow HB.out (Nat.le_refl _) _⟩
end Go.Proofs.Ytjimamjhakainaa.Part
/- The least of a list and its place; the parameter of a tally. Conditions: those of the memory's own form alone. -/
namespace Go.Proofs.Ytjimamjhakainaa.Part
open Go.RowKit Bit Rice Runs

def mnI (I : Nat → Int) : Nat → Int
  | 0 => I 0
  | j + 1 => min (mnI I j) (I (j + 1))
theorem mnI_le (I : Nat → Int) : ∀ n i, i ≤ n → mnI I n ≤ I i
  | 0, i, h => by
    obtain rfl : i = 0 := by omega
    exact Int.le_refl _
  | n + 1, i, h => by
    show min (mnI I n) (I (n + 1)) ≤ I i
    by_cases e : i = n + 1
    · subst e; omega
    · have := mnI_le I n i (by omega); omega
theorem mnI_at (I : Nat → Int) : ∀ n, ∃ i, i ≤ n ∧ mnI I n = I i
  | 0 => ⟨0, Nat.le_refl _, rfl⟩
  | n + 1 => by
    obtain ⟨i, h1, h2⟩ := mnI_at I n
    show ∃ i, i ≤ n + 1 ∧ min (mnI I n) (I (n + 1)) = I i
    by_cases e : mnI I n ≤ I (n + 1)
    · exact ⟨i, by omega, by omega⟩
    · exact ⟨n + 1, Nat.le_refl _, by omega⟩
theorem min_any (w : World) (a : Option Addr) (len cap b off : Nat) (I : Nat → Int) (h : Is w a len cap b off I) (h0 : 0 < len) :
    Calls Try.prog 91 #[.slice a len cap] w fun e w' => e = .returned (.int .i64 (mnI I (len - 1))) ∧ w = w' := by
  have H := hid h
  have hl := h.hl
  have hc := h.hc
  obtain rfl := h.addr h0
  have ck := h.c 0 h0
  rw [Nat.add_zero] at ck
  have h1 : ¬ (len : Int) < 1 := by omega
  have h2 : (0 : Int) < (len : Int) := by omega
  clear h
  go_enter Try.func91, Try.ntmps91
  go_wp2_with fail
  clear ck
  go_loopg [3, 4] len (fun g m i wr => ∃ k : Nat, 1 ≤ k ∧ k ≤ len ∧ g = len + 1 - k ∧ m = .int .i64 (mnI I (k - 1)) ∧ i = .int .i64 k ∧ w = wr)
  case atStart => exact ⟨1, Nat.le_refl _, by omega, by omega, rfl, rfl, rfl⟩
  case round =>
    obtain ⟨k, hk1, hk, hg, rfl, rfl, rfl⟩ := hrel
    have HG := hid hg
    clear hg
    by_cases hlt : k < len
    · have hlt2 : (k : Int) < (len : Int) := by omega
      have ck := H.out.c k hlt
      have HM := hid (show mnI I (k + 1 - 1) = min (mnI I (k - 1)) (I k) from by
        rw [show k + 1 - 1 = (k - 1) + 1 from by omega]
        show min (mnI I (k - 1)) (I (k - 1 + 1)) = _
        rw [show k - 1 + 1 = k from by omega])
      generalize mnI I (k - 1) = m at *
      generalize I k = x at *
      go_wp2_with fail
      go_roundg (len + 1 - (k + 1))
      case measure => rw [HG.out]; omega
      case rel => exact ⟨k + 1, by omega, by omega, rfl, by rw [HM.out], by go_num, rfl⟩
    · have hge : ¬ (k : Int) < (len : Int) := by omega
      obtain rfl : len = k := by omega
      go_wp2_with fail
      go_ret
      exact ⟨rfl, rfl⟩
theorem index_at (w : World) (a : Option Addr) (len cap b off : Nat) (I : Nat → Int) (h : Is w a len cap b off I) (v : Int) (p : Nat) (hp : p < len) (hv : I p = v) (hn : ∀ i, i < p → I i ≠ v) :
    Calls Try.prog 92 #[.slice a len cap, .int .i64 v] w fun e w' => e = .returned (.int .i64 (p : Int)) ∧ w = w' := by
  have H := hid h
  have hl := h.hl
  have hc := h.hc
  obtain rfl := h.addr (by omega)
  have HV := hid hv; have HN := hid hn
  clear h hv hn
  go_enter Try.func92, Try.ntmps92
  go_wp2_with fail
  go_loopg [8] len (fun g i wr => ∃ k : Nat, k ≤ p ∧ g = len - k ∧ i = .int .i64 k ∧ w = wr)
  case atStart => exact ⟨0, Nat.zero_le _, rfl, rfl, rfl⟩
  case round =>
    obtain ⟨k, hk, hg, rfl, rfl⟩ := hrel
    have HG := hid hg
    clear hg
    have hlt2 : (k : Int) < (len : Int) := by omega
    have ck := H.out.c k (by omega)
    by_cases e : k = p
    · subst e
      have hb : (v == I k) = true := by rw [HV.out]; exact beq_self_eq_true _
      generalize I k = x at *
      go_wp2_with fail
      go_ret
      exact ⟨rfl, rfl⟩
    · have hb : (v == I k) = false := beq_eq_false_iff_ne.2 fun h => HN.out k (by omega) h.symm
      generalize I k = x at *
      go_wp2_with fail
      go_roundg (len - (k + 1))
      case measure => rw [HG.out]; omega
      case rel => exact ⟨k + 1, by omega, rfl, by go_num, rfl⟩

theorem par_min (I : Nat → Int) (n : Nat) : mnI (fun k => (tt I n k : Int)) 30 = (tt I n (kr I n) : Int) := by
  obtain ⟨i, h1, h2⟩ := mnI_at (fun k => (tt I n k : Int)) 30
  have h3 := mnI_le (fun k => (tt I n k : Int)) 30 (kr I n) (kr_le I n)
  have h4 : tt I n (kr I n) ≤ tt I n i := bst_le (zs I) n 30 i h1
  have h5 : mnI (fun k => (tt I n k : Int)) 30 = (tt I n i : Int) := h2
  have h6 : mnI (fun k => (tt I n k : Int)) 30 ≤ (tt I n (kr I n) : Int) := h3
  omega
theorem par_at (I : Nat → Int) (n i : Nat) (h : i < kr I n) : tt I n (kr I n) < tt I n i := bst_lt (zs I) n 30 i h
set_option maxRecDepth 100000 in
theorem par_any (w : World) (z g : Nat) (I : Nat → Int) (n : Nat) (hn : n ≤ 1048576) :
    Calls Try.prog 63 #[.agg (tal z g (tt I n))] w fun e w' => e = .returned (.tuple #[.int .i64 (kr I n : Int), .int .i64 (tt I n (kr I n) : Int)]) ∧ Below w.heap.size w w' := by
  have hr := tal_row (show (w.alloc (.cells (tal z g (tt I n)) 60)).heap[w.heap.size]? = some (.cells (tal z g (tt I n)) 60 (0, 0)) from heap_alloc_new _ _)
  have hib : ∀ k, -9223372036854775808 ≤ (tt I n k : Int) ∧ (tt I n k : Int) ≤ 9223372036854775807 := fun k => by have := tt_le I n k; omega
  have hs : Is (w.alloc (.cells (tal z g (tt I n)) 60)) (some ⟨w.heap.size, 2, none⟩) 31 31 w.heap.size 2 (fun k => (tt I n k : Int)) :=
    ⟨fun _ => rfl, fun i hi => by have := hr.cell (show 2 + i < 33 by omega); rw [tc_2] at this; exact this, fun i _ => hib i, fun _ => hr.lt, by decide, by decide⟩
  have HM := hid (min_any _ _ _ _ _ _ _ hs (by decide))
  have HX := hid (index_at _ _ _ _ _ _ _ hs (tt I n (kr I n) : Int) (kr I n) (by have := kr_le I n; omega) rfl fun i hi => by have := par_at I n i hi; omega)
  rw [show (31 - 1 : Nat) = 30 from rfl, par_min] at HM
  have HB := hid ((Below.refl w.heap.size w).alloc (Nat.le_refl _) (.cells (tal z g (tt I n)) 60))
  have hsz := tal_size z g (tt I n)
  clear hr hs hib
  generalize tal z g (tt I n) = T at *
  go_enter Try.func63, Try.ntmps63
  go_wp2_with fail
  refine HM.out.mono ?_
  rintro e w' ⟨rfl, rfl⟩
  go_wp2_with fail
  refine HX.out.mono ?_
  rintro e w' ⟨rfl, rfl⟩
  go_wp2_with fail
  go_ret2
  exact ⟨rfl, HB.out⟩
end Go.Proofs.Ytjimamjhakainaa.Part
