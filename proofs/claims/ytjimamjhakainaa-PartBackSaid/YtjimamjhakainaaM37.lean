/- Codes of a list by quotient and rest, in the document; codes that stand behind bits are those bits, and the codes. Conditions: the numbers are coded. -/
import Derived.Test.YtjimamjhakainaaM24
import Derived.Test.YtjimamjhakainaaM36
import Derived.Test.YtjimamjhakainaaSYr
import Derived.Deep.RegionHeld3
namespace Go.Proofs.Ytjimamjhakainaa.Part
open Go.RowKit Bit Rice Runs

theorem app_app (p : Nat × Nat) (v n x m : Nat) : app (app p v n) x m = app p (v * 2 ^ m + x) (n + m) := by
  unfold app
  refine Prod.ext ?_ (Nat.add_assoc _ _ _)
  show (p.1 * 2 ^ n + v) * 2 ^ m + x = p.1 * 2 ^ (n + m) + (v * 2 ^ m + x)
  rw [Nat.add_mul, Nat.mul_assoc, ← Nat.pow_add, Nat.add_assoc]
theorem app_lt {v n x m : Nat} (hv : v < 2 ^ n) (hx : x < 2 ^ m) : v * 2 ^ m + x < 2 ^ (n + m) := by
  rw [Nat.pow_add]
  calc v * 2 ^ m + x < v * 2 ^ m + 2 ^ m := by omega
    _ = (v + 1) * 2 ^ m := by rw [Nat.succ_mul]
    _ ≤ 2 ^ n * 2 ^ m := Nat.mul_le_mul_right _ hv
/-- What is told behind some bits. -/
def Cat (f : Nat × Nat → Nat × Nat) : Prop := (∀ p, f p = app p (f (0, 0)).1 (f (0, 0)).2) ∧ (f (0, 0)).1 < 2 ^ (f (0, 0)).2
theorem cat_id : Cat fun p => p := ⟨fun p => by unfold app; simp, by decide⟩
theorem cat_app {f : Nat × Nat → Nat × Nat} (h : Cat f) {v n : Nat} (hv : v < 2 ^ n) : Cat fun p => app (f p) v n :=
  ⟨fun p => by
    show app (f p) v n = app p ((f (0, 0)).1 * 2 ^ n + v) ((f (0, 0)).2 + n)
    rw [h.1 p, app_app], app_lt h.2 hv⟩
theorem cat_comp {f g : Nat × Nat → Nat × Nat} (hf : Cat f) (hg : Cat g) : Cat fun p => g (f p) := by
  have h0 : g (f (0, 0)) = app (f (0, 0)) (g (0, 0)).1 (g (0, 0)).2 := hg.1 _
  refine ⟨fun p => ?_, ?_⟩
  · show g (f p) = app p (g (f (0, 0))).1 (g (f (0, 0))).2
    rw [h0, hg.1 (f p), hf.1 p, app_app]
    rfl
  · show (g (f (0, 0))).1 < 2 ^ (g (f (0, 0))).2
    rw [h0]
    exact app_lt hf.2 hg.2
theorem cat_cods (U : Nat → Nat) (k : Nat) (hk : k ≤ 30) : ∀ n, allC U n → Cat fun p => cods U k p.1 p.2 n
  | 0, _ => cat_id
  | n + 1, h => cat_app (cat_cods U k hk n fun i hi => h i (by omega)) (cod_lt hk (h n (by omega)))
theorem gl_lt2 {v : Nat} (h : hg v) : v < 2 ^ gl v := (gl_ok h).2.2.2.1
theorem hg_rn (I : Nat → Int) (n : Nat) (hn : n ≤ 1048576) : hg (rn I n + 1) := ⟨by omega, by have := rn_le I n; omega⟩
theorem cat_cgd (I : Nat → Int) (k : Nat) (hk : k ≤ 30) : ∀ n, n ≤ 1048576 → allZ I n → Cat fun p => cgd I k p n
  | 0, _, _ => cat_id
  | n + 1, hn, h => by
    have ih := cat_cgd I k hk n (by omega) fun i hi => h i (by omega)
    by_cases e : I n = 0
    · have e2 : (fun p => cgd I k p (n + 1)) = fun p => cgd I k p n := funext fun p => if_pos e
      rw [e2]; exact ih
    · have e2 : (fun p => cgd I k p (n + 1)) = fun p => app (app (cgd I k p n) (rn I n + 1) (gl (rn I n + 1))) (cod (zg (I n) - 1) k) (cost (zg (I n) - 1) k) := funext fun p => if_neg e
      rw [e2]
      have hc : coded (zg (I n) - 1) := by have := h n (by omega); unfold coded at *; omega
      exact cat_app (cat_app ih (gl_lt2 (hg_rn I n (by omega)))) (cod_lt hk hc)
theorem cat_cfin (I : Nat → Int) (k : Nat) (hk : k ≤ 30) (n : Nat) (hn : n ≤ 1048576) (h : allZ I n) : Cat fun p => cfin I k p n := by
  have ih := cat_cgd I k hk n hn h
  by_cases e : 0 < rn I n
  · have e2 : (fun p => cfin I k p n) = fun p => app (cgd I k p n) (rn I n + 1) (gl (rn I n + 1)) := funext fun p => if_pos e
    rw [e2]; exact cat_app ih (gl_lt2 (hg_rn I n hn))
  · have e2 : (fun p => cfin I k p n) = fun p => cgd I k p n := funext fun p => if_neg e
    rw [e2]; exact ih
theorem cat_rawc (I : Nat → Int) (k : Nat) : ∀ n, Cat fun p => rawc I k p n
  | 0 => cat_id
  | n + 1 => cat_app (cat_rawc I k n) (mask_lt (I n) k)
theorem cat_pcw (x : Nat × Nat × Nat) (hx : wok x) (I : Nat → Int) (n : Nat) (hn : n ≤ 1048576) (h : allZ I n) : Cat fun p => pcw x I n p := by
  unfold pcw
  rcases hx with hx | ⟨hx, hk⟩ | ⟨hx, hk⟩ | ⟨hx, h1, hk⟩
  · simp only [if_pos hx]
    exact cat_app cat_id (by decide)
  · simp only [if_neg (show ¬ x.1 = 0 by omega), if_pos hx]
    exact cat_comp (cat_app cat_id (show x.2.1 < 2 ^ 6 by omega)) (cat_cods (zs I) x.2.1 hk n h)
  · simp only [if_neg (show ¬ x.1 = 0 by omega), if_neg (show ¬ x.1 = 1 by omega), if_pos hx]
    exact cat_comp (cat_app (cat_app cat_id (show 32 < 2 ^ 6 by decide)) (show x.2.1 < 2 ^ 5 by omega)) (cat_cfin I x.2.1 hk n hn h)
  · simp only [if_neg (show ¬ x.1 = 0 by omega), if_neg (show ¬ x.1 = 1 by omega), if_neg (show ¬ x.1 = 2 by omega)]
    exact cat_comp (cat_app (cat_app cat_id (show 33 < 2 ^ 6 by decide)) (show x.2.1 < 2 ^ 6 by omega)) (cat_rawc I x.2.1 n)

set_option maxRecDepth 20000 in
set_option maxHeartbeats 2000000 in
theorem rcodes_any (w : World) (a : Option Addr) (len cap b off : Nat) (U : Nat → Nat) (h : Us w a len b off U) (hlen : len ≤ 1000000) (hr : allC U len) (k : Nat) (hk : k ≤ 30) :
    Calls Try.prog 41 #[.slice a len cap, .int .i64 (k : Int)] w (CodePost w (cods U k 0 0 len).1 (cods U k 0 0 len).2) := by
  obtain ⟨i0, hi, hz0, hz1, hz2⟩ := info_parts Try.info3
  have H := hid h
  have hll := h.hl
  have HC := hid hr
  have hn0 := nw_none w
  clear h hr
  go_enter Try.func41, Try.ntmps41
  go_wp2_with fail
  go_loopg [5, 6] len (fun g v i wr => ∃ (j : Nat) (lo : Option Addr) (lcap : Nat), j ≤ len ∧ g = len - j ∧ i = .int .i64 j ∧ v = .slice lo (cods U k 0 0 j).2 lcap ∧ Nw w w.heap.size lo lcap (cods U k 0 0 j).1 (cods U k 0 0 j).2 wr)
  case atStart => exact ⟨0, none, 0, Nat.zero_le _, rfl, rfl, rfl, hn0⟩
  case round =>
    obtain ⟨j, lo, lcap, hj, hg, rfl, rfl, hn⟩ := hrel
    have HG := hid hg
    have hle := cods_le U k 0 0 j
    clear hg hn0
    by_cases hlt : j < len
    · have hlt2 : (j : Int) < (len : Int) := by omega
      obtain rfl := H.out.addr (by omega)
      have ck := (H.out.below hn.below H.out.lt).c j hlt
      have hcj := HC.out j hlt
      have HCD := hid (rcodeI (U j : Int) (U j) k rfl hk hcj wr)
      have HVC := hid (cod_lt hk hcj)
      have hcs := cost_le (U j) (k : Int)
      have HE := hid (show cods U k 0 0 (j + 1) = ((cods U k 0 0 j).1 * 2 ^ cost (U j) k + cod (U j) k, (cods U k 0 0 j).2 + cost (U j) k) from rfl)
      clear hcj
      generalize cods U k 0 0 j = r at *
      generalize cost (U j) (k : Int) = cj at *
      generalize cod (U j) k = dj at *
      go_wp2_with fail
      refine HCD.out.mono ?_
      rintro e w2 ⟨lo2, lcap2, rfl, hn2⟩
      have hn3 := hn.below' hn2.below
      have hsz : w.heap.size ≤ w2.heap.size := hn3.below.size
      go_wp2_with (at_builtin; go_must (refine wpList_append_list _ rfl (.tmp 13) (.tmp 19) 22 rfl w.heap.size 3 i0 (.int .i64 0) 8 Try.underlying22 hi hz0 hz1 hz2 rfl lo r.2 lcap (bitl r.1 r.2) rfl hn3.lst lo2 cj lcap2 (bitl dj cj) rfl (bitl_len _ _) hn2.lst.none' hn2.lst.cells (bitl_one _ _) (by unfold maxLen; omega) (by omega) hsz ?_))
      intro lo4 lcap4 w4 hown4 hg4 hat4
      have hn4 := hn.app hn2.below HVC.out hown4 hg4 hat4
      have hst : Value.slice lo4 (r.2 + cj) lcap4 = .slice lo4 (cods U k 0 0 (j + 1)).2 lcap4 ∧ Nw w w.heap.size lo4 lcap4 (cods U k 0 0 (j + 1)).1 (cods U k 0 0 (j + 1)).2 w4 := by
        rw [HE.out]; exact ⟨rfl, hn4⟩
      have HST := hid hst
      clear hown4 hg4 hat4 hn4 hn3 hn2 hn hst hsz ck
      go_wp2_with fail
      go_roundg (len - (j + 1))
      case measure => rw [HG.out]; omega
      case rel => exact ⟨j + 1, lo4, lcap4, by omega, rfl, by go_num, HST.out.1, HST.out.2⟩
    · have hge : ¬ (j : Int) < (len : Int) := by omega
      obtain rfl : len = j := by omega
      have hfin : CodePost w (cods U k 0 0 len).1 (cods U k 0 0 len).2 (.returned (.slice lo (cods U k 0 0 len).2 lcap)) wr := ⟨lo, lcap, rfl, hn⟩
      clear hn
      generalize cods U k 0 0 len = r at *
      go_wp2_with fail
      go_ret
      exact hfin
end Go.Proofs.Ytjimamjhakainaa.Part
/- A part's code in the document: the bits that the program writes. Conditions: the list is coded. -/
namespace Go.Proofs.Ytjimamjhakainaa.Part
open Go.RowKit Bit Rice Runs

theorem bits_code (vi : Int) (v n : Nat) (hvi : vi = v) (hn : n ≤ 64) (hv : v < 2 ^ n) (w : World) : Calls Try.prog 40 #[.int .u64 vi, .int .i64 (n : Int)] w (CodePost w v n) := by
  subst hvi
  have h64 : v < 18446744073709551616 := Nat.lt_of_lt_of_le hv (Nat.le_trans (Nat.pow_le_pow_right (n := 2) (by decide) hn) (by decide))
  refine (bits_any v n w hn h64).mono ?_
  rintro e w' ⟨rfl, hb, cs, h1, h2, h3⟩
  refine ⟨_, n, rfl, ⟨⟨by rw [bitl_len, Nat.mul_one], .inr ⟨w.heap.size, n, cs, rfl, Nat.le_refl _, h1, Nat.le_refl _, by unfold maxLen; omega, by rw [h2, Nat.mul_one], ?_⟩⟩, hb, fun g hg => by simp [blk] at hg; omega⟩⟩
  rw [Nat.mul_one, List.take_of_length_le (by rw [Array.length_toList, h2]; exact Nat.le_refl _)]
  apply List.ext_getElem?
  intro i
  by_cases hi : i < n
  · rw [Array.getElem?_toList, h3 i hi, bitl_at v n i hi]
  · rw [List.getElem?_eq_none (by rw [Array.length_toList, h2]; omega), List.getElem?_eq_none (by rw [bitl_len]; omega)]
theorem cods_0 (U : Nat → Nat) (k : Nat) (hk : k ≤ 30) (n : Nat) (h : allC U n) (p : Nat × Nat) : cods U k p.1 p.2 n = app p (cods U k 0 0 n).1 (cods U k 0 0 n).2 := (cat_cods U k hk n h).1 p
theorem wy_three {I : Nat → Int} {n : Nat} (h : (wy I n).1 = 3) : (wy I n).2.1 = rw_ I n := by
  unfold wy at h ⊢
  by_cases h0 : nz I n = n
  · rw [if_pos h0] at h
    exact absurd h (by decide)
  · rw [if_neg h0] at h ⊢
    dsimp only at h ⊢
    have ha : (if n ≤ 2 * nz I n ∧ 11 + cstI I (rbs I n 30 : Nat) n < 6 + tt I n (kr I n) then (2, rbs I n 30, 11 + cstI I (rbs I n 30 : Nat) n) else (1, kr I n, 6 + tt I n (kr I n)) : Nat × Nat × Nat).1 ≠ 3 := by
      split
      · show (2 : Nat) ≠ 3; decide
      · show (1 : Nat) ≠ 3; decide
    generalize (if n ≤ 2 * nz I n ∧ 11 + cstI I (rbs I n 30 : Nat) n < 6 + tt I n (kr I n) then (2, rbs I n 30, 11 + cstI I (rbs I n 30 : Nat) n) else (1, kr I n, 6 + tt I n (kr I n)) : Nat × Nat × Nat) = x at *
    by_cases c : 12 + rw_ I n * n < x.2.2
    · rw [if_pos c]
    · rw [if_neg c] at h
      exact absurd h ha
theorem power_41 (k y : Nat) (hk : k ≤ 41) (hy : 2 ^ k = y) (w : World) : Calls Try.prog 43 #[.int .i64 (k : Int)] w fun e w' => e = .returned (.int .i64 (y : Int)) ∧ w = w' := by
  have HY := hid hy
  clear hy
  go_enter Try.func43, Try.ntmps43
  go_wp2_with fail
  go_loopg [3, 4] k (fun g p i wr => ∃ j : Nat, j ≤ k ∧ g = k - j ∧ p = .int .i64 ((2 ^ j : Nat) : Int) ∧ i = .int .i64 j ∧ w = wr)
  case atStart => exact ⟨0, Nat.zero_le _, rfl, rfl, rfl, rfl⟩
  case round =>
    obtain ⟨j, hj, hg, rfl, rfl, rfl⟩ := hrel
    have HG := hid hg
    clear hg
    have h41 : 2 ^ j ≤ 2 ^ 41 := Nat.pow_le_pow_right (by decide) (by omega)
    by_cases hlt : j < k
    · have hlt2 : (j : Int) < (k : Int) := by omega
      have hlt3 : (j : Int) < 62 := by omega
      have HN := hid (show 2 ^ (j + 1) = 2 * 2 ^ j from by rw [Nat.pow_succ, Nat.mul_comm])
      generalize 2 ^ j = x at *
      go_wp2_with fail
      go_roundg (k - (j + 1))
      case measure => rw [HG.out]; omega
      case rel => exact ⟨j + 1, by omega, rfl, by rw [HN.out]; go_num, by go_num, rfl⟩
    · have hge : ¬ (j : Int) < (k : Int) := by omega
      obtain rfl : k = j := by omega
      rw [HY.out]
      go_wp2_with fail
      go_ret
      exact ⟨rfl, rfl⟩
theorem raw_fits {I : Nat → Int} {n j : Nat} (hj : j < n) (h : gr I n < 1099511627776) : -(2 ^ (rw_ I n - 1) : Int) ≤ I j ∧ I j < 2 ^ (rw_ I n - 1) := by
  have h1 := gr_ge I n j hj
  have h2 : zg (I j) / 2 ≤ gr I n / 2 := Nat.div_le_div_right h1
  have h3 : gr I n / 2 < 2 ^ Lib.bitLen (gr I n / 2) := blt (by omega)
  have h4 : rw_ I n - 1 = Lib.bitLen (gr I n / 2) := by unfold rw_ rw1; omega
  rw [h4]
  have h5 : ((2 ^ Lib.bitLen (gr I n / 2) : Nat) : Int) = (2 : Int) ^ Lib.bitLen (gr I n / 2) := by push_cast; rfl
  rw [← h5]
  have h6 := zg_half (I j)
  generalize 2 ^ Lib.bitLen (gr I n / 2) = y at *
  split at h6 <;> omega
theorem raw_mod {x : Int} {k : Nat} (hk : 1 ≤ k) (h : -(2 ^ (k - 1) : Int) ≤ x ∧ x < 2 ^ (k - 1)) : ((x % 2 ^ k).toNat : Int) = if x < 0 then x + 2 ^ k else x := by
  obtain ⟨m, rfl⟩ : ∃ m, k = m + 1 := ⟨k - 1, by omega⟩
  rw [Nat.add_sub_cancel] at h
  have h5 : ((2 ^ m : Nat) : Int) = (2 : Int) ^ m := by push_cast; rfl
  have h6 : (2 : Int) ^ (m + 1) = 2 * ((2 ^ m : Nat) : Int) := by rw [h5, Int.pow_succ, Int.mul_comm]
  rw [← h5] at h
  rw [h6]
  have hp := Nat.two_pow_pos m
  generalize 2 ^ m = y at *
  by_cases h0 : x < 0
  · rw [if_pos h0]
    have e : x % (2 * (y : Int)) = x + 2 * (y : Int) := by
      rw [← Int.add_emod_right, Int.emod_eq_of_lt (by omega) (by omega)]
    rw [e]; omega
  · rw [if_neg h0]
    have e : x % (2 * (y : Int)) = x := Int.emod_eq_of_lt (by omega) (by omega)
    rw [e]; omega
theorem nw_trans {w w1 w2 : World} {lo : Option Addr} {lcap N L : Nat} (hb : Below w.heap.size w w1) (h : Nw w1 w1.heap.size lo lcap N L w2) : Nw w w.heap.size lo lcap N L w2 :=
  ⟨Runs.Lst.base_le h.lst hb.size, hb.trans (h.below.mono hb.size), fun g hg => Nat.le_trans hb.size (h.new g hg)⟩
set_option maxRecDepth 100000 in
set_option maxHeartbeats 8000000 in
theorem rcode_in (w : World) (a : Option Addr) (len cap b off : Nat) (I : Nat → Int) (h : Is w a len cap b off I) (hlen : len ≤ 65536) (hz : allZ I len) :
    Calls Try.prog 13 #[.slice a len cap] w (CodePost w (pcw (wy I len) I len (0, 0)).1 (pcw (wy I len) I len (0, 0)).2) := by
  obtain ⟨i0, hi, hz0, hz1, hz2⟩ := info_parts Try.info3
  have hwk := wy_ok I len (gr_lt I _ (by decide) len fun j hj => hz j hj)
  have HCH := hid (rchoose_any w a len cap b off I h hlen hz)
  have H := hid h
  have hlt := h.lt
  have HLT := hid hlt
  have hw3 := wy_three (I := I) (n := len)
  have HGR := hid (show gr I len < 1099511627776 from gr_lt I _ (by decide) len fun j hj => hz j hj)
  obtain ⟨⟨kd, k, ct⟩, hway⟩ : ∃ x, wy I len = x := ⟨_, rfl⟩
  rw [hway] at hwk HCH hw3 ⊢
  have HW3 := hid hw3
  have HZ := hid hz
  clear h hlt hway hz hw3
  go_enter Try.func13, Try.ntmps13
  go_wp2_with fail
  refine HCH.out.mono ?_
  rintro e w1 ⟨rfl, hb1⟩
  obtain ⟨w2, hw2⟩ : ∃ w2, w1.alloc (.cells #[.int .i64 (kd : Int), .int .i64 (k : Int)] 29) = w2 := ⟨_, rfl⟩
  have hb2 : Below w1.heap.size w1 w2 := by rw [← hw2]; exact (Below.refl w1.heap.size w1).alloc (Nat.le_refl _) _
  have hs2 : w2.heap.size = w1.heap.size + 1 := by rw [← hw2]; simp
  have hr2 : w2.rowIs w1.heap.size 29 2 (fun i => if i = 0 then .int .i64 (kd : Int) else .int .i64 (k : Int)) := by
    rw [← hw2]; exact ⟨_, heap_alloc_new _ _, rfl, fun i hi => by rcases i with _ | _ | i <;> first | rfl | omega⟩
  have hbw : Below w.heap.size w w2 := hb1.trans (hb2.mono hb1.size)
  have y0 := hr2.cell (show 0 < 2 by decide)
  have y1 := hr2.cell (show 1 < 2 by decide)
  rw [if_pos rfl] at y0
  rw [if_neg (by decide)] at y1
  have hq : w1.heap.size < w2.heap.size := by omega
  have hsz1 : w.heap.size ≤ w1.heap.size := hb1.size
  have HBW := hid hbw
  have HIS := hid fun w' (hb : Below w2.heap.size w2 w') => H.out.below (hbw.trans (hb.mono hbw.size)) HLT.out
  clear hb1 hb2 hs2 hr2 hbw
  rcases hwk with hx | ⟨hx, hk⟩ | ⟨hx, hk⟩ | ⟨hx, hk1, hk⟩
  · obtain rfl : kd = 0 := hx
    have hw2 : w1.alloc (.cells #[.int .i64 0, .int .i64 (k : Int)] 29) = w2 := hw2
    have y0 : w2.cell? ⟨w1.heap.size, 0, none⟩ = some (.int .i64 0) := y0
    have HE : RowKit.Hid (pcw (0, k, ct) I len (0, 0) = (31, 6)) := hid rfl
    go_wp2_with fail
    refine (bits_code 31 31 6 rfl (by decide) (by decide) w2).mono ?_
    rintro e w3 ⟨lo, lcap, rfl, hn⟩
    have hfin := nw_trans HBW.out hn
    clear hn
    go_wp2_with fail
    go_ret
    rw [HE.out]
    exact ⟨lo, lcap, rfl, hfin⟩
  · obtain rfl : kd = 1 := hx
    have hw2 : w1.alloc (.cells #[.int .i64 1, .int .i64 (k : Int)] 29) = w2 := hw2
    have y0 : w2.cell? ⟨w1.heap.size, 0, none⟩ = some (.int .i64 1) := y0
    have hk : k ≤ 30 := hk
    have HE : RowKit.Hid (pcw (1, k, ct) I len (0, 0) = (k * 2 ^ (cods (zs I) k 0 0 len).2 + (cods (zs I) k 0 0 len).1, 6 + (cods (zs I) k 0 0 len).2)) := hid (by
      show cods (zs I) k (app (0, 0) k 6).1 (app (0, 0) k 6).2 len = _
      rw [cods_0 (zs I) k hk len HZ.out]
      unfold app
      simp)
    have HCL : RowKit.Hid ((cods (zs I) k 0 0 len).1 < 2 ^ (cods (zs I) k 0 0 len).2) := hid (cat_cods (zs I) k hk len HZ.out).2
    have hle := cods_le (zs I) k 0 0 len
    have hku : IntKind.u64.wrap (k : Int) = (k : Int) := by rw [IntKind.wrap_u64]; omega
    have hk6 : k < 2 ^ 6 := by omega
    have HB6 : RowKit.Hid (∀ w', Calls Try.prog 40 #[.int .u64 (k : Int), .int .i64 6] w' (CodePost w' k 6)) := hid fun w' => bits_code (k : Int) k 6 rfl (by decide) hk6 w'
    have HZG := hid fun w' (hb : Below w2.heap.size w2 w') => rzigs_any w' a len cap b off I (HIS.out w' hb) (by omega)
    have HCS := hid fun w' lo lc zb (hus : Us w' lo len zb 0 (zs I)) => rcodes_any w' lo len lc zb 0 (zs I) hus (by omega) HZ.out k hk
    generalize cods (zs I) k 0 0 len = r at *
    go_wp2_with fail
    have bd2 : Below w2.heap.size w2 w2.drew := ⟨rfl, rfl, rfl, Nat.le_refl _, fun _ _ => rfl⟩
    have s2 : w2.drew.cell? ⟨w1.heap.size, 1, none⟩ = some (.int .i64 (k : Int)) := y1
    go_region_held3 (fun w' => w'.cell? ⟨w1.heap.size, 1, none⟩ = some (.int .i64 (k : Int)))
      (first | exact s2 | exact s5 | exact s6 | exact s7 | exact s9 | go_keep)
      ((first
        | (go_at_call 40; (with_reducible refine (HB6.out _).mono ?_); rintro e w5 ⟨lo5, lcap5, rfl, hn5⟩; have b5 := bd2.trans hn5.below; have s5 := (hn5.below.cell (p := ⟨w1.heap.size, 1, none⟩) hq).trans s2)
        | (go_at_call 36; (with_reducible refine (HZG.out _ b5).mono ?_); rintro e w6 ⟨lo6, lcap6, zb6, rfl, hus6, hzb6, hb6⟩; have b6 := b5.trans (hb6.mono b5.size); have s6 := (hb6.cell (p := ⟨w1.heap.size, 1, none⟩) (Nat.lt_of_lt_of_le hq b5.size)).trans s5; have l6 := hn5.lst.upto hb6)
        | (go_at_call 41; (with_reducible refine (HCS.out _ _ _ _ hus6).mono ?_); rintro e w7 ⟨lo7, lcap7, rfl, hn7⟩; have b7 := b6.trans (hn7.below.mono b6.size); have s7 := (hn7.below.cell (p := ⟨w1.heap.size, 1, none⟩) (Nat.lt_of_lt_of_le hq b6.size)).trans s6; have l7 := l6.upto hn7.below)
        | (refine step_append_list (by rfl) (.tmp 23) (.tmp 28) 22 (by rfl) w2.drew.heap.size 3 i0 (.int .i64 0) 8 Try.underlying22 hi hz0 hz1 hz2 rfl lo5 6 lcap5 (bitl k 6) (by rfl) l7 lo7 r.2 lcap7 (bitl r.1 r.2) (by rfl) (bitl_len _ _) hn7.lst.none' hn7.lst.cells (bitl_one _ _) (by unfold maxLen; omega) (by omega) b7.size ?_; intro lo9 lcap9 w9 hown9 hg9; have b9 := b7.grown hg9 b7.size (fun g hg => (l7.lt g hg).1); have s9 := (b9.cell (p := ⟨w1.heap.size, 1, none⟩) hq).trans y1)))
    have hfin : CodePost w (pcw (1, k, ct) I len (0, 0)).1 (pcw (1, k, ct) I len (0, 0)).2 (.returned (.slice lo9 (6 + r.2) lcap9)) w9 := by
      rw [HE.out]
      exact ⟨lo9, lcap9, rfl, nw_trans HBW.out (Nw.of_own (w := w2) (by rw [bitl_app k 6 r.1 r.2 HCL.out]; exact hown9) b9)⟩
    have HFIN := hid hfin
    clear hfin hown9 hg9 b9 s9 l7 s7 b7 hn7 l6 s6 b6 hus6 hb6 s5 b5 hn5 s2 bd2
    go_wp2_with fail
    go_ret
    exact HFIN.out
  · obtain rfl : kd = 2 := hx
    have hw2 : w1.alloc (.cells #[.int .i64 2, .int .i64 (k : Int)] 29) = w2 := hw2
    have y0 : w2.cell? ⟨w1.heap.size, 0, none⟩ = some (.int .i64 2) := y0
    have hk : k ≤ 30 := hk
    have hc0 := (cat_cfin I k hk len (by omega) HZ.out)
    have HE : RowKit.Hid (pcw (2, k, ct) I len (0, 0) = ((32 * 2 ^ 5 + k) * 2 ^ (cfin I k (0, 0) len).2 + (cfin I k (0, 0) len).1, 6 + 5 + (cfin I k (0, 0) len).2)) := hid (by
      show cfin I k (app (app (0, 0) 32 6) k 5) len = _
      refine (hc0.1 (app (app (0, 0) 32 6) k 5)).trans ?_
      show app (app (app (0, 0) 32 6) k 5) (cfin I k (0, 0) len).1 (cfin I k (0, 0) len).2 = _
      unfold app
      simp)
    have HCL : RowKit.Hid ((cfin I k (0, 0) len).1 < 2 ^ (cfin I k (0, 0) len).2) := hid hc0.2
    have hle := cfin_le I k (0, 0) len
    have hku : IntKind.u64.wrap (k : Int) = (k : Int) := by rw [IntKind.wrap_u64]; omega
    have hk5 : k < 2 ^ 5 := by omega
    have HV5 := hid hk5
    have HBA : RowKit.Hid (∀ w', Calls Try.prog 40 #[.int .u64 32, .int .i64 6] w' (CodePost w' 32 6)) := hid fun w' => bits_code 32 32 6 rfl (by decide) (by decide) w'
    have HBB : RowKit.Hid (∀ w', Calls Try.prog 40 #[.int .u64 (k : Int), .int .i64 5] w' (CodePost w' k 5)) := hid fun w' => bits_code (k : Int) k 5 rfl (by decide) hk5 w'
    have HRC := hid fun w' (hb : Below w2.heap.size w2 w') => rrcode_any w' a len cap b off I (HIS.out w' hb) (by omega) k hk HZ.out
    simp only [Nat.zero_add] at hle
    clear hc0 hk5
    generalize cfin I k (0, 0) len = r at *
    go_wp2_with fail
    have bd2 : Below w2.heap.size w2 w2.drew := ⟨rfl, rfl, rfl, Nat.le_refl _, fun _ _ => rfl⟩
    have s2 : w2.drew.cell? ⟨w1.heap.size, 1, none⟩ = some (.int .i64 (k : Int)) := y1
    go_region_held3 (fun w' => w'.cell? ⟨w1.heap.size, 1, none⟩ = some (.int .i64 (k : Int)))
      (first | exact s2 | exact s5 | exact s6 | exact s7 | exact s8 | exact s9 | go_keep)
      ((first
        | (go_at_call 40; (with_reducible refine (HBA.out _).mono ?_); rintro e w5 ⟨lo5, lcap5, rfl, hn5⟩; have b5 := bd2.trans hn5.below; have s5 := (hn5.below.cell (p := ⟨w1.heap.size, 1, none⟩) hq).trans s2)
        | (go_at_call 40; (with_reducible refine (HBB.out _).mono ?_); rintro e w6 ⟨lo6, lcap6, rfl, hn6⟩; have b6 := b5.trans (hn6.below.mono b5.size); have s6 := (hn6.below.cell (p := ⟨w1.heap.size, 1, none⟩) (Nat.lt_of_lt_of_le hq b5.size)).trans s5; have l6 := hn5.lst.upto hn6.below)
        | (refine step_append_list (by rfl) (.tmp 33) (.tmp 37) 22 (by rfl) w2.drew.heap.size 3 i0 (.int .i64 0) 8 Try.underlying22 hi hz0 hz1 hz2 rfl lo5 6 lcap5 (bitl 32 6) (by rfl) l6 lo6 5 lcap6 (bitl k 5) (by rfl) (bitl_len _ _) hn6.lst.none' hn6.lst.cells (bitl_one _ _) (by unfold maxLen; omega) (by omega) b6.size ?_; intro lo7 lcap7 w7 hown7 hg7; have b7 := b6.grown hg7 b6.size (fun g hg => (l6.lt g hg).1); have s7 := (b7.cell (p := ⟨w1.heap.size, 1, none⟩) hq).trans y1; have l7 : Lst w7 w2.drew.heap.size lo7 lcap7 (32 * 2 ^ 5 + k) (6 + 5) := by unfold Lst; rw [bitl_app 32 6 k 5 HV5.out]; exact hown7)
        | (go_at_call 42; (with_reducible refine (HRC.out _ b7).mono ?_); rintro e w8 ⟨lo8, lcap8, rfl, hn8⟩; have b8 := b7.trans (hn8.below.mono b7.size); have s8 := (hn8.below.cell (p := ⟨w1.heap.size, 1, none⟩) (Nat.lt_of_lt_of_le hq b7.size)).trans s7; have l8 := l7.upto hn8.below)
        | (refine step_append_list (by rfl) (.tmp 38) (.tmp 42) 22 (by rfl) w2.drew.heap.size 3 i0 (.int .i64 0) 8 Try.underlying22 hi hz0 hz1 hz2 rfl lo7 (6 + 5) lcap7 (bitl (32 * 2 ^ 5 + k) (6 + 5)) (by rfl) l8 lo8 r.2 lcap8 (bitl r.1 r.2) (by rfl) (bitl_len _ _) hn8.lst.none' hn8.lst.cells (bitl_one _ _) (by unfold maxLen; omega) (by omega) b8.size ?_; intro lo9 lcap9 w9 hown9 hg9; have b9 := b8.grown hg9 b8.size (fun g hg => (l8.lt g hg).1); have s9 := (b9.cell (p := ⟨w1.heap.size, 1, none⟩) hq).trans y1)))
    have hfin : CodePost w (pcw (2, k, ct) I len (0, 0)).1 (pcw (2, k, ct) I len (0, 0)).2 (.returned (.slice lo9 (6 + 5 + r.2) lcap9)) w9 := by
      rw [HE.out]
      exact ⟨lo9, lcap9, rfl, nw_trans HBW.out (Nw.of_own (w := w2) (by rw [bitl_app _ _ r.1 r.2 HCL.out]; exact hown9) b9)⟩
    have HFIN := hid hfin
    clear hfin hown9 hg9 b9 s9 l8 s8 b8 hn8 l7 s7 b7 l6 s6 b6 hn6 s5 b5 hn5 s2 bd2 hown7 hg7
    go_wp2_with fail
    go_ret
    exact HFIN.out
  · obtain rfl : kd = 3 := hx
    have hw2 : w1.alloc (.cells #[.int .i64 3, .int .i64 (k : Int)] 29) = w2 := hw2
    have y0 : w2.cell? ⟨w1.heap.size, 0, none⟩ = some (.int .i64 3) := y0
    have hk1 : 1 ≤ k := hk1
    have hk : k ≤ 41 := hk
    have hkr : k = rw_ I len := HW3.out rfl
    have HE : RowKit.Hid (pcw (3, k, ct) I len (0, 0) = rawc I k (33 * 2 ^ 6 + k, 6 + 6) len) := hid (by
      show rawc I k (app (app (0, 0) 33 6) k 6) len = _
      unfold app
      simp)
    have hku : IntKind.u64.wrap (k : Int) = (k : Int) := by rw [IntKind.wrap_u64]; omega
    have hk6 : k < 2 ^ 6 := by omega
    have HV6 := hid hk6
    have HBA : RowKit.Hid (∀ w', Calls Try.prog 40 #[.int .u64 33, .int .i64 6] w' (CodePost w' 33 6)) := hid fun w' => bits_code 33 33 6 rfl (by decide) (by decide) w'
    have HBB : RowKit.Hid (∀ w', Calls Try.prog 40 #[.int .u64 (k : Int), .int .i64 6] w' (CodePost w' k 6)) := hid fun w' => bits_code (k : Int) k 6 rfl (by decide) hk6 w'
    have HPW := hid fun w' => power_41 k (2 ^ k) hk rfl w'
    have HFIT := hid (show ∀ j, j < len → ((I j % 2 ^ k).toNat : Int) = if I j < 0 then I j + 2 ^ k else I j from fun j hj => raw_mod hk1 (by rw [hkr]; exact raw_fits hj HGR.out))
    have hp41 : 2 ^ k ≤ 2 ^ 41 := Nat.pow_le_pow_right (by decide) hk
    have HP41 := hid hp41
    have HKK := hid hk
    clear hk6 hkr hp41 hk1 hk
    go_wp2_with fail
    have bd2 : Below w2.heap.size w2 w2.drew := ⟨rfl, rfl, rfl, Nat.le_refl _, fun _ _ => rfl⟩
    have s2 : w2.drew.cell? ⟨w1.heap.size, 1, none⟩ = some (.int .i64 (k : Int)) := y1
    go_region_held3 (fun w' => w'.cell? ⟨w1.heap.size, 1, none⟩ = some (.int .i64 (k : Int)))
      (first | exact s2 | exact s5 | exact s6 | exact s7 | go_keep)
      ((first
        | (go_at_call 40; (with_reducible refine (HBA.out _).mono ?_); rintro e w5 ⟨lo5, lcap5, rfl, hn5⟩; have b5 := bd2.trans hn5.below; have s5 := (hn5.below.cell (p := ⟨w1.heap.size, 1, none⟩) hq).trans s2)
        | (go_at_call 40; (with_reducible refine (HBB.out _).mono ?_); rintro e w6 ⟨lo6, lcap6, rfl, hn6⟩; have b6 := b5.trans (hn6.below.mono b5.size); have s6 := (hn6.below.cell (p := ⟨w1.heap.size, 1, none⟩) (Nat.lt_of_lt_of_le hq b5.size)).trans s5; have l6 := hn5.lst.upto hn6.below)
        | (refine step_append_list (by rfl) (.tmp 44) (.tmp 48) 22 (by rfl) w2.drew.heap.size 3 i0 (.int .i64 0) 8 Try.underlying22 hi hz0 hz1 hz2 rfl lo5 6 lcap5 (bitl 33 6) (by rfl) l6 lo6 6 lcap6 (bitl k 6) (by rfl) (bitl_len _ _) hn6.lst.none' hn6.lst.cells (bitl_one _ _) (by unfold maxLen; omega) (by omega) b6.size ?_; intro lo7 lcap7 w7 hown7 hg7; have b7 := b6.grown hg7 b6.size (fun g hg => (l6.lt g hg).1); have s7 := (b7.cell (p := ⟨w1.heap.size, 1, none⟩) hq).trans y1)))
    have hn7 : Nw w2 w2.heap.size lo7 lcap7 (33 * 2 ^ 6 + k) (6 + 6) w7 := (Nw.of_own (w := w2) (by rw [bitl_app 33 6 k 6 HV6.out]; exact hown7) b7)
    have HN7 := hid hn7
    clear hown7 hg7 b7 s7 l6 s6 b6 hn6 s5 b5 hn5 s2 bd2 hn7
    go_wp2_with fail
    go_loopg [5, 6] len (fun g v i wr => ∃ (j : Nat) (lo : Option Addr) (lcap : Nat), j ≤ len ∧ g = len - j ∧ i = .int .i64 j ∧ v = .slice lo (rawc I k (33 * 2 ^ 6 + k, 6 + 6) j).2 lcap ∧ Nw w2 w2.heap.size lo lcap (rawc I k (33 * 2 ^ 6 + k, 6 + 6) j).1 (rawc I k (33 * 2 ^ 6 + k, 6 + 6) j).2 wr)
    case atStart => exact ⟨0, lo7, lcap7, Nat.zero_le _, rfl, rfl, rfl, HN7.out⟩
    case round =>
      obtain ⟨j, lo, lcap, hj, hg, rfl, rfl, hn⟩ := hrel
      have HG := hid hg
      have hle : (rawc I k (33 * 2 ^ 6 + k, 6 + 6) j).2 ≤ 6 + 6 + 41 * 65536 := by
        rw [rawc_len]
        have := Nat.mul_le_mul HKK.out (Nat.le_trans hj hlen)
        show 6 + 6 + k * j ≤ _
        omega
      have HNN := hid hn
      have HBB2 := hid hn.below
      clear hg hn
      by_cases hlt : j < len
      · have hlt2 : (j : Int) < (len : Int) := by omega
        have his := HIS.out wr HBB2.out
        obtain rfl := his.addr (by omega)
        have ck := his.c j hlt
        have hib := his.ib j hlt
        have c3 := (HBB2.out.cell (p := ⟨w1.heap.size, 1, none⟩) hq).trans y1
        have hfit := HFIT.out j hlt
        have hml := mask_lt (I j) k
        have HE2 := hid (show rawc I k (33 * 2 ^ 6 + k, 6 + 6) (j + 1) = ((rawc I k (33 * 2 ^ 6 + k, 6 + 6) j).1 * 2 ^ k + (I j % 2 ^ k).toNat, (rawc I k (33 * 2 ^ 6 + k, 6 + 6) j).2 + k) from rfl)
        have hpi : (2 : Int) ^ k = ((2 ^ k : Nat) : Int) := by push_cast; rfl
        rw [hpi] at hfit hml HE2
        have hkk := HKK.out
        have hp41 := HP41.out
        have HBC := hid fun (vi : Int) (hv : vi = (((I j % ((2 ^ k : Nat) : Int)).toNat : Nat) : Int)) w' => bits_code vi (I j % ((2 ^ k : Nat) : Int)).toNat k hv (by omega) hml w'
        have HML := hid hml
        generalize (I j % ((2 ^ k : Nat) : Int)).toNat = v at *
        generalize rawc I k (33 * 2 ^ 6 + k, 6 + 6) j = r at *
        have HFT := hid hfit
        have HPI := hid hpi
        clear his hml hfit hpi
        by_cases h0 : I j < 0
        · rw [if_pos h0] at HFT
          have hlt0 : (I j : Int) < 0 := h0
          have hv : I j + ((2 ^ k : Nat) : Int) = (v : Int) := HFT.out.symm
          have hv64 : v < 18446744073709551616 := by have := HML.out; omega
          have hwu : IntKind.u64.wrap (v : Int) = (v : Int) := by rw [IntKind.wrap_u64]; omega
          have HPW2 := hid (HPW.out wr)
          have hv2 : I j + (2 : Int) ^ k = (v : Int) := by rw [HPI.out]; exact hv
          generalize I j = x at *
          clear h0
          go_wp2_with fail
          refine HPW2.out.mono ?_
          rintro e w' ⟨rfl, rfl⟩
          go_wp2_with fail
          refine (HBC.out _ (by first | rfl | exact hwu | assumption) wr).mono ?_
          rintro e w8 ⟨lo8, lcap8, rfl, hn8⟩
          have hn9 := HNN.out.below' hn8.below
          have hq9 := hq
          have hsz9 : w2.heap.size ≤ w8.heap.size := hn9.below.size
          go_wp2_with (at_builtin; go_must (refine wpList_append_list _ rfl (.tmp 67) (.tmp 72) 22 rfl w2.heap.size 3 i0 (.int .i64 0) 8 Try.underlying22 hi hz0 hz1 hz2 rfl lo r.2 lcap (bitl r.1 r.2) rfl hn9.lst lo8 k lcap8 (bitl v k) rfl (bitl_len _ _) hn8.lst.none' hn8.lst.cells (bitl_one _ _) (by unfold maxLen; omega) (by omega) hsz9 ?_))
          intro lo4 lcap4 w4 hown4 hg4 hat4
          have hn4 := HNN.out.app hn8.below HML.out hown4 hg4 hat4
          have hst : Value.slice lo4 (r.2 + k) lcap4 = .slice lo4 (rawc I k (33 * 2 ^ 6 + k, 6 + 6) (j + 1)).2 lcap4 ∧ Nw w2 w2.heap.size lo4 lcap4 (rawc I k (33 * 2 ^ 6 + k, 6 + 6) (j + 1)).1 (rawc I k (33 * 2 ^ 6 + k, 6 + 6) (j + 1)).2 w4 := by
            rw [HE2.out]; exact ⟨rfl, hn4⟩
          have HST := hid hst
          clear hown4 hg4 hat4 hn4 hn9 hn8 hq9 hst hsz9 ck c3
          go_wp2_with fail
          go_roundg (len - (j + 1))
          case measure => rw [HG.out]; omega
          case rel => exact ⟨j + 1, lo4, lcap4, by omega, rfl, by go_num, HST.out.1, HST.out.2⟩
        · rw [if_neg h0] at HFT
          have hv : I j = (v : Int) := HFT.out.symm
          have hv64 : v < 18446744073709551616 := by have := HML.out; omega
          have hwu : IntKind.u64.wrap (v : Int) = (v : Int) := by rw [IntKind.wrap_u64]; omega
          have hnn : ¬ (v : Int) < 0 := by omega
          rw [hv] at ck
          clear hv hib h0
          go_wp2_with fail
          refine (HBC.out _ (by first | rfl | exact hwu | assumption) wr).mono ?_
          rintro e w8 ⟨lo8, lcap8, rfl, hn8⟩
          have hn9 := HNN.out.below' hn8.below
          have hq9 := hq
          have hsz9 : w2.heap.size ≤ w8.heap.size := hn9.below.size
          go_wp2_with (at_builtin; go_must (refine wpList_append_list _ rfl (.tmp 67) (.tmp 72) 22 rfl w2.heap.size 3 i0 (.int .i64 0) 8 Try.underlying22 hi hz0 hz1 hz2 rfl lo r.2 lcap (bitl r.1 r.2) rfl hn9.lst lo8 k lcap8 (bitl v k) rfl (bitl_len _ _) hn8.lst.none' hn8.lst.cells (bitl_one _ _) (by unfold maxLen; omega) (by omega) hsz9 ?_))
          intro lo4 lcap4 w4 hown4 hg4 hat4
          have hn4 := HNN.out.app hn8.below HML.out hown4 hg4 hat4
          have hst : Value.slice lo4 (r.2 + k) lcap4 = .slice lo4 (rawc I k (33 * 2 ^ 6 + k, 6 + 6) (j + 1)).2 lcap4 ∧ Nw w2 w2.heap.size lo4 lcap4 (rawc I k (33 * 2 ^ 6 + k, 6 + 6) (j + 1)).1 (rawc I k (33 * 2 ^ 6 + k, 6 + 6) (j + 1)).2 w4 := by
            rw [HE2.out]; exact ⟨rfl, hn4⟩
          have HST := hid hst
          clear hown4 hg4 hat4 hn4 hn9 hn8 hq9 hst hsz9 ck c3
          go_wp2_with fail
          go_roundg (len - (j + 1))
          case measure => rw [HG.out]; omega
          case rel => exact ⟨j + 1, lo4, lcap4, by omega, rfl, by go_num, HST.out.1, HST.out.2⟩
      · have hge : ¬ (j : Int) < (len : Int) := by omega
        obtain rfl : len = j := by omega
        have hfin : CodePost w (pcw (3, k, ct) I len (0, 0)).1 (pcw (3, k, ct) I len (0, 0)).2 (.returned (.slice lo (rawc I k (33 * 2 ^ 6 + k, 6 + 6) len).2 lcap)) wr := by
          rw [HE.out]; exact ⟨lo, lcap, rfl, nw_trans HBW.out HNN.out⟩
        have HFIN := hid hfin
        clear hfin
        generalize rawc I k (33 * 2 ^ 6 + k, 6 + 6) len = r at *
        go_wp2_with fail
        go_ret
        exact HFIN.out
end Go.Proofs.Ytjimamjhakainaa.Part
