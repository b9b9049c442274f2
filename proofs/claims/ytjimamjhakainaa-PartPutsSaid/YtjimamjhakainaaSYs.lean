/- Codes of a list by quotient and rest, in the document; codes that stand behind bits are those bits, and the codes. Conditions: the numbers are coded. -/
import Derived.Test.YtjimamjhakainaaM24
import Derived.Test.YtjimamjhakainaaM30
namespace Go.Proofs.Ytjimamjhakainaa.Part
open Go.RowKit Bit Rice Runs

theorem app_app (p : Nat × Nat) (v n x m : Nat) : app (app p v n) x m = app p (v * 2 ^ m + x) (n + m) := by
  unfold app
  refine Prod.ext ?_ (Nat.add_assoc _ _ _)
  show (p.1 * 2 ^ n + v) * 2 ^ m + x = p.1 * 2 ^ (n + m) + (v * 2 ^ m + x)
  rw [Nat.add_mul, Nat.mul_assoc, ← Nat.pow_add, Nat.add_assoc]
theorem app_lt {v n x m : Nat} (hv : v < 2 ^ n) (hx : x < 2 ^ m) : v * 2 ^ m + x < 2 ^ (n + m) := by
  rw [Nat.pow_add]
  calc v * 2 ^ m + x < v * 2 ^ m + 2 ^ m := by omega
    _ = (v + 1) * 2 ^ m := by rw [Nat.succ_mul]
    _ ≤ 2 ^ n * 2 ^ m := Nat.mul_le_mul_right _ hv
/-- What is told behind some bits. -/
def Cat (f : Nat × Nat → Nat × Nat) : Prop := (∀ p, f p = app p (f (0, 0)).1 (f (0, 0)).2) ∧ (f (0, 0)).1 < 2 ^ (f (0, 0)).2
theorem cat_id : Cat fun p => p := ⟨fun p => by unfold app; simp, by decide⟩
theorem cat_app {f : Nat × Nat → Nat × Nat} (h : Cat f) {v n : Nat} (hv : v < 2 ^ n) : Cat fun p => app (f p) v n :=
  ⟨fun p => by
    show app (f p) v n = app p ((f (0, 0)).1 * 2 ^ n + v) ((f (0, 0)).2 + n)
    rw [h.1 p, app_app], app_lt h.2 hv⟩
theorem cat_comp {f g : Nat × Nat → Nat × Nat} (hf : Cat f) (hg : Cat g) : Cat fun p => g (f p) := by
  have h0 : g (f (0, 0)) = app (f (0, 0)) (g (0, 0)).1 (g (0, 0)).2 := hg.1 _
  refine ⟨fun p => ?_, ?_⟩
  · show g (f p) = app p (g (f (0, 0))).1 (g (f (0, 0))).2
    rw [h0, hg.1 (f p), hf.1 p, app_app]
    rfl
  · show (g (f (0, 0))).1 < 2 ^ (g (f (0, 0))).2
    rw [h0]
    exact app_lt hf.2 hg.2
theorem cat_cods (U : Nat → Nat) (k : Nat) (hk : k ≤ 30) : ∀ n, allC U n → Cat fun p => cods U k p.1 p.2 n
  | 0, _ => cat_id
  | n + 1, h => cat_app (cat_cods U k hk n fun i hi => h i (by omega)) (cod_lt hk (h n (by omega)))
theorem gl_lt2 {v : Nat} (h : hg v) : v < 2 ^ gl v := (gl_ok h).2.2.2.1
theorem hg_rn (I : Nat → Int) (n : Nat) (hn : n ≤ 1048576) : hg (rn I n + 1) := ⟨by omega, by have := rn_le I n; omega⟩
theorem cat_cgd (I : Nat → Int) (k : Nat) (hk : k ≤ 30) : ∀ n, n ≤ 1048576 → allZ I n → Cat fun p => cgd I k p n
  | 0, _, _ => cat_id
  | n + 1, hn, h => by
    have ih := cat_cgd I k hk n (by omega) fun i hi => h i (by omega)
    by_cases e : I n = 0
    · have e2 : (fun p => cgd I k p (n + 1)) = fun p => cgd I k p n := funext fun p => if_pos e
      rw [e2]; exact ih
    · have e2 : (fun p => cgd I k p (n + 1)) = fun p => app (app (cgd I k p n) (rn I n + 1) (gl (rn I n + 1))) (cod (zg (I n) - 1) k) (cost (zg (I n) - 1) k) := funext fun p => if_neg e
      rw [e2]
      have hc : coded (zg (I n) - 1) := by have := h n (by omega); unfold coded at *; omega
      exact cat_app (cat_app ih (gl_lt2 (hg_rn I n (by omega)))) (cod_lt hk hc)
theorem cat_cfin (I : Nat → Int) (k : Nat) (hk : k ≤ 30) (n : Nat) (hn : n ≤ 1048576) (h : allZ I n) : Cat fun p => cfin I k p n := by
  have ih := cat_cgd I k hk n hn h
  by_cases e : 0 < rn I n
  · have e2 : (fun p => cfin I k p n) = fun p => app (cgd I k p n) (rn I n + 1) (gl (rn I n + 1)) := funext fun p => if_pos e
    rw [e2]; exact cat_app ih (gl_lt2 (hg_rn I n hn))
  · have e2 : (fun p => cfin I k p n) = fun p => cgd I k p n := funext fun p => if_neg e
    rw [e2]; exact ih
theorem cat_rawc (I : Nat → Int) (k : Nat) : ∀ n, Cat fun p => rawc I k p n
  | 0 => cat_id
  | n + 1 => cat_app (cat_rawc I k n) (mask_lt (I n) k)
theorem cat_pcw (x : Nat × Nat × Nat) (hx : wok x) (I : Nat → Int) (n : Nat) (hn : n ≤ 1048576) (h : allZ I n) : Cat fun p => pcw x I n p := by
  unfold pcw
  rcases hx with hx | ⟨hx, hk⟩ | ⟨hx, hk⟩ | ⟨hx, h1, hk⟩
  · simp only [if_pos hx]
    exact cat_app cat_id (by decide)
  · simp only [if_neg (show ¬ x.1 = 0 by omega), if_pos hx]
    exact cat_comp (cat_app cat_id (show x.2.1 < 2 ^ 6 by omega)) (cat_cods (zs I) x.2.1 hk n h)
  · simp only [if_neg (show ¬ x.1 = 0 by omega), if_neg (show ¬ x.1 = 1 by omega), if_pos hx]
    exact cat_comp (cat_app (cat_app cat_id (show 32 < 2 ^ 6 by decide)) (show x.2.1 < 2 ^ 5 by omega)) (cat_cfin I x.2.1 hk n hn h)
  · simp only [if_neg (show ¬ x.1 = 0 by omega), if_neg (show ¬ x.1 = 1 by omega), if_neg (show ¬ x.1 = 2 by omega)]
    exact cat_comp (cat_app (cat_app cat_id (show 33 < 2 ^ 6 by decide)) (show x.2.1 < 2 ^ 6 by omega)) (cat_rawc I x.2.1 n)

set_option maxRecDepth 20000 in
set_option maxHeartbeats 2000000 in
theorem rcodes_any (w : World) (a : Option Addr) (len cap b off : Nat) (U : Nat → Nat) (h : Us w a len b off U) (hlen : len ≤ 1000000) (hr : allC U len) (k : Nat) (hk : k ≤ 30) :
    Calls Try.prog 41 #[.slice a len cap, .int .i64 (k : Int)] w (CodePost w (cods U k 0 0 len).1 (cods U k 0 0 len).2) := by
  obtain ⟨i0, hi, hz0, hz1, hz2⟩ := info_parts Try.info3
  have H := hid h
  have hll := h.hl
  have HC := hid hr
  have hn0 := nw_none w
  clear h hr
  go_enter Try.func41, Try.ntmps41
  go_wp2_with fail
  go_loopg [5, 6] len (fun g v i wr => ∃ (j : Nat) (lo : Option Addr) (lcap : Nat), j ≤ len ∧ g = len - j ∧ i = .int .i64 j ∧ v = .slice lo (cods U k 0 0 j).2 lcap ∧ Nw w w.heap.size lo lcap (cods U k 0 0 j).1 (cods U k 0 0 j).2 wr)
  case atStart => exact ⟨0, none, 0, Nat.zero_le _, rfl, rfl, rfl, hn0⟩
  case round =>
    obtain ⟨j, lo, lcap, hj, hg, rfl, rfl, hn⟩ := hrel
    have HG := hid hg
    have hle := cods_le U k 0 0 j
    clear hg hn0
    by_cases hlt : j < len
    · have hlt2 : (j : Int) < (len : Int) := by omega
      obtain rfl := H.out.addr (by omega)
      have ck := (H.out.below hn.below H.out.lt).c j hlt
      have hcj := HC.out j hlt
      have HCD := hid (rcodeI (U j : Int) (U j) k rfl hk hcj wr)
      have HVC := hid (cod_lt hk hcj)
      have hcs := cost_le (U j) (k : Int)
      have HE := hid (show cods U k 0 0 (j + 1) = ((cods U k 0 0 j).1 * 2 ^ cost (U j) k + cod (U j) k, (cods U k 0 0 j).2 + cost (U j) k) from rfl)
      clear hcj
      generalize cods U k 0 0 j = r at *
      generalize cost (U j) (k : Int) = cj at *
      generalize cod (U j) k = dj at *
      go_wp2_with fail
      refine HCD.out.mono ?_
      rintro e w2 ⟨lo2, lcap2, rfl, hn2⟩
      have hn3 := hn.below' hn2.below
      have hsz : w.heap.size ≤ w2.heap.size := hn3.below.size
      go_wp2_with (at_builtin; go_must (refine wpList_append_list _ rfl (.tmp 13) (.tmp 19) 22 rfl w.heap.size 3 i0 (.int .i64 0) 8 Try.underlying22 hi hz0 hz1 hz2 rfl lo r.2 lcap (bitl r.1 r.2) rfl hn3.lst lo2 cj lcap2 (bitl dj cj) rfl (bitl_len _ _) hn2.lst.none' hn2.lst.cells (bitl_one _ _) (by unfold maxLen; omega) (by omega) hsz ?_))
      intro lo4 lcap4 w4 hown4 hg4 hat4
      have hn4 := hn.app hn2.below HVC.out hown4 hg4 hat4
      have hst : Value.slice lo4 (r.2 + cj) lcap4 = .slice lo4 (cods U k 0 0 (j + 1)).2 lcap4 ∧ Nw w w.heap.size lo4 lcap4 (cods U k 0 0 (j + 1)).1 (cods U k 0 0 (j + 1)).2 w4 := by
        rw [HE.out]; exact ⟨rfl, hn4⟩
      have HST := hid hst
      clear hown4 hg4 hat4 hn4 hn3 hn2 hn hst hsz ck
      go_wp2_with fail
      go_roundg (len - (j + 1))
      case measure => rw [HG.out]; omega
      case rel => exact ⟨j + 1, lo4, lcap4, by omega, rfl, by go_num, HST.out.1, HST.out.2⟩
    · have hge : ¬ (j : Int) < (len : Int) := by omega
      obtain rfl : len = j := by omega
      have hfin : CodePost w (cods U k 0 0 len).1 (cods U k 0 0 len).2 (.returned (.slice lo (cods U k 0 0 len).2 lcap)) wr := ⟨lo, lcap, rfl, hn⟩
      clear hn
      generalize cods U k 0 0 len = r at *
      go_wp2_with fail
      go_ret
      exact hfin
end Go.Proofs.Ytjimamjhakainaa.Part
