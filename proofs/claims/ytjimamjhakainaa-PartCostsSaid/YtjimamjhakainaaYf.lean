/- The least of a list and its place; the parameter of a tally. Conditions: those of the memory's own form alone. -/
import Derived.Test.YtjimamjhakainaaYe
namespace Go.Proofs.Ytjimamjhakainaa.Part
open Go.RowKit Bit Rice Runs

def mnI (I : Nat → Int) : Nat → Int
  | 0 => I 0
  | j + 1 => min (mnI I j) (I (j + 1))
theorem mnI_le (I : Nat → Int) : ∀ n i, i ≤ n → mnI I n ≤ I i
  | 0, i, h => by
    obtain rfl : i = 0 := by omega
    exact Int.le_refl _
  | n + 1, i, h => by
    show min (mnI I n) (I (n + 1)) ≤ I i
    by_cases e : i = n + 1
    · subst e; omega
    · have := mnI_le I n i (by omega); omega
theorem mnI_at (I : Nat → Int) : ∀ n, ∃ i, i ≤ n ∧ mnI I n = I i
  | 0 => ⟨0, Nat.le_refl _, rfl⟩
  | n + 1 => by
    obtain ⟨i, h1, h2⟩ := mnI_at I n
    show ∃ i, i ≤ n + 1 ∧ min (mnI I n) (I (n + 1)) = I i
    by_cases e : mnI I n ≤ I (n + 1)
    · exact ⟨i, by omega, by omega⟩
    · exact ⟨n + 1, Nat.le_refl _, by omega⟩
theorem min_any (w : World) (a : Option Addr) (len cap b off : Nat) (I : Nat → Int) (h : Is w a len cap b off I) (h0 : 0 < len) :
    Calls Try.prog 91 #[.slice a len cap] w fun e w' => e = .returned (.int .i64 (mnI I (len - 1))) ∧ w = w' := by
  have H := hid h
  have hl := h.hl
  have hc := h.hc
  obtain rfl := h.addr h0
  have ck := h.c 0 h0
  rw [Nat.add_zero] at ck
  have h1 : ¬ (len : Int) < 1 := by omega
  have h2 : (0 : Int) < (len : Int) := by omega
  clear h
  go_enter Try.func91, Try.ntmps91
  go_wp2_with fail
  clear ck
  go_loopg [3, 4] len (fun g m i wr => ∃ k : Nat, 1 ≤ k ∧ k ≤ len ∧ g = len + 1 - k ∧ m = .int .i64 (mnI I (k - 1)) ∧ i = .int .i64 k ∧ w = wr)
  case atStart => exact ⟨1, Nat.le_refl _, by omega, by omega, rfl, rfl, rfl⟩
  case round =>
    obtain ⟨k, hk1, hk, hg, rfl, rfl, rfl⟩ := hrel
    have HG := hid hg
    clear hg
    by_cases hlt : k < len
    · have hlt2 : (k : Int) < (len : Int) := by omega
      have ck := H.out.c k hlt
      have HM := hid (show mnI I (k + 1 - 1) = min (mnI I (k - 1)) (I k) from by
        rw [show k + 1 - 1 = (k - 1) + 1 from by omega]
        show min (mnI I (k - 1)) (I (k - 1 + 1)) = _
        rw [show k - 1 + 1 = k from by omega])
      generalize mnI I (k - 1) = m at *
      generalize I k = x at *
      go_wp2_with fail
      go_roundg (len + 1 - (k + 1))
      case measure => rw [HG.out]; omega
      case rel => exact ⟨k + 1, by omega, by omega, rfl, by rw [HM.out], by go_num, rfl⟩
    · have hge : ¬ (k : Int) < (len : Int) := by omega
      obtain rfl : len = k := by omega
      go_wp2_with fail
      go_ret
      exact ⟨rfl, rfl⟩
theorem index_at (w : World) (a : Option Addr) (len cap b off : Nat) (I : Nat → Int) (h : Is w a len cap b off I) (v : Int) (p : Nat) (hp : p < len) (hv : I p = v) (hn : ∀ i, i < p → I i ≠ v) :
    Calls Try.prog 92 #[.slice a len cap, .int .i64 v] w fun e w' => e = .returned (.int .i64 (p : Int)) ∧ w = w' := by
  have H := hid h
  have hl := h.hl
  have hc := h.hc
  obtain rfl := h.addr (by omega)
  have HV := hid hv; have HN := hid hn
  clear h hv hn
  go_enter Try.func92, Try.ntmps92
  go_wp2_with fail
  go_loopg [8] len (fun g i wr => ∃ k : Nat, k ≤ p ∧ g = len - k ∧ i = .int .i64 k ∧ w = wr)
  case atStart => exact ⟨0, Nat.zero_le _, rfl, rfl, rfl⟩
  case round =>
    obtain ⟨k, hk, hg, rfl, rfl⟩ := hrel
    have HG := hid hg
    clear hg
    have hlt2 : (k : Int) < (len : Int) := by omega
    have ck := H.out.c k (by omega)
    by_cases e : k = p
    · subst e
      have hb : (v == I k) = true := by rw [HV.out]; exact beq_self_eq_true _
      generalize I k = x at *
      go_wp2_with fail
      go_ret
      exact ⟨rfl, rfl⟩
    · have hb : (v == I k) = false := beq_eq_false_iff_ne.2 fun h => HN.out k (by omega) h.symm
      generalize I k = x at *
      go_wp2_with fail
      go_roundg (len - (k + 1))
      case measure => rw [HG.out]; omega
      case rel => exact ⟨k + 1, by omega, rfl, by go_num, rfl⟩

theorem par_min (I : Nat → Int) (n : Nat) : mnI (fun k => (tt I n k : Int)) 30 = (tt I n (kr I n) : Int) := by
  obtain ⟨i, h1, h2⟩ := mnI_at (fun k => (tt I n k : Int)) 30
  have h3 := mnI_le (fun k => (tt I n k : Int)) 30 (kr I n) (kr_le I n)
  have h4 : tt I n (kr I n) ≤ tt I n i := bst_le (zs I) n 30 i h1
  have h5 : mnI (fun k => (tt I n k : Int)) 30 = (tt I n i : Int) := h2
  have h6 : mnI (fun k => (tt I n k : Int)) 30 ≤ (tt I n (kr I n) : Int) := h3
  omega
theorem par_at (I : Nat → Int) (n i : Nat) (h : i < kr I n) : tt I n (kr I n) < tt I n i := bst_lt (zs I) n 30 i h
set_option maxRecDepth 100000 in
theorem par_any (w : World) (z g : Nat) (I : Nat → Int) (n : Nat) (hn : n ≤ 1048576) :
    Calls Try.prog 63 #[.agg (tal z g (tt I n))] w fun e w' => e = .returned (.tuple #[.int .i64 (kr I n : Int), .int .i64 (tt I n (kr I n) : Int)]) ∧ Below w.heap.size w w' := by
  have hr := tal_row (show (w.alloc (.cells (tal z g (tt I n)) 60)).heap[w.heap.size]? = some (.cells (tal z g (tt I n)) 60 (0, 0)) from heap_alloc_new _ _)
  have hib : ∀ k, -9223372036854775808 ≤ (tt I n k : Int) ∧ (tt I n k : Int) ≤ 9223372036854775807 := fun k => by have := tt_le I n k; omega
  have hs : Is (w.alloc (.cells (tal z g (tt I n)) 60)) (some ⟨w.heap.size, 2, none⟩) 31 31 w.heap.size 2 (fun k => (tt I n k : Int)) :=
    ⟨fun _ => rfl, fun i hi => by have := hr.cell (show 2 + i < 33 by omega); rw [tc_2] at this; exact this, fun i _ => hib i, fun _ => hr.lt, by decide, by decide⟩
  have HM := hid (min_any _ _ _ _ _ _ _ hs (by decide))
  have HX := hid (index_at _ _ _ _ _ _ _ hs (tt I n (kr I n) : Int) (kr I n) (by have := kr_le I n; omega) rfl fun i hi => by have := par_at I n i hi; omega)
  rw [show (31 - 1 : Nat) = 30 from rfl, par_min] at HM
  have HB := hid ((Below.refl w.heap.size w).alloc (Nat.le_refl _) (.cells (tal z g (tt I n)) 60))
  have hsz := tal_size z g (tt I n)
  clear hr hs hib
  generalize tal z g (tt I n) = T at *
  go_enter Try.func63, Try.ntmps63
  go_wp2_with fail
  refine HM.out.mono ?_
  rintro e w' ⟨rfl, rfl⟩
  go_wp2_with fail
  refine HX.out.mono ?_
  rintro e w' ⟨rfl, rfl⟩
  go_wp2_with fail
  go_ret2
  exact ⟨rfl, HB.out⟩
