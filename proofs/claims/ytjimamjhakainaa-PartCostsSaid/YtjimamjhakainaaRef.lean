/- The document's own bits: a number's bits as a list of ints, the bits of bytes, and a reader that goes over such a list; what its calls answer, and that nothing else has turned. Conditions: fewer than 2^20 bytes. -/
import Derived.Test.YtjimamjhakainaaRd2
import Derived.Deep.AppendLies
import Derived.Deep.DeepMust
namespace Go.Proofs.Ytjimamjhakainaa.Bit
open Go.RowKit

theorem Try.info3 : (Try.prog.info? 3).map (fun i => (i.zero, i.size, i.bytes)) = some (some (.int .i64 0), 1, 8) := by kernel_rfl

/-- Bit i of the n bits of v, the highest first. -/
def bitOf (v n i : Nat) : Nat := v / 2 ^ (n - 1 - i) % 2

set_option maxHeartbeats 800000 in
theorem bits_any (v n : Nat) (w : World) (hn : n ≤ 64) (hv : v < 18446744073709551616) : Calls Try.prog 40 #[.int .u64 v, .int .i64 n] w fun e w' => e = .returned (.slice (some ⟨w.heap.size, 0, none⟩) n n) ∧ Below w.heap.size w w' ∧
    w'.rowIs w.heap.size 3 n (fun i => .int .i64 (bitOf v n i : Int)) := by
  have hmk : ∀ w, (Instr.makeSlice 22 (.int .i64 (n : Int)) (.int .i64 (n : Int))).run Try.prog w = .ok (.slice (some ⟨w.heap.size, 0, none⟩) n n) (w.alloc (.cells (madeCells #[.int .i64 0] n) 3)) := fun w =>
    run_make_row' (P := Try.prog) 22 3 (.int .i64 0) 8 Try.underlying22 Try.info3 rfl .i64 .i64 n (by omega) (by omega) w
  have hst : (w.alloc (.cells (madeCells #[.int .i64 0] n) 3)).rowIs w.heap.size 3 n (fun i => if n - 0 ≤ i then .int .i64 (bitOf v n i : Int) else .int .i64 0) :=
    (World.rowIs_made w (.int .i64 0) n 3).congr fun i hi => by rw [if_neg (by omega)]
  have hb0 : Below w.heap.size w (w.alloc (.cells (madeCells #[.int .i64 0] n) 3)) := (Below.refl _ _).alloc (Nat.le_refl _) _
  go_enter Try.func40, Try.ntmps40
  go_wp2_with fail
  clear hmk
  go_loopg [0, 6] n (fun g x i wr => ∃ j : Nat, j ≤ n ∧ g = n - j ∧ x = .int .u64 ((v / 2 ^ j : Nat) : Int) ∧ i = .int .i64 ((n : Int) - 1 - j) ∧ Below w.heap.size w wr ∧ wr.rowIs w.heap.size 3 n (fun i => if n - j ≤ i then .int .i64 (bitOf v n i : Int) else .int .i64 0))
  case atStart => exact ⟨0, Nat.zero_le _, rfl, by simp, by simp, hb0, hst⟩
  case round =>
    obtain ⟨j, hj, hg, rfl, rfl, hb, hrow⟩ := hrel
    have HG := hid hg
    clear hg hst hb0
    by_cases hlt : j < n
    · have h1 : (0 : Int) ≤ (n : Int) - 1 - j := by omega
      have h2 : (n : Int) - 1 - j < n := by omega
      obtain ⟨i, hi⟩ : ∃ i, n - 1 - j = i := ⟨_, rfl⟩
      have hi2 : (n : Int) - 1 - j = (i : Int) := by omega
      have hi3 : n - 1 - i = j := by omega
      have hin : i < n := by omega
      rw [hi2]
      have hc := hrow.cell hin
      have hf := hrow.frozen i
      have hvj : v / 2 ^ j < 18446744073709551616 := Nat.lt_of_le_of_lt (Nat.div_le_self _ _) hv
      have hnx : (v / 2 ^ j) / 2 = v / 2 ^ (j + 1) := by rw [Nat.div_div_eq_div_mul, ← Nat.pow_succ]
      have HV := hid (show bitOf v n i = v / 2 ^ j % 2 by unfold bitOf; rw [hi3])
      generalize v / 2 ^ j = x at *
      have HNX := hid hnx; have HI := hid hi; have HI2 := hid hi2
      clear hi hi2 hi3 hnx h1 h2
      have h3 : (0 : Int) ≤ (i : Int) := by omega
      have h4 : (i : Int) < (n : Int) := by omega
      have hx : (x : Int) < 18446744073709551616 := by omega
      go_wp2_with fail
      have hset := hrow.set i (.int .i64 ((x : Int) % 2))
      have hset2 : (wr.setCell ⟨w.heap.size, i, none⟩ (.int .i64 ((x : Int) % 2))).rowIs w.heap.size 3 n (fun i => if n - (j + 1) ≤ i then .int .i64 (bitOf v n i : Int) else .int .i64 0) := by
        refine hset.congr fun k hk => ?_
        have := HI.out
        by_cases e : k = i
        · subst e; rw [if_pos rfl, if_pos (by omega), HV.out]; rfl
        · rw [if_neg e]
          by_cases e2 : n - j ≤ k
          · rw [if_pos e2, if_pos (by omega)]
          · rw [if_neg e2, if_neg (by omega)]
      have hb2 := hb.setCell (p := ⟨w.heap.size, i, none⟩) (Nat.le_refl _) (.int .i64 ((x : Int) % 2))
      have ei : (i : Int) - 1 = (n : Int) - 1 - ((j + 1 : Nat) : Int) := by have := HI2.out; omega
      have ex : (x : Int) / 2 = ((v / 2 ^ (j + 1) : Nat) : Int) := by rw [← HNX.out]; omega
      go_roundg (n - (j + 1))
      case measure => rw [HG.out]; omega
      case rel => exact ⟨j + 1, by omega, rfl, by rw [ex], by rw [ei], hb2, hset2⟩
    · have h1 : ¬ (0 : Int) ≤ (n : Int) - 1 - j := by omega
      obtain rfl : j = n := by omega
      go_wp2_with fail
      go_ret
      exact ⟨rfl, hb, hrow.congr fun i hi => by rw [if_pos (by omega)]⟩

/-- The bits of M's T bytes, as ints. -/
def bl (M T k : Nat) : List Value := (List.range k).map fun i => .int .i64 (seg M (8 * T) i 1 : Int)
theorem bl_at (M T k i : Nat) (h : i < k) : (bl M T k)[i]? = some (.int .i64 (seg M (8 * T) i 1 : Int)) := by simp [bl, h]
theorem bit_byte (M T k i : Nat) (hk : k < T) (hi : i < 8) : bitOf (byt M (8 * T) k) 8 i = seg M (8 * T) (8 * k + i) 1 := by
  unfold bitOf byt seg
  have e1 : 8 * T - (8 * k + i) - 1 = (8 * T - 8 * (k + 1)) + (8 - 1 - i) := by omega
  rw [e1, Nat.pow_add, ← Nat.div_div_eq_div_mul, show (2 : Nat) ^ 1 = 2 from rfl]
  have e2 : (256 : Nat) = 2 ^ (8 - 1 - i) * 2 ^ (i + 1) := by rw [← Nat.pow_add, show 8 - 1 - i + (i + 1) = 8 from by omega]
  rw [e2, Nat.mod_mul_right_div_self]
  exact Nat.mod_mod_of_dvd _ (by rw [Nat.pow_succ]; exact Nat.dvd_mul_left _ _)
theorem bl_next (M T k : Nat) (hk : k < T) : bl M T (8 * (k + 1)) = bl M T (8 * k) ++ (List.range 8).map fun i => .int .i64 (bitOf (byt M (8 * T) k) 8 i : Int) := by
  apply List.ext_getElem?
  intro j
  by_cases h1 : j < 8 * k
  · rw [List.getElem?_append_left (by simpa [bl] using h1), bl_at _ _ _ _ h1, bl_at _ _ _ _ (by omega)]
  · rw [List.getElem?_append_right (by simp [bl]; omega)]
    have e : (bl M T (8 * k)).length = 8 * k := by simp [bl]
    rw [e]
    by_cases h2 : j < 8 * (k + 1)
    · rw [bl_at _ _ _ _ h2]
      have h3 : j - 8 * k < 8 := by omega
      simp only [List.getElem?_map, List.getElem?_range h3, Option.map_some]
      rw [bit_byte M T k (j - 8 * k) hk h3, show 8 * k + (j - 8 * k) = j from by omega]
    · rw [List.getElem?_eq_none (by simp [bl]; omega), List.getElem?_eq_none (by simp; omega)]

/-- What the bits of some bytes are: a list of the call's own. -/
def OfPost (w : World) (M T : Nat) (e : Ending) (w' : World) : Prop := ∃ (lo : Option Addr) (lcap : Nat), e = .returned (.slice lo (8 * T) lcap) ∧ w'.ownsRow w.heap.size 3 1 (.slice lo (8 * T) lcap) (8 * T) (bl M T (8 * T)) ∧ Below w.heap.size w w'

end Go.Proofs.Ytjimamjhakainaa.Bit
