/- The document's own fields: the bytes of a number, of a signed one, of a text, or why there are none. Conditions: texts of fewer than 2^38 bytes. -/
import Derived.Test.YtgcnbeigchppfaaTa4
import Derived.Deep.OwnRows
namespace Go.Proofs.Ytgcnbeigchppfaa.Fld
open Go.RowKit Gen

set_option maxRecDepth 100000 in
theorem le_at (v n i : Nat) (h : i < n) : (le v n)[i]? = some (v / 2 ^ (8 * i) % 256) := by
  induction n with
  | zero => omega
  | succ n ih =>
    rw [le]
    by_cases hi : i < n
    · rw [List.getElem?_append_left (by rw [le_len]; exact hi)]; exact ih hi
    · obtain rfl : i = n := by omega
      rw [List.getElem?_append_right (by rw [le_len]; omega), le_len, Nat.sub_self]; rfl

/-- 256 to a number up to 7. -/
def pw7 (n : Nat) : Nat := 256 ^ (min n 7)
set_option maxRecDepth 100000 in
set_option maxHeartbeats 800000 in
theorem rbytes_any (v n : Nat) (hv : v < 18446744073709551616) (hn : n ≤ 8) (w : World) :
    Calls Try.prog 46 #[.int .u64 (v : Int), .int .i64 (n : Int)] w fun e w' => e = .returned (.slice (some ⟨w.heap.size, 0, none⟩) n n) ∧ w'.ownsRow w.heap.size 5 1 (.slice (some ⟨w.heap.size, 0, none⟩) n n) n (bl (le v n)) ∧ Below w.heap.size w w' := by
  have hmk : ∀ w, (Instr.makeSlice 22 (.int .i64 (n : Int)) (.int .i64 (n : Int))).run Try.prog w = .ok (.slice (some ⟨w.heap.size, 0, none⟩) n n) (w.alloc (.cells (madeCells #[.int .u8 0] n) 5)) := fun w =>
    run_make_row' (P := Try.prog) 22 5 (.int .u8 0) 1 Try.underlying22 Try.info5 rfl .i64 .i64 n (by omega) (by omega) w
  have h0 := World.rowIs_made w (.int .u8 0) n 5
  have H0 := hid h0
  have HB0 := hid ((Below.refl w.heap.size w).alloc (Nat.le_refl _) (.cells (madeCells #[.int .u8 0] n) 5))
  clear h0
  go_enter Try.func46, Try.ntmps46
  go_wp2_with fail
  go_loopw [0, 6] (fun x i wr => ∃ k : Nat, k ≤ n ∧ i = .int .i64 k ∧ x = .int .u64 ((v / 2 ^ (8 * k) : Nat) : Int) ∧ wr.rowIs w.heap.size 5 n (fun i => if i < k then .int .u8 ((v / 2 ^ (8 * i) % 256 : Nat) : Int) else .int .u8 0) ∧ Below w.heap.size w wr) (fun _ i _ => n - (intOf i).toNat)
  case atStart => exact ⟨0, Nat.zero_le _, rfl, by rw [Nat.mul_zero, Nat.pow_zero, Nat.div_one], H0.out.congr fun i _ => by rw [if_neg (Nat.not_lt_zero _)], HB0.out⟩
  case round =>
    obtain ⟨k, hk, rfl, rfl, hrow, hb⟩ := hrel
    have hnx : v / 2 ^ (8 * k) / 256 = v / 2 ^ (8 * (k + 1)) := by rw [Nat.div_div_eq_div_mul, show 8 * (k + 1) = 8 * k + 8 from by omega, Nat.pow_add]
    have HX := hid hnx
    have hxl : v / 2 ^ (8 * k) < 18446744073709551616 := Nat.lt_of_le_of_lt (Nat.div_le_self _ _) hv
    have HB := hid hb
    clear hnx hb H0 HB0 hmk
    by_cases hlt : k < n
    · have hc := hrow.cell hlt
      have hf := hrow.frozen k
      have HR := hid hrow
      clear hrow
      have hxe : v / 2 ^ (8 * k) % 256 = v / 2 ^ (8 * k) % 256 := rfl
      generalize hx : v / 2 ^ (8 * k) = x at *
      have HXE := hid hx
      clear hx hxe
      go_wp2_with fail
      go_roundw
      case rel =>
        refine ⟨k + 1, by omega, by go_num, congrArg (Value.int .u64) (by rw [← HX.out]; omega), (HR.out.set k _).congr fun i hi => ?_, HB.out.setCell (p := ⟨w.heap.size, k, none⟩) (Nat.le_refl _) _⟩
        by_cases h1 : i = k
        · subst h1; rw [if_pos rfl, if_pos (by omega), HXE.out]; congr 1
        · rw [if_neg h1]
          by_cases h2 : i < k
          · rw [if_pos h2, if_pos (by omega)]
          · rw [if_neg h2, if_neg (by omega)]
      case measure => simp [intOf]; omega
    · obtain rfl : k = n := by omega
      have HR := hid hrow
      clear hrow
      go_wp2_with fail
      go_ret
      refine ⟨rfl, ⟨by rw [bl_len, le_len]; omega, .inr ?_⟩, HB.out⟩
      obtain ⟨c, h1, h2, h3⟩ := HR.out
      refine ⟨w.heap.size, k, c, rfl, Nat.le_refl _, h1, Nat.le_refl _, by unfold maxLen; omega, by omega, ?_⟩
      apply List.ext_getElem?
      intro i
      rw [List.getElem?_take, bl_at]
      by_cases hi : i < k
      · rw [if_pos (by omega), Array.getElem?_toList, h3 i hi, le_at v k i hi]
        show some (if i < k then _ else _) = _
        rw [if_pos hi]; rfl
      · rw [if_neg (by omega), List.getElem?_eq_none (by rw [le_len]; omega)]; rfl

/-- What comes with an error, or without one. -/
def ifOk (e : Nat) (m : List Nat) : List Nat := if e = 0 then m else []
/-- What a call of the document's leaves: bytes of its own, and an error. -/
def RefP (w : World) (e : Nat) (m : List Nat) (x : Ending) (w' : World) : Prop :=
  ∃ ao cap, x = .returned (.tuple #[.slice ao m.length cap, .int .i64 (e : Int)]) ∧ w'.ownsRow w.heap.size 5 1 (.slice ao m.length cap) m.length (bl m) ∧ Below w.heap.size w w'
set_option maxRecDepth 100000 in
theorem refp_none (w : World) (e : Nat) : RefP w e [] (.returned (.tuple #[.slice none 0 0, .int .i64 (e : Int)])) w := ⟨none, 0, rfl, World.ownsRow_nil _ _ _ _, Below.refl _ _⟩

set_option maxRecDepth 100000 in
theorem pow256 (n : Nat) : 256 ^ n = 2 ^ (8 * n) := by rw [Nat.pow_mul]

end Go.Proofs.Ytgcnbeigchppfaa.Fld
