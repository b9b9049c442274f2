/- The table that Make makes, in memory; what a byte makes of a number by it. No condition. -/
import Derived.Test.YtgcnbeigchppfaaStep
import Derived.OwnWalk
import Derived.Deep.OwnRows
import Derived.Deep.WholeRow
namespace Go.Proofs.Ytgcnbeigchppfaa.Crc
open Go.RowKit

def zeros (n : Nat) : Array Value := Array.replicate n (.int .u32 0)
set_option maxRecDepth 100000 in
theorem Try.zero40 : (Try.prog.info? 73).map (fun i => (i.zero, i.size)) = some (some (.agg (zeros 256)), 256) := by kernel_rfl
set_option maxRecDepth 100000 in
theorem z40 (w : World) : (zeroValue 73).run Try.prog w = .ok (.agg (zeros 256)) w := (zero_of_info Try.zero40).1 w

/-- The table, in memory. -/
def Tab (w : World) (g : Nat) : Prop := w.rowIs g 73 256 (fun i => .int .u32 (ei i : Int))

set_option maxRecDepth 100000 in
theorem make_any (w : World) :
    Calls Try.prog 8 #[] w fun e w' => e = .returned (.pointer (some ⟨w.heap.size, 0, none⟩)) ∧ Tab w' w.heap.size ∧ Below w.heap.size w w' := by
  have hz := z40
  have hrow : ∀ t, (w.alloc (.cells (zeros 256) t)).rowIs w.heap.size t 256 (fun i => if i < 0 then .int .u32 (ei i : Int) else .int .u32 0) := fun t =>
    ⟨zeros 256, heap_alloc_last w _, by simp [zeros], fun i hi => by simp [zeros, hi]⟩
  have hb : ∀ t, Below w.heap.size w (w.alloc (.cells (zeros 256) t)) := fun t => (Below.refl _ _).alloc (Nat.le_refl _) _
  generalize zeros 256 = Z at hz hrow hb
  have HR := hid hrow
  have HB := hid hb
  clear hrow hb
  go_enter Try.func8, Try.ntmps8
  go_wp2_with fail
  go_loopw [6, 2, 3] (fun i a b wr => ∃ k : Nat, k ≤ 256 ∧ i = .int .i64 k ∧ wr.rowIs w.heap.size 73 256 (fun i => if i < k then .int .u32 (ei i : Int) else .int .u32 0) ∧ Below w.heap.size w wr) (fun i _ _ _ => 256 - (intOf i).toNat)
  case atStart => exact ⟨0, by decide, rfl, HR.out _, HB.out _⟩
  case round =>
    obtain ⟨k, hk, rfl, hrow, hb⟩ := hrel
    clear HR HB hz
    by_cases hlt : k < 256
    · have HC := hid (hrow.cell hlt)
      have HF := hid (hrow.frozen k)
      have HRW := hid hrow
      have HB := hid hb
      clear hrow hb
      have hd : decide ((k : Int) < 256) = true := by simp; omega
      obtain ⟨wo, rfl⟩ : ∃ wo : World, wo = wr := ⟨_, rfl⟩
      go_wp2_with fail
      go_loop [3, 11] (fun v j => ∃ m : Nat, m ≤ 8 ∧ j = .int .i64 m ∧ v = .int .u32 (pw stp m k : Int)) (fun _ j => 8 - (intOf j).toNat)
      case atStart => exact ⟨0, by decide, rfl, rfl⟩
      case round =>
        obtain ⟨m, hm, rfl, rfl⟩ := hrel
        have hl := pw_lt stp_lin m k (by omega)
        by_cases hmt : m < 8
        · go_wp2_with fail
          refine (step_any _ hl _).mono ?_
          rintro e w' ⟨rfl, rfl⟩
          go_wp2_with fail
          go_round
          case rel => exact ⟨m + 1, by omega, by go_num, by rw [pw_succ]⟩
          case measure => simp [intOf]; omega
        · obtain rfl : m = 8 := by omega
          have hc := HC.out
          have hf := HF.out
          go_wp2_with fail
          go_roundw
          case rel =>
            refine ⟨k + 1, by omega, by go_num, ?_, HB.out.setCell (Nat.le_refl _) _⟩
            refine (HRW.out.set k _).congr fun i hi => ?_
            by_cases h1 : i = k
            · subst h1; rw [if_pos rfl, if_pos (by omega)]; rfl
            · rw [if_neg h1]
              by_cases h2 : i < k
              · rw [if_pos h2, if_pos (by omega)]
              · rw [if_neg h2, if_neg (by omega)]
          case measure => simp [intOf]; omega
    · obtain rfl : k = 256 := by omega
      have H1 := hid hrow
      have H2 := hid hb
      clear hrow hb
      go_wp2_with fail
      go_ret
      exact ⟨rfl, H1.out.congr fun i hi => by rw [if_pos hi], H2.out⟩

set_option maxRecDepth 100000 in
theorem Tab.keep {w w' : World} {g : Nat} (h : Tab w g) (e : w'.heap[g]? = w.heap[g]?) : Tab w' g := World.rowIs.of_block h e
set_option maxRecDepth 100000 in
theorem Tab.lt {w : World} {g : Nat} (h : Tab w g) : g < w.heap.size := World.rowIs.lt h

set_option maxRecDepth 100000 in
theorem ofInt8 (a : Nat) (ha : a < 256) : (BitVec.ofInt 8 (a : Int)).toNat = a := by
  rw [BitVec.ofInt_natCast, BitVec.toNat_ofNat]; exact Nat.mod_eq_of_lt (by omega)
set_option maxRecDepth 100000 in
theorem xor8 (a b : Nat) (ha : a < 256) (hb : b < 256) : bits .xor .u8 (a : Int) (b : Int) = ((a ^^^ b : Nat) : Int) := by
  have hx : a ^^^ b < 256 := Nat.xor_lt_two_pow (n := 8) ha hb
  show IntKind.u8.wrap ((BitVec.ofInt 8 (a : Int) ^^^ BitVec.ofInt 8 (b : Int)).toNat : Int) = _
  rw [BitVec.toNat_xor, ofInt8 a ha, ofInt8 b hb, wrap_u8n]
  omega

set_option maxRecDepth 100000 in
theorem pass_any {w : World} {g : Nat} (h : Tab w g) (x c : Nat) (hx : x < 4294967296) (hc : c < 256) :
    Calls Try.prog 86 #[.pointer (some ⟨g, 0, none⟩), .int .u32 (x : Int), .int .u8 (c : Int)] w fun e w' => e = .returned (.int .u32 (ei (x ^^^ c) : Int)) ∧ w = w' := by
  have hcell := World.rowIs.cell h (i := x % 256 ^^^ c) (low_lt x c hc)
  have hb : bits .xor .u8 ((x : Int) % 256) (c : Int) = ((x % 256 ^^^ c : Nat) : Int) := xor8 (x % 256) c (Nat.mod_lt _ (by decide)) hc
  have hlt := low_lt x c hc
  have hei := ei_lt (x := x % 256 ^^^ c) (by omega)
  have hfin : bits .xor .u32 (ei (x % 256 ^^^ c) : Int) ((x : Int) / 256) = (ei (x ^^^ c) : Int) := by
    rw [show ((x : Int) / 256) = ((x / 256 : Nat) : Int) from by omega, xor32 _ _ hei (by omega), pass_eq x c hc]
  generalize x % 256 ^^^ c = y at *
  have HF := hid hfin
  clear hfin
  go_enter Try.func86, Try.ntmps86
  go_wp2_with fail
  go_ret
  exact ⟨ret_u32 HF.out, rfl⟩
end Go.Proofs.Ytgcnbeigchppfaa.Crc
