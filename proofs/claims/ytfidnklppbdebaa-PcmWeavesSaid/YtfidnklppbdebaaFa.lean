/- farthest of pcm: the greatest distance of two lists. Conditions: both lie in memory, are as long as each other, and their numbers are of 24 bits. -/
import Derived.Test.YtfidnklppbdebaaSb
namespace Go.Proofs.Ytfidnklppbdebaa.Pcm
open Go.RowKit Gen

def dist (x y : Int) : Int := if x - y < 0 then y - x else x - y
/-- The greatest distance of the first. -/
def far (U V : Nat → Int) : Nat → Int
  | 0 => 0
  | k + 1 => if far U V k < dist (U k) (V k) then dist (U k) (V k) else far U V k
def Near (U : Nat → Int) (len : Nat) : Prop := ∀ j, j < len → -8388608 ≤ U j ∧ U j ≤ 8388608
theorem dist_b {x y : Int} (hx : -8388608 ≤ x ∧ x ≤ 8388608) (hy : -8388608 ≤ y ∧ y ≤ 8388608) : 0 ≤ dist x y ∧ dist x y ≤ 16777216 := by unfold dist; split <;> omega
theorem far_b {U V : Nat → Int} {len : Nat} (hU : Near U len) (hV : Near V len) : ∀ k, k ≤ len → 0 ≤ far U V k ∧ far U V k ≤ 16777216
  | 0, _ => ⟨Int.le_refl _, by show (0 : Int) ≤ _; omega⟩
  | k + 1, h => by
    have ih := far_b hU hV k (by omega)
    have hd := dist_b (hU k (by omega)) (hV k (by omega))
    show 0 ≤ (if far U V k < dist (U k) (V k) then dist (U k) (V k) else far U V k) ∧ (if far U V k < dist (U k) (V k) then dist (U k) (V k) else far U V k) ≤ 16777216
    split
    · exact hd
    · exact ih

set_option maxHeartbeats 1600000 in
set_option maxRecDepth 100000 in
theorem farthest_any (w : World) (a a' : Option Addr) (len cap cap' b off b' off' : Nat) (U V : Nat → Int) (h : Isb w a len b off U) (h' : Isb w a' len b' off' V) (hU : Near U len) (hV : Near V len) :
    Calls Try.prog 46 #[.slice a len cap, .slice a' len cap'] w fun e w' => e = .returned (.int .i64 (far U V len)) ∧ Fr (fun _ => False) w w' := by
  have H := hid h
  have H' := hid h'
  have HU := hid hU
  have HV := hid hV
  have hl := h.hl
  clear h h' hU hV
  go_enter Try.func46, Try.ntmps46
  go_wp2_with fail
  go_loopg [5, 10] len (fun g f i wr => ∃ j : Nat, j ≤ len ∧ g = len - j ∧ f = .int .i64 (far U V j) ∧ i = .int .i64 j ∧ Fr (fun _ => False) w wr)
  case atStart => exact ⟨0, Nat.zero_le _, rfl, rfl, rfl, Fr.refl _ _⟩
  case round =>
    obtain ⟨j, hj, hg, rfl, rfl, hf⟩ := hrel
    have HG := hid hg
    clear hg
    by_cases hlt : j < len
    · have hlt2 : (j : Int) < (len : Int) := by omega
      obtain rfl := H.out.addr (by omega)
      obtain rfl := H'.out.addr (by omega)
      have ck := (H.out.fr hf).c j hlt
      have ck' := (H'.out.fr hf).c j hlt
      have HFB := hid (far_b HU.out HV.out j (by omega))
      have HUB := hid (HU.out j hlt)
      have HVB := hid (HV.out j hlt)
      have HS : Hid (far U V (j + 1) = if far U V j < dist (U j) (V j) then dist (U j) (V j) else far U V j) := hid rfl
      generalize hz : far U V (j + 1) = z at *
      have HZ := hid hz
      clear hz
      generalize far U V j = y at *
      generalize U j = x at *
      generalize V j = v at *
      have HM : Hid ((if (if y < wrap64 (x - v) then wrap64 (x - v) else y) < wrap64 (v - x) then wrap64 (v - x) else if y < wrap64 (x - v) then wrap64 (x - v) else y) = z) := hid (by
        have h1 := HFB.out
        have h2 := HUB.out
        have h3 := HVB.out
        have h4 := HS.out
        rw [w64 (x - v) (by omega) (by omega), w64 (v - x) (by omega) (by omega), h4]
        unfold dist
        split <;> split <;> split <;> (try split) <;> omega)
      go_wp2_with fail
      go_quiet (fail)
      rw [HM.out]
      have hf2 : Fr (fun _ => False) w (wr.drewN nq) := ⟨hf.os, hf.tape, hf.output, hf.size, hf.block⟩
      clear ck ck' hf
      go_wp2_with fail
      go_roundg (len - (j + 1))
      case measure => rw [HG.out]; omega
      case rel => exact ⟨j + 1, by omega, rfl, congrArg (Value.int .i64) HZ.out.symm, by go_num, hf2⟩
    · have hge : ¬ (j : Int) < (len : Int) := by omega
      obtain rfl : j = len := by omega
      go_wp2_with fail
      go_ret
      exact ⟨rfl, hf⟩
end Go.Proofs.Ytfidnklppbdebaa.Pcm
