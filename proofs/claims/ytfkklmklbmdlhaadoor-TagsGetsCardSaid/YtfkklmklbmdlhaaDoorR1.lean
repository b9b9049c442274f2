/- How the document reads the first bytes of tags: cases of bytes, and what of them the program's Get tells. No program. No condition. -/
import Derived.Test.YtfkklmklbmdlhaaDoorP6
import Derived.Test.YtfkklmklbmdlhaaDoorRt3
namespace Go.Proofs.YtfkklmklbmdlhaaDoor.Tg
open Go.RowKit Gen Fld
open Crc hiding hid

theorem bgn_two {x y : Nat} {r : List Nat} : Bgn (x :: y :: r) ↔ x = 84 ∧ y = 71 := by unfold Bgn; simp
theorem bgn_one {x : Nat} : Bgn [x] ↔ x = 84 := by unfold Bgn; simp
theorem gF_short {b : List Nat} (hb : Bgn b) (hl : b.length < 3) : gF b = 10 := by
  have hF : (gX b).2.F = 10 := by
    match b, hl with
    | [], _ => rfl
    | [x], _ => rfl
    | [x, y], _ => rfl
    | x :: y :: z :: r, h => exact absurd h (by simp)
  exact gF_end hb hF (by decide)
theorem g0_long (x y n : Nat) (r : List Nat) : g0 (x :: y :: n :: r) = ⟨0, r, 3⟩ ∧ gc (x :: y :: n :: r) = n := by
  have h1 := nx_ok (s := ⟨0, x :: y :: n :: r, 0⟩) (k := 2) (f := false) rfl (fun e => by cases e) (by simp)
  have e1 : nx ⟨0, x :: y :: n :: r, 0⟩ 2 false = ([x, y], ⟨0, n :: r, 2⟩) := h1
  have h2 := nx_ok (s := ⟨0, n :: r, 2⟩) (k := 1) (f := true) rfl (fun _ => by decide) (by simp)
  have e2 : nx ⟨0, n :: r, 2⟩ 1 true = ([n], ⟨0, r, 3⟩) := h2
  unfold g0 gc
  rw [e1]
  show (nx ⟨0, n :: r, 2⟩ 1 true).2 = _ ∧ lev (nx ⟨0, n :: r, 2⟩ 1 true).1 = _
  rw [e2]
  exact ⟨rfl, by show n + 256 * 0 = n; omega⟩
end Go.Proofs.YtfkklmklbmdlhaaDoor.Tg
