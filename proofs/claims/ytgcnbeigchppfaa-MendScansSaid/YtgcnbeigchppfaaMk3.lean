/- The maker's numbers, signed ones, bytes, texts: what they lay. Conditions: fewer than 2^39 bytes. -/
import Derived.Test.YtgcnbeigchppfaaMk2
namespace Go.Proofs.Ytgcnbeigchppfaa.Fld
open Go.RowKit Gen

/-- What a call makes of a maker: the error that it has, or the bytes that it lays. -/
def put (s : Nat × List Nat) (e : Nat) (m : List Nat) : Nat × List Nat := if s.1 = 0 then (if e = 0 then (0, s.2 ++ m) else (e, [])) else (s.1, [])
def uErr (v : Nat) (n : Int) : Nat := if n < 1 ∨ 8 < n then 1 else if 2 ^ (8 * n.toNat) ≤ v then 3 else 0

/-- What stands behind a call of a maker. -/
def Aft (w : World) (B p : Nat) (ao : Option Addr) (s : Nat × List Nat) (w' : World) : Prop := ∃ ao' cap', MkA w' B p ao' cap' s.1 s.2 ∧ Psh w w' p ao ao'

set_option maxRecDepth 100000 in
theorem put_err {F E : Nat} (l m : List Nat) (hE : E ≠ 0) : put (F, l) E m = (fst F E, []) := by
  unfold put fst
  by_cases h : F = 0
  · simp [h, hE]
  · simp [h]

def iErr (v n : Int) : Nat := if n < 1 ∨ 8 < n then 1 else if v < -2 ^ (8 * n.toNat - 1) ∨ 2 ^ (8 * n.toNat - 1) ≤ v then 3 else 0
/-- A number's 64 bits. -/
def u64 (v : Int) : Nat := (v % 18446744073709551616).toNat

set_option maxRecDepth 100000 in
theorem u64_lt (v : Int) : u64 v < 18446744073709551616 := by unfold u64; omega
set_option maxRecDepth 100000 in
theorem u64_wrap (v : Int) : IntKind.u64.wrap v = (u64 v : Int) := by
  rw [show IntKind.u64.wrap v = v % 18446744073709551616 from by simp [IntKind.wrap, IntKind.bits, IntKind.signed]]
  unfold u64; omega
set_option maxRecDepth 100000 in
theorem quo_in (v d : Int) (hd : 0 < d) (h : ¬ (v < -d ∨ d ≤ v)) : v / d = 0 ∨ v / d = -1 := by
  by_cases hv : 0 ≤ v
  · exact .inl (Int.ediv_eq_zero_of_lt hv (by omega))
  · have h1 : -1 ≤ v / d := Int.le_ediv_of_mul_le hd (by omega)
    have h2 : v / d < 0 := Int.ediv_neg_of_neg_of_pos (by omega) hd
    omega
set_option maxRecDepth 100000 in
theorem quo_out (v d : Int) (hd : 0 < d) (h : v < -d ∨ d ≤ v) : v / d ≠ 0 ∧ v / d ≠ -1 := by
  rcases h with h | h
  · have h1 : v / d < -1 := Int.ediv_lt_of_lt_mul hd (by omega)
    omega
  · have h1 : 1 ≤ v / d := Int.le_ediv_of_mul_le hd (by omega)
    omega

end Go.Proofs.Ytgcnbeigchppfaa.Fld
