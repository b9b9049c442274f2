/- Of lists: where blocks are found in bytes, and how many bytes are in none. No condition but those that each lemma names. -/
import Derived.Test.YtgcnbeigchppfaaLo
namespace Go.Proofs.Ytgcnbeigchppfaa.Mnd
open Go.RowKit Gen

/-- Where blocks are found, from a place on. -/
def scn (b : List Nat) : Nat → Nat → List Nat
  | 0, _ => []
  | f + 1, p => if b.length ≤ p then [] else if Head.opE (b.drop p) = 0 then p :: scn b f (p + (36 + Head.szn (b.drop p))) else scn b f (p + 1)
set_option maxRecDepth 100000 in
theorem scn_fuel (b : List Nat) : ∀ (f f' p : Nat), b.length - p < f → b.length - p < f' → scn b f p = scn b f' p
  | 0, _, _, h, _ => absurd h (Nat.not_lt_zero _)
  | _ + 1, 0, _, _, h => absurd h (Nat.not_lt_zero _)
  | f + 1, f' + 1, p, h, h' => by
    unfold scn
    by_cases h0 : b.length ≤ p
    · rw [if_pos h0, if_pos h0]
    · rw [if_neg h0, if_neg h0]
      by_cases h1 : Head.opE (b.drop p) = 0
      · rw [if_pos h1, if_pos h1, scn_fuel b f f' _ (by omega) (by omega)]
      · rw [if_neg h1, if_neg h1, scn_fuel b f f' _ (by omega) (by omega)]
/-- All of them. -/
def sc (b : List Nat) (p : Nat) : List Nat := scn b (b.length - p + 1) p
set_option maxRecDepth 100000 in
theorem sc_end {b : List Nat} {p : Nat} (h : b.length ≤ p) : sc b p = [] := by unfold sc scn; rw [if_pos h]
set_option maxRecDepth 100000 in
theorem sc_hit {b : List Nat} {p : Nat} (h : p < b.length) (e : Head.opE (b.drop p) = 0) : sc b p = p :: sc b (p + (36 + Head.szn (b.drop p))) := by
  unfold sc
  rw [scn, if_neg (by omega), if_pos e, scn_fuel b _ (b.length - (p + (36 + Head.szn (b.drop p))) + 1) _ (by omega) (by omega)]
set_option maxRecDepth 100000 in
theorem sc_miss {b : List Nat} {p : Nat} (h : p < b.length) (e : ¬ Head.opE (b.drop p) = 0) : sc b p = sc b (p + 1) := by
  unfold sc
  rw [scn, if_neg (by omega), if_neg e, scn_fuel b _ (b.length - (p + 1) + 1) _ (by omega) (by omega)]
/-- How many bytes such blocks have. -/
def blen (b : List Nat) (S : List Nat) : Nat := (S.map fun p => 36 + Head.szn (b.drop p)).sum
set_option maxRecDepth 100000 in
theorem blen_snoc (b : List Nat) (S : List Nat) (p : Nat) : blen b (S ++ [p]) = blen b S + (36 + Head.szn (b.drop p)) := by
  unfold blen
  rw [List.map_append, List.sum_append]
  simp
set_option maxRecDepth 100000 in
theorem blen_cons (b : List Nat) (S : List Nat) (p : Nat) : blen b (p :: S) = (36 + Head.szn (b.drop p)) + blen b S := by
  unfold blen
  rw [List.map_cons, List.sum_cons]
set_option maxRecDepth 100000 in
/-- The blocks that are found lie in the bytes, one behind the other. -/
theorem sc_len (b : List Nat) : ∀ (f p : Nat), p ≤ b.length → p + blen b (scn b f p) ≤ b.length
  | 0, p, h => by show p + 0 ≤ _; omega
  | f + 1, p, h => by
    unfold scn
    split
    · show p + 0 ≤ _; omega
    split
    · rename_i h1 h2
      obtain ⟨_, _, hl, _⟩ := Fil.op_ok h2
      rw [List.length_drop] at hl
      have ih := sc_len b f (p + (36 + Head.szn (b.drop p))) (by omega)
      rw [blen_cons]
      omega
    · have ih := sc_len b f (p + 1) (by omega)
      omega
set_option maxRecDepth 100000 in
theorem scn_ok (b : List Nat) : ∀ (f p : Nat), ∀ q ∈ scn b f p, p ≤ q ∧ q < b.length ∧ Head.opE (b.drop q) = 0
  | 0, _, q, h => by cases h
  | f + 1, p, q, h => by
    unfold scn at h
    split at h
    · cases h
    split at h
    · rename_i h1 h2
      rcases List.mem_cons.1 h with rfl | h
      · exact ⟨Nat.le_refl _, by omega, h2⟩
      · have := scn_ok b f _ q h
        exact ⟨by omega, this.2⟩
    · have := scn_ok b f _ q h
      exact ⟨by omega, this.2⟩
theorem len_blen (b : List Nat) : ∀ S : List Nat, S.length ≤ blen b S
  | [] => Nat.zero_le _
  | p :: S => by
    have ih := len_blen b S
    rw [blen_cons, List.length_cons]
    omega
end Go.Proofs.Ytgcnbeigchppfaa.Mnd
