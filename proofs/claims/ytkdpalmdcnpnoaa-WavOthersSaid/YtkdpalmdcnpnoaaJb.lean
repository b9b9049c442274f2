/- slices.Concat of two lists. Conditions: lists of fewer than 2^32 numbers. -/
import Derived.Test.YtkdpalmdcnpnoaaJa
namespace Go.Proofs.Ytkdpalmdcnpnoaa.Pcm
open Go.RowKit Gen

def vl (X : Nat → Int) (n : Nat) : List Value := (List.range n).map fun j => .int .i64 (X j)
set_option maxRecDepth 20000 in
theorem vl_len (X : Nat → Int) (n : Nat) : (vl X n).length = n := by simp [vl]
set_option maxRecDepth 20000 in
theorem vl_at {X : Nat → Int} {n j : Nat} {u : Value} (h : (vl X n)[j]? = some u) : j < n ∧ u = .int .i64 (X j) := by
  have hj : j < n := by
    have := (List.getElem?_eq_some_iff.1 h).1
    rwa [vl_len] at this
  refine ⟨hj, ?_⟩
  simp [vl, hj] at h
  exact h.symm
set_option maxRecDepth 20000 in
theorem vl_get (X : Nat → Int) {n j : Nat} (h : j < n) : (vl X n)[j]? = some (.int .i64 (X j)) := by simp [vl, h]
set_option maxRecDepth 20000 in
theorem vl_one (X : Nat → Int) (n : Nat) : ∀ u ∈ vl X n, u.oneCell' = true := by
  intro u hu
  simp only [vl, List.mem_map] at hu
  obtain ⟨j, _, rfl⟩ := hu
  rfl
set_option maxRecDepth 20000 in
theorem vl_cells {w : World} {a : Option Addr} {n b o : Nat} {X : Nat → Int} (h : Isb w a n b o X) : ∀ ad, a = some ad → ∀ j u, (vl X n)[j]? = some u → w.cell? (ad.add j) = some u := fun ad ha j u hu => by
  obtain ⟨hj, rfl⟩ := vl_at hu
  have := h.addr (by omega)
  rw [ha] at this
  cases this
  rw [Addr.add_lit]
  exact h.c j hj
set_option maxRecDepth 20000 in
theorem isb_none {w : World} {a : Option Addr} {n b o : Nat} {X : Nat → Int} (h : Isb w a n b o X) : a = none → n = 0 := fun ha => by
  by_cases h0 : n = 0
  · exact h0
  · have := h.addr (by omega); rw [ha] at this; cases this
set_option maxRecDepth 20000 in
/-- A list of a call's own is a list in new memory. -/
theorem own_new {w : World} {B : Nat} {ao : Option Addr} {n cap : Nat} {xs : List Value} {X : Nat → Int} (h : w.ownsRow B 3 1 (.slice ao n cap) n xs) (hx : ∀ j, j < n → xs[j]? = some (.int .i64 (X j))) (hn : n ≤ 9223372036854775807) : NewIs B w ao n X := by
  rcases ownsRow_at h with ⟨rfl, rfl, _, _⟩ | ⟨g, rfl⟩
  · exact ⟨0, 0, isb_nil w X, fun h => absurd h (Nat.lt_irrefl 0)⟩
  · have hl := World.ownsRow.lt h g (by rw [ownBlock_slice]; rfl)
    exact ⟨g, 0, ⟨fun _ => rfl, fun i hi => by rw [Nat.zero_add]; exact ownsRow_cell h i _ (hx i hi), fun _ => hl.2, hn⟩, fun _ => hl.1⟩
def sl (L : Nat → Nat) : Nat → Nat
  | 0 => 0
  | k + 1 => sl L k + L k
def cl (L : Nat → Nat) (X : Nat → Nat → Int) : Nat → List Value
  | 0 => []
  | k + 1 => cl L X k ++ vl (X k) (L k)
set_option maxRecDepth 20000 in
theorem cl_len (L : Nat → Nat) (X : Nat → Nat → Int) : ∀ k, (cl L X k).length = sl L k
  | 0 => rfl
  | k + 1 => by show (cl L X k ++ vl (X k) (L k)).length = sl L k + L k; rw [List.length_append, cl_len L X k, vl_len]
def cat (X Y : Nat → Int) (n : Nat) (j : Nat) : Int := if j < n then X j else Y (j - n)
set_option maxRecDepth 20000 in
theorem cl_two (L : Nat → Nat) (X : Nat → Nat → Int) (j : Nat) (h : j < sl L 2) : (cl L X 2)[j]? = some (.int .i64 (cat (X 0) (X 1) (L 0) j)) := by
  have e : sl L 2 = L 0 + L 1 := by simp [sl]
  show (([] ++ vl (X 0) (L 0)) ++ vl (X 1) (L 1))[j]? = _
  rw [List.nil_append]
  unfold cat
  by_cases hj : j < L 0
  · rw [if_pos hj, List.getElem?_append_left (by rw [vl_len]; exact hj), vl_get _ hj]
  · rw [if_neg hj, List.getElem?_append_right (by rw [vl_len]; omega), vl_len, vl_get _ (by omega)]

end Go.Proofs.Ytkdpalmdcnpnoaa.Pcm
