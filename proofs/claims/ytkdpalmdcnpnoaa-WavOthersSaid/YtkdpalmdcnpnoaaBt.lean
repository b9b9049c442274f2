/- What is wrong with two sounds beside each other, in the document and in the program: the same. Conditions: both lie in memory as their lists. -/
import Derived.Test.YtkdpalmdcnpnoaaSm
namespace Go.Proofs.Ytkdpalmdcnpnoaa.Pcm
open Go.RowKit Gen

instance (f g : Fmt) : Decidable (f = g) := decidable_of_iff (f.ch = g.ch ∧ f.bits = g.bits ∧ f.rate = g.rate) ⟨fun h => by cases f; cases g; simp_all, fun h => by rw [h]; exact ⟨rfl, rfl, rfl⟩⟩
set_option maxRecDepth 20000 in
theorem fmt_ne {f g : Fmt} (h : ¬ f = g) : f.ch ≠ g.ch ∨ (f.ch = g.ch ∧ f.bits ≠ g.bits) ∨ (f.ch = g.ch ∧ f.bits = g.bits ∧ f.rate ≠ g.rate) := by
  by_cases q0 : f.ch = g.ch
  · by_cases q1 : f.bits = g.bits
    · by_cases q2 : f.rate = g.rate
      · exact absurd (by cases f; cases g; simp_all) h
      · exact .inr (.inr ⟨q0, q1, q2⟩)
    · exact .inr (.inl ⟨q0, q1⟩)
  · exact .inl q0
def both (a b : Dat) : Int := if a.chk ≠ 0 then a.chk else if b.chk ≠ 0 then b.chk else if a.f = b.f then 0 else 20
set_option maxRecDepth 20000 in
theorem both_1 {a b : Dat} (h : a.chk ≠ 0) : both a b = a.chk := if_pos h
set_option maxRecDepth 20000 in
theorem both_2 {a b : Dat} (h : a.chk = 0) (h2 : b.chk ≠ 0) : both a b = b.chk := by unfold both; rw [if_neg (fun x => x h), if_pos h2]
set_option maxRecDepth 20000 in
theorem both_3 {a b : Dat} (h : a.chk = 0) (h2 : b.chk = 0) (hf : ¬ a.f = b.f) : both a b = 20 := by unfold both; rw [if_neg (fun x => x h), if_neg (fun x => x h2), if_neg hf]
set_option maxRecDepth 20000 in
theorem both_4 {a b : Dat} (h : a.chk = 0) (h2 : b.chk = 0) (hf : a.f = b.f) : both a b = 0 := by unfold both; rw [if_neg (fun x => x h), if_neg (fun x => x h2), if_pos hf]

end Go.Proofs.Ytkdpalmdcnpnoaa.Pcm
