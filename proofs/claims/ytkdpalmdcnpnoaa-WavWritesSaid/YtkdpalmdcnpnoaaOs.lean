/- A parameter of sound, opened: its format, its lists, their numbers. No condition. -/
import Derived.Test.YtkdpalmdcnpnoaaSm
import Derived.Deep.Matrix
import Derived.Deep.Strs
import Derived.OpenShut
namespace Go.Proofs.Ytkdpalmdcnpnoaa.Pcm
open Go.ChangeShapes Go.WideShapes Go.RowKit

set_option maxRecDepth 20000 in
theorem cells26 : Try.prog.cellsOf 26 = 4 := by kernel_rfl
set_option maxRecDepth 20000 in
theorem cells23 : Try.prog.cellsOf 23 = 3 := by kernel_rfl
set_option maxRecDepth 20000 in
theorem cells24 : Try.prog.cellsOf 24 = 1 := by kernel_rfl
set_option maxRecDepth 20000 in
theorem cells42 : Try.prog.cellsOf 55 = 1 := by kernel_rfl
set_option maxRecDepth 20000 in
theorem cells3 : Try.prog.cellsOf 3 = 1 := by kernel_rfl

set_option maxRecDepth 20000 in
theorem is_open {W : World} {A : Option Addr} {L C : Nat} {Z : List Int} (hLC : L ≤ C) (hC : C ≤ maxLen) (hn : A = none → C = 0) (hc : ∀ a', A = some a' → ∀ c, c < C → W.cell? (a'.add c) = some (.int .i64 (Z.getD c 0))) : Is W A L (fun c => Z.getD c 0) := by
  have hm : maxLen ≤ 9223372036854775807 := by decide
  cases A with
  | none =>
    have := hn rfl
    exact ⟨0, 0, fun h => by omega, fun i hi => by omega, fun h => by omega, by omega⟩
  | some a =>
    obtain ⟨b, o, s⟩ := a
    have key : ∀ i, i < L → s = none ∧ W.cell? ⟨b, o + i, none⟩ = some (.int .i64 (Z.getD i 0)) := fun i hi => by
      have h0 := hc _ rfl i (by omega)
      have hs : s = none := by simpa [Addr.add] using World.cell?_spot (hc _ rfl 0 (by omega))
      subst hs
      exact ⟨rfl, by rw [add_plain] at h0; exact h0⟩
    exact ⟨b, o, fun h => by rw [(key 0 h).1], fun i hi => (key i hi).2, fun h => World.block_lt_of_cell? _ _ (key 0 h).2, by omega⟩

set_option maxRecDepth 20000 in
theorem sound_open {H : Type} {enc : TypeId × Value → H} {W : World} {b0 : Nat} {v : Value} {d : DataW H} {p : List MemPlace} (hv : Value.okWide Try.prog W .any b0 26 v) (h : DataW.Trod enc Try.prog W 0 (fun _ => true) true 26 v d p) :
    ∃ s : Dat, v = s.v ∧ Snd W s ∧ s.n ≤ s.cap ∧ ∀ i, i < s.n → s.ln i ≤ s.lc i := by
  obtain ⟨cs, rfl, hsz⟩ := okWide_struct Try.underlying26 hv
  rw [cells26] at hsz
  obtain ⟨l⟩ := cs
  match l, hsz with
  | [c0, c1, c2, c3], _ =>
  obtain ⟨fuel, hf⟩ := h
  obtain ⟨y0, y1, m, hx, _, hy0, hy1⟩ := trod_struct2 Try.underlying26 hf
  simp [Value.cells, cells23, cells24] at hy0 hy1
  obtain ⟨z0, z1, z2, m', _, _, h0, h1, h2⟩ := Deep.trod_struct3 Try.underlying23 hy0
  obtain ⟨ch, e0, _, _⟩ := DataW.trod_int Try.underlying3 h0
  obtain ⟨bits, e1, _, _⟩ := DataW.trod_int Try.underlying3 h1
  obtain ⟨rate, e2, _, _⟩ := DataW.trod_int Try.underlying3 h2
  simp [cells3] at e0 e1 e2
  subst e0 e1 e2
  rcases Deep.open_int_rows Try.underlying24 Try.underlying55 Try.underlying3 cells42 cells3 hy1 with ⟨hcs, _⟩ | ⟨a, len, cap, A, L, C, Z, hcs, _, hlc, hcm, _, hr⟩
  · simp at hcs
    subst hcs
    exact ⟨⟨⟨ch, bits, rate⟩, none, 0, 0, 0, 0, fun _ => none, fun _ => 0, fun _ => 0, fun _ _ => 0⟩, rfl, ⟨fun h => absurd h (Nat.lt_irrefl 0), fun i hi => absurd hi (Nat.not_lt_zero i), fun i hi => absurd hi (Nat.not_lt_zero i), fun h => absurd h (Nat.lt_irrefl 0), Nat.zero_le _⟩, Nat.le_refl _, fun i hi => absurd hi (Nat.not_lt_zero i)⟩
  · simp at hcs
    subst hcs
    have hm : maxLen ≤ 9223372036854775807 := by decide
    obtain ⟨b, o, sp⟩ := a
    have key : ∀ i, i < len → sp = none ∧ W.cell? ⟨b, o + i, none⟩ = some (.slice (A i) (L i) (C i)) := fun i hi => by
      have h0 := (hr i (by omega)).1
      have hs : sp = none := by simpa [Addr.add] using World.cell?_spot (hr 0 (by omega)).1
      subst hs
      exact ⟨rfl, by rw [add_plain] at h0; exact h0⟩
    exact ⟨⟨⟨ch, bits, rate⟩, some ⟨b, o, sp⟩, len, cap, b, o, A, L, C, fun i c => (Z i).getD c 0⟩, rfl,
      ⟨fun h => by rw [(key 0 h).1], fun i hi => (key i hi).2, fun i hi => is_open (hr i (Nat.lt_of_lt_of_le hi hlc)).2.1 (hr i (Nat.lt_of_lt_of_le hi hlc)).2.2.1 (hr i (Nat.lt_of_lt_of_le hi hlc)).2.2.2.2.2.1 (fun a' ha => ((hr i (Nat.lt_of_lt_of_le hi hlc)).2.2.2.2.2.2 a' ha).2), fun h => World.block_lt_of_cell? _ _ (key 0 h).2, show len ≤ _ by omega⟩,
      hlc, fun i hi => (hr i (Nat.lt_of_lt_of_le hi hlc)).2.1⟩
end Go.Proofs.Ytkdpalmdcnpnoaa.Pcm
