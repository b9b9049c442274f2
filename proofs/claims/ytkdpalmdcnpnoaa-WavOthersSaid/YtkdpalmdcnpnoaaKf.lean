/- PcmCuts, walked: true, whatever the sound and the two numbers are. Conditions: the sound lies in memory as its lists, which lie in their room. -/
import Derived.Test.YtkdpalmdcnpnoaaKe
import Derived.Test.YtkdpalmdcnpnoaaKg
import Derived.Test.YtkdpalmdcnpnoaaKn
import Derived.Test.YtkdpalmdcnpnoaaSm
import Derived.Deep.RegionHeld3
namespace Go.Proofs.Ytkdpalmdcnpnoaa.Pcm
open Go.RowKit Gen

set_option maxRecDepth 20000 in
theorem cnil : same Dat.nil Dat.nil = true := by rw [same_yes rfl]; exact eqS_all rfl fun i hi => absurd hi (Nat.not_lt_zero i)

set_option maxRecDepth 20000 in
theorem way_set {w8 w10 : World} {q B : Nat} {y : Dat} (hb : Below w8.heap.size w8 w10) (h8 : w8.heap.size ≤ q) (hy : Snd w10 y) (hn : NewSnd B w10 y) (hq : q < B) (hex : ∀ i, i < 4 → ∃ v, w10.cell? ⟨q, i, none⟩ = some v) :
    Below w8.heap.size w8 ((((w10.setCell ⟨q, 0, none⟩ (.int .i64 y.f.ch)).setCell ⟨q, 1, none⟩ (.int .i64 y.f.bits)).setCell ⟨q, 2, none⟩ (.int .i64 y.f.rate)).setCell ⟨q, 3, none⟩ (.slice y.a y.n y.cap)) ∧
    Bx ((((w10.setCell ⟨q, 0, none⟩ (.int .i64 y.f.ch)).setCell ⟨q, 1, none⟩ (.int .i64 y.f.bits)).setCell ⟨q, 2, none⟩ (.int .i64 y.f.rate)).setCell ⟨q, 3, none⟩ (.slice y.a y.n y.cap)) q y ∧
    Snd ((((w10.setCell ⟨q, 0, none⟩ (.int .i64 y.f.ch)).setCell ⟨q, 1, none⟩ (.int .i64 y.f.bits)).setCell ⟨q, 2, none⟩ (.int .i64 y.f.rate)).setCell ⟨q, 3, none⟩ (.slice y.a y.n y.cap)) y := by
  obtain ⟨y0, y1, y2, y3, _⟩ := four_set w10 q (.int .i64 y.f.ch) (.int .i64 y.f.bits) (.int .i64 y.f.rate) (.slice y.a y.n y.cap) hex
  exact ⟨set4_below hb h8 _ _ _ _, ⟨y0, y1, y2, y3⟩, hy.set4 hn hq hex _ _ _ _⟩
set_option maxRecDepth 20000 in
theorem four_ex {W : World} {q : Nat} {v0 v1 v2 v3 : Value} (h0 : W.cell? ⟨q, 0, none⟩ = some v0) (h1 : W.cell? ⟨q, 1, none⟩ = some v1) (h2 : W.cell? ⟨q, 2, none⟩ = some v2) (h3 : W.cell? ⟨q, 3, none⟩ = some v3) : ∀ i, i < 4 → ∃ v, W.cell? ⟨q, i, none⟩ = some v := fun i hi => by
  match i, hi with
  | 0, _ => exact ⟨_, h0⟩
  | 1, _ => exact ⟨_, h1⟩
  | 2, _ => exact ⟨_, h2⟩
  | 3, _ => exact ⟨_, h3⟩

end Go.Proofs.Ytkdpalmdcnpnoaa.Pcm
