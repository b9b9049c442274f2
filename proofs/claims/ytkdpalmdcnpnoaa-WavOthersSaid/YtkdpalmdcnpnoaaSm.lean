/- Small of the document: whether sound is small enough to be tried. Conditions: sound lies in memory as its lists. -/
import Derived.Test.YtkdpalmdcnpnoaaKn
namespace Go.Proofs.Ytkdpalmdcnpnoaa.Pcm
open Go.RowKit Gen

def SmallPost (w : World) (d : Dat) (most : Nat) (e : Ending) (w' : World) : Prop := ∃ b : Bool, e = .returned (.bool b) ∧ (b = true → d.n ≤ 9 ∧ ∀ i, i < d.n → d.ln i ≤ most) ∧ Below w.heap.size w w'

set_option maxRecDepth 20000 in
set_option maxHeartbeats 1600000 in
theorem small_any (w : World) (d : Dat) (h : Snd w d) (most : Nat) : Calls Try.prog 8 #[d.v, .int .i64 (most : Int)] w (SmallPost w d most) := by
  have HB0 := hid (below_new w (.cells #[.int .i64 d.f.ch, .int .i64 d.f.bits, .int .i64 d.f.rate, .slice d.a d.n d.cap] 26))
  have HX0 := hid (bx_new w d)
  have H := hid h
  have hl := h.hl
  clear h
  show Calls Try.prog 8 #[.agg #[.int .i64 d.f.ch, .int .i64 d.f.bits, .int .i64 d.f.rate, .slice d.a d.n d.cap], .int .i64 (most : Int)] w _
  go_enter Try.func8, Try.ntmps8
  go_wp2_with fail
  generalize w.alloc (.cells #[.int .i64 d.f.ch, .int .i64 d.f.bits, .int .i64 d.f.rate, .slice d.a d.n d.cap] 26) = W0 at *
  go_loopg [5, 6] d.n (fun g z i wr => ∃ (k : Nat) (zz : Int), k ≤ d.n ∧ k ≤ 10 ∧ g = d.n - k ∧ z = .int .i64 zz ∧ i = .int .i64 k ∧ Fr (fun _ => False) W0 wr ∧ ∀ i, i < k → d.ln i ≤ most)
  case atStart => exact ⟨0, 0, Nat.zero_le _, Nat.zero_le _, rfl, rfl, rfl, Fr.refl _ _, fun j hj => absurd hj (Nat.not_lt_zero _)⟩
  case round =>
    obtain ⟨k, zz, hk, hk10, hg, rfl, rfl, hf, hall⟩ := hrel
    have HG := hid hg
    have HA := hid hall
    clear hg hall
    have HXW := hid (HX0.out.fr hf)
    have HBW := hid (below_fr HB0.out hf)
    have HF := hid hf
    clear hf
    obtain ⟨b0, b1, b2, b3⟩ := HXW.out
    by_cases hlt : k < d.n
    · have hlt2 : (k : Int) < (d.n : Int) := by omega
      by_cases h10 : k < 10
      · have h102 : (k : Int) < 10 := by omega
        have ha := H.out.addr (by omega)
        have HAD := hid ha
        rw [ha] at b3
        clear ha
        have ck := (H.out.below HBW.out).c k hlt
        by_cases hs : most < d.ln k
        · have hs2 : (most : Int) < (d.ln k : Int) := by omega
          go_wp2_with fail
          go_ret
          exact ⟨false, rfl, fun h => (by cases h), HBW.out⟩
        · have hs2 : ¬ (most : Int) < (d.ln k : Int) := by omega
          have HS := hid hs
          go_wp2_with fail
          go_roundg (d.n - (k + 1))
          case measure => rw [HG.out]; omega
          case rel => exact ⟨k + 1, _, by omega, by omega, rfl, rfl, by go_num, HF.out, fun i hi => by
            by_cases e : i = k
            · have := HS.out; rw [e]; omega
            · exact HA.out i (by omega)⟩
      · have h102 : ¬ (k : Int) < 10 := by omega
        have h9 : ¬ (d.n : Int) ≤ 9 := by omega
        have h9' : ¬ d.n ≤ 9 := by omega
        go_wp2_with fail
        go_ret
        exact ⟨false, rfl, fun h => (by cases h), HBW.out⟩
    · have hlt2 : ¬ (k : Int) < (d.n : Int) := by omega
      by_cases h9 : d.n ≤ 9
      · have h92 : (d.n : Int) ≤ 9 := by omega
        go_wp2_with fail
        go_ret
        exact ⟨_, rfl, fun _ => ⟨h9, fun i hi => HA.out i (by omega)⟩, HBW.out⟩
      · have h92 : ¬ (d.n : Int) ≤ 9 := by omega
        go_wp2_with fail
        go_ret
        exact ⟨false, rfl, fun h => (by cases h), HBW.out⟩
end Go.Proofs.Ytkdpalmdcnpnoaa.Pcm
