/- Which formats are right, in the program and in the document: the same ones. No condition. -/
import Derived.Test.YthaikhnplbbdlaaProg
import Derived.Test.YthaikhnplbbdlaaGen
import Derived.WalkKit
import Derived.WalkLawsBesides
import Derived.WalkSpells
import Derived.Outline
import Derived.Handy
import Derived.Deep.LoopGhost
import Derived.Deep.RegionHeld3
import Derived.Deep.RegionLaw
import Derived.Deep.DeepCutAuto
import Derived.Deep.QuietTactic
import Derived.BigQuiet
import Derived.Deep.RegionWith
namespace Go.Proofs.Ythaikhnplbbdlaa.Pcm
open Go.RowKit Gen

theorem isfrom (x lo hi : Int) (w : World) : Calls Try.prog 46 #[.int .i64 x, .int .i64 lo, .int .i64 hi] w fun e w' => e = .returned (.bool (decide (lo ≤ x ∧ x ≤ hi))) ∧ w = w' := by
  by_cases h0 : lo ≤ x
  · by_cases h1 : x ≤ hi
    · have e : decide (lo ≤ x ∧ x ≤ hi) = true := decide_eq_true ⟨h0, h1⟩
      rw [e]
      clear e
      go_enter Try.func46, Try.ntmps46
      go_wp2_with fail
      go_ret
      exact ⟨rfl, rfl⟩
    · have e : decide (lo ≤ x ∧ x ≤ hi) = false := decide_eq_false fun h => h1 h.2
      rw [e]
      clear e
      go_enter Try.func46, Try.ntmps46
      go_wp2_with fail
      go_ret
      exact ⟨rfl, rfl⟩
  · have e : decide (lo ≤ x ∧ x ≤ hi) = false := decide_eq_false fun h => h0 h.1
    rw [e]
    clear e
    go_enter Try.func46, Try.ntmps46
    go_wp2_with fail
    go_ret
    exact ⟨rfl, rfl⟩

/-- A format. -/
structure Fmt where
  ch : Int
  bits : Int
  rate : Int
def Fmt.v (f : Fmt) : Value := .agg #[.int .i64 f.ch, .int .i64 f.bits, .int .i64 f.rate]
def Fmt.right (f : Fmt) : Prop := (1 ≤ f.ch ∧ f.ch ≤ 8) ∧ (8 ≤ f.bits ∧ f.bits ≤ 24) ∧ (1 ≤ f.rate ∧ f.rate ≤ 1048575)
instance (f : Fmt) : Decidable f.right := by unfold Fmt.right; exact inferInstance

theorem right_any (f : Fmt) (w : World) : Calls Try.prog 28 #[f.v] w fun e w' => e = .returned (.bool (decide f.right)) ∧ Below w.heap.size w w' := by
  obtain ⟨ch, bits, rate⟩ := f
  have hb : Below w.heap.size w (w.alloc (.cells #[.int .i64 ch, .int .i64 bits, .int .i64 rate] 23)) := (Below.refl _ _).alloc (Nat.le_refl _) _
  have HB := hid hb
  clear hb
  show Calls Try.prog 28 #[.agg #[.int .i64 ch, .int .i64 bits, .int .i64 rate]] w _
  by_cases h0 : 1 ≤ ch ∧ ch ≤ 8
  · have e0 : decide (1 ≤ ch ∧ ch ≤ 8) = true := decide_eq_true h0
    by_cases h1 : 8 ≤ bits ∧ bits ≤ 24
    · have e1 : decide (8 ≤ bits ∧ bits ≤ 24) = true := decide_eq_true h1
      by_cases h2 : 1 ≤ rate ∧ rate ≤ 1048575
      · have e2 : decide (1 ≤ rate ∧ rate ≤ 1048575) = true := decide_eq_true h2
        have e : decide (Fmt.right ⟨ch, bits, rate⟩) = true := decide_eq_true ⟨h0, h1, h2⟩
        rw [e]
        clear e
        go_enter Try.func28, Try.ntmps28
        go_wp2_with fail
        refine (isfrom _ _ _ _).mono ?_
        rintro e w' ⟨rfl, rfl⟩
        rw [e0]
        go_wp2_with fail
        refine (isfrom _ _ _ _).mono ?_
        rintro e w' ⟨rfl, rfl⟩
        rw [e1]
        go_wp2_with fail
        refine (isfrom _ _ _ _).mono ?_
        rintro e w' ⟨rfl, rfl⟩
        rw [e2]
        go_wp2_with fail
        go_ret
        exact ⟨rfl, HB.out⟩
      · have e2 : decide (1 ≤ rate ∧ rate ≤ 1048575) = false := decide_eq_false h2
        have e : decide (Fmt.right ⟨ch, bits, rate⟩) = false := decide_eq_false fun h => h2 h.2.2
        rw [e]
        clear e
        go_enter Try.func28, Try.ntmps28
        go_wp2_with fail
        refine (isfrom _ _ _ _).mono ?_
        rintro e w' ⟨rfl, rfl⟩
        rw [e0]
        go_wp2_with fail
        refine (isfrom _ _ _ _).mono ?_
        rintro e w' ⟨rfl, rfl⟩
        rw [e1]
        go_wp2_with fail
        refine (isfrom _ _ _ _).mono ?_
        rintro e w' ⟨rfl, rfl⟩
        rw [e2]
        go_wp2_with fail
        go_ret
        exact ⟨rfl, HB.out⟩
    · have e1 : decide (8 ≤ bits ∧ bits ≤ 24) = false := decide_eq_false h1
      have e : decide (Fmt.right ⟨ch, bits, rate⟩) = false := decide_eq_false fun h => h1 h.2.1
      rw [e]
      clear e
      go_enter Try.func28, Try.ntmps28
      go_wp2_with fail
      refine (isfrom _ _ _ _).mono ?_
      rintro e w' ⟨rfl, rfl⟩
      rw [e0]
      go_wp2_with fail
      refine (isfrom _ _ _ _).mono ?_
      rintro e w' ⟨rfl, rfl⟩
      rw [e1]
      go_wp2_with fail
      go_ret
      exact ⟨rfl, HB.out⟩
  · have e0 : decide (1 ≤ ch ∧ ch ≤ 8) = false := decide_eq_false h0
    have e : decide (Fmt.right ⟨ch, bits, rate⟩) = false := decide_eq_false fun h => h0 h.1
    rw [e]
    clear e
    go_enter Try.func28, Try.ntmps28
    go_wp2_with fail
    refine (isfrom _ _ _ _).mono ?_
    rintro e w' ⟨rfl, rfl⟩
    rw [e0]
    go_wp2_with fail
    go_ret
    exact ⟨rfl, HB.out⟩
theorem rright_any (f : Fmt) (w : World) : Calls Try.prog 31 #[f.v] w fun e w' => e = .returned (.bool (decide f.right)) ∧ Below w.heap.size w w' := by
  obtain ⟨ch, bits, rate⟩ := f
  have hb : Below w.heap.size w (w.alloc (.cells #[.int .i64 ch, .int .i64 bits, .int .i64 rate] 23)) := (Below.refl _ _).alloc (Nat.le_refl _) _
  have HB := hid hb
  clear hb
  show Calls Try.prog 31 #[.agg #[.int .i64 ch, .int .i64 bits, .int .i64 rate]] w _
  by_cases h0 : 1 ≤ ch
  · by_cases h1 : ch ≤ 8
    · by_cases h2 : 8 ≤ bits
      · by_cases h3 : bits ≤ 24
        · by_cases h4 : 1 ≤ rate
          · by_cases h5 : rate ≤ 1048575
            · have e : decide (Fmt.right ⟨ch, bits, rate⟩) = true := decide_eq_true ⟨⟨h0, h1⟩, ⟨h2, h3⟩, ⟨h4, h5⟩⟩
              rw [e]
              clear e
              go_enter Try.func31, Try.ntmps31
              go_wp2_with fail
              go_ret
              exact ⟨rfl, HB.out⟩
            · have e : decide (Fmt.right ⟨ch, bits, rate⟩) = false := decide_eq_false fun h => h5 h.2.2.2
              rw [e]
              clear e
              go_enter Try.func31, Try.ntmps31
              go_wp2_with fail
              go_ret
              exact ⟨rfl, HB.out⟩
          · have e : decide (Fmt.right ⟨ch, bits, rate⟩) = false := decide_eq_false fun h => h4 h.2.2.1
            rw [e]
            clear e
            go_enter Try.func31, Try.ntmps31
            go_wp2_with fail
            go_ret
            exact ⟨rfl, HB.out⟩
        · have e : decide (Fmt.right ⟨ch, bits, rate⟩) = false := decide_eq_false fun h => h3 h.2.1.2
          rw [e]
          clear e
          go_enter Try.func31, Try.ntmps31
          go_wp2_with fail
          go_ret
          exact ⟨rfl, HB.out⟩
      · have e : decide (Fmt.right ⟨ch, bits, rate⟩) = false := decide_eq_false fun h => h2 h.2.1.1
        rw [e]
        clear e
        go_enter Try.func31, Try.ntmps31
        go_wp2_with fail
        go_ret
        exact ⟨rfl, HB.out⟩
    · have e : decide (Fmt.right ⟨ch, bits, rate⟩) = false := decide_eq_false fun h => h1 h.1.2
      rw [e]
      clear e
      go_enter Try.func31, Try.ntmps31
      go_wp2_with fail
      go_ret
      exact ⟨rfl, HB.out⟩
  · have e : decide (Fmt.right ⟨ch, bits, rate⟩) = false := decide_eq_false fun h => h0 h.1.1
    rw [e]
    clear e
    go_enter Try.func31, Try.ntmps31
    go_wp2_with fail
    go_ret
    exact ⟨rfl, HB.out⟩
end Go.Proofs.Ythaikhnplbbdlaa.Pcm
