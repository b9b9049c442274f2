/- What is wrong with two sounds beside each other, in the document and in the program: the same. Conditions: both lie in memory as their lists. -/
import Derived.Test.YtfidnklppbdebaaSm
namespace Go.Proofs.Ytfidnklppbdebaa.Pcm
open Go.RowKit Gen

instance (f g : Fmt) : Decidable (f = g) := decidable_of_iff (f.ch = g.ch ∧ f.bits = g.bits ∧ f.rate = g.rate) ⟨fun h => by cases f; cases g; simp_all, fun h => by rw [h]; exact ⟨rfl, rfl, rfl⟩⟩
theorem fmt_ne {f g : Fmt} (h : ¬ f = g) : f.ch ≠ g.ch ∨ (f.ch = g.ch ∧ f.bits ≠ g.bits) ∨ (f.ch = g.ch ∧ f.bits = g.bits ∧ f.rate ≠ g.rate) := by
  by_cases q0 : f.ch = g.ch
  · by_cases q1 : f.bits = g.bits
    · by_cases q2 : f.rate = g.rate
      · exact absurd (by cases f; cases g; simp_all) h
      · exact .inr (.inr ⟨q0, q1, q2⟩)
    · exact .inr (.inl ⟨q0, q1⟩)
  · exact .inl q0
def both (a b : Dat) : Int := if a.chk ≠ 0 then a.chk else if b.chk ≠ 0 then b.chk else if a.f = b.f then 0 else 20
theorem both_1 {a b : Dat} (h : a.chk ≠ 0) : both a b = a.chk := if_pos h
theorem both_2 {a b : Dat} (h : a.chk = 0) (h2 : b.chk ≠ 0) : both a b = b.chk := by unfold both; rw [if_neg (fun x => x h), if_pos h2]
theorem both_3 {a b : Dat} (h : a.chk = 0) (h2 : b.chk = 0) (hf : ¬ a.f = b.f) : both a b = 20 := by unfold both; rw [if_neg (fun x => x h), if_neg (fun x => x h2), if_neg hf]
theorem both_4 {a b : Dat} (h : a.chk = 0) (h2 : b.chk = 0) (hf : a.f = b.f) : both a b = 0 := by unfold both; rw [if_neg (fun x => x h), if_neg (fun x => x h2), if_pos hf]

set_option maxHeartbeats 1600000 in
theorem rboth_any (w : World) (a b : Dat) (ha : Snd w a) (hb : Snd w b) : Calls Try.prog 43 #[a.v, b.v] w fun e w' => e = .returned (.int .i64 (both a b)) ∧ Below w.heap.size w w' := by
  have HC1 := hid fun w' (hw : Below w.heap.size w w') => rcheck_any w' a (ha.below hw)
  have HC2 := hid fun w' (hw : Below w.heap.size w w') => rcheck_any w' b (hb.below hw)
  have h1 := below_new w (.cells #[.int .i64 a.f.ch, .int .i64 a.f.bits, .int .i64 a.f.rate, .slice a.a a.n a.cap] 26)
  have h2 := below_new (w.alloc (.cells #[.int .i64 a.f.ch, .int .i64 a.f.bits, .int .i64 a.f.rate, .slice a.a a.n a.cap] 26)) (.cells #[.int .i64 b.f.ch, .int .i64 b.f.bits, .int .i64 b.f.rate, .slice b.a b.n b.cap] 26)
  have HB0 := hid (h1.trans (h2.mono h1.size))
  have HX0 := hid ((bx_new w a).below h2)
  have HY0 := hid (bx_new (w.alloc (.cells #[.int .i64 a.f.ch, .int .i64 a.f.bits, .int .i64 a.f.rate, .slice a.a a.n a.cap] 26)) b)
  have hz : (w.alloc (.cells #[.int .i64 a.f.ch, .int .i64 a.f.bits, .int .i64 a.f.rate, .slice a.a a.n a.cap] 26)).heap.size = w.heap.size + 1 := by simp
  rw [hz] at HY0
  clear h1 h2 hz
  unfold Dat.v at HC1 HC2
  show Calls Try.prog 43 #[.agg #[.int .i64 a.f.ch, .int .i64 a.f.bits, .int .i64 a.f.rate, .slice a.a a.n a.cap], .agg #[.int .i64 b.f.ch, .int .i64 b.f.bits, .int .i64 b.f.rate, .slice b.a b.n b.cap]] w _
  clear ha hb
  go_enter Try.func43, Try.ntmps43
  go_wp2_with fail
  refine (HC1.out _ HB0.out).mono ?_
  rintro e w1 ⟨rfl, hb1⟩
  have HB1 := hid (HB0.out.trans (hb1.mono HB0.out.size))
  have HX1 := hid (HX0.out.below hb1)
  have HY1 := hid (HY0.out.below hb1)
  clear hb1
  by_cases hc1 : a.chk = 0
  · have e1 : (a.chk != 0) = false := by rw [hc1]; rfl
    have HA1 := hid hc1
    obtain ⟨b0, b1, b2, b3⟩ := HY1.out
    clear hc1
    go_wp2_with fail
    refine (HC2.out _ HB1.out).mono ?_
    rintro e w2 ⟨rfl, hb2⟩
    have HB2 := hid (HB1.out.trans (hb2.mono HB1.out.size))
    have HX2 := hid (HX1.out.below hb2)
    have HY2 := hid (HY1.out.below hb2)
    clear hb2 b0 b1 b2 b3
    obtain ⟨a0, a1, a2, a3⟩ := HX2.out
    obtain ⟨b0, b1, b2, b3⟩ := HY2.out
    by_cases hc2 : b.chk = 0
    · have e2 : (b.chk != 0) = false := by rw [hc2]; rfl
      have HA2 := hid hc2
      clear hc2
      by_cases hf : a.f = b.f
      · have HE : Hid (both a b = 0) := hid (both_4 HA1.out HA2.out hf)
        rw [← hf] at b0 b1 b2
        clear hf
        go_wp2_with fail
        go_ret
        exact ⟨congrArg (fun z : Int => Ending.returned (Value.int .i64 z)) HE.out.symm, HB2.out⟩
      · have HE : Hid (both a b = 20) := hid (both_3 HA1.out HA2.out hf)
        rcases fmt_ne hf with q | ⟨q, q1⟩ | ⟨q, q1, q2⟩
        · have x0 : (a.f.ch == b.f.ch) = false := beq_eq_false_iff_ne.2 q
          clear hf
          go_wp2_with fail
          all_goals (go_ret; exact ⟨congrArg (fun z : Int => Ending.returned (Value.int .i64 z)) HE.out.symm, HB2.out⟩)
        · have x1 : (a.f.bits == b.f.bits) = false := beq_eq_false_iff_ne.2 q1
          rw [← q] at b0
          clear hf q
          go_wp2_with fail
          all_goals (go_ret; exact ⟨congrArg (fun z : Int => Ending.returned (Value.int .i64 z)) HE.out.symm, HB2.out⟩)
        · have x2 : (a.f.rate == b.f.rate) = false := beq_eq_false_iff_ne.2 q2
          rw [← q] at b0
          rw [← q1] at b1
          clear hf q q1
          go_wp2_with fail
          all_goals (go_ret; exact ⟨congrArg (fun z : Int => Ending.returned (Value.int .i64 z)) HE.out.symm, HB2.out⟩)
    · have e2 : (b.chk != 0) = true := bne_iff_ne.2 hc2
      have HE : Hid (both a b = b.chk) := hid (both_2 HA1.out hc2)
      clear hc2
      go_wp2_with fail
      go_ret
      exact ⟨congrArg (fun z : Int => Ending.returned (Value.int .i64 z)) HE.out.symm, HB2.out⟩
  · have e1 : (a.chk != 0) = true := bne_iff_ne.2 hc1
    have HE : Hid (both a b = a.chk) := hid (both_1 hc1)
    clear hc1
    go_wp2_with fail
    go_ret
    exact ⟨congrArg (fun z : Int => Ending.returned (Value.int .i64 z)) HE.out.symm, HB1.out⟩
end Go.Proofs.Ytfidnklppbdebaa.Pcm
