/- Mates, of the program and of the document. No condition. -/
import Derived.Test.YthaikhnplbbdlaaNg
namespace Go.Proofs.Ythaikhnplbbdlaa.Inf
open Go.RowKit Gen Fld
open Crc hiding hid

/-- Two files may belong together. -/
def Mt (a b : If) : Prop := a.k = 1 ∧ b.k = 2 ∧ a.f.ch = b.f.ch ∧ a.f.bits = b.f.bits ∧ a.f.rate = b.f.rate ∧ a.bk = b.bk ∧ a.sh = b.sh
instance (a b : If) : Decidable (Mt a b) := by unfold Mt; exact inferInstance
set_option maxHeartbeats 2000000 in
theorem rmates_any (a b : If) (w : World) : Calls Try.prog 18 #[iv a, iv b] w fun e w' => e = .returned (.bool (decide (Mt a b))) ∧ Below w.heap.size w w' := by
  obtain ⟨r, hr⟩ : ∃ r, r = decide (Mt a b) := ⟨_, rfl⟩
  rw [← hr]
  obtain ⟨k, ⟨ch, bits, rate⟩, bk, sh⟩ := a
  obtain ⟨k', ⟨ch', bits', rate'⟩, bk', sh'⟩ := b
  have HR := hid hr
  clear hr
  change Calls Try.prog 18 #[.agg #[.int .i64 k, .int .i64 ch, .int .i64 bits, .int .i64 rate, .int .i64 bk, .int .i64 sh], .agg #[.int .i64 k', .int .i64 ch', .int .i64 bits', .int .i64 rate', .int .i64 bk', .int .i64 sh']] w _
  go_enter Try.func18, Try.ntmps18
  go_wp2_with fail
  all_goals
    go_ret
    refine ⟨?_, (below_new w _).alloc (below_new w _).size _⟩
    rw [HR.out]
    first | (simp [Mt, *]; done) | (simp [Mt, *]; rfl)
set_option maxHeartbeats 2000000 in
theorem mates_any (a b : If) (w : World) : Calls Try.prog 17 #[iv a, iv b] w fun e w' => e = .returned (.bool (decide (Mt a b))) ∧ Below w.heap.size w w' := by
  obtain ⟨r, hr⟩ : ∃ r, r = decide (Mt a b) := ⟨_, rfl⟩
  rw [← hr]
  obtain ⟨k, ⟨ch, bits, rate⟩, bk, sh⟩ := a
  obtain ⟨k', ⟨ch', bits', rate'⟩, bk', sh'⟩ := b
  have HR := hid hr
  clear hr
  change Calls Try.prog 17 #[.agg #[.int .i64 k, .int .i64 ch, .int .i64 bits, .int .i64 rate, .int .i64 bk, .int .i64 sh], .agg #[.int .i64 k', .int .i64 ch', .int .i64 bits', .int .i64 rate', .int .i64 bk', .int .i64 sh']] w _
  go_enter Try.func17, Try.ntmps17
  go_wp2_with fail
  all_goals
    go_ret
    refine ⟨?_, ((below_new w _).alloc (below_new w _).size _).alloc ((below_new w _).alloc (below_new w _).size _).size _⟩
    rw [HR.out]
    first | (simp [Mt, *]; done) | (simp [Mt, *]; omega) | (simp [Mt, *]; rfl)
end Go.Proofs.Ythaikhnplbbdlaa.Inf
