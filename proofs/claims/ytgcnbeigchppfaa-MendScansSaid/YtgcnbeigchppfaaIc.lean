/- Right and Long of the document. No condition. -/
import Derived.Test.YtgcnbeigchppfaaIb
namespace Go.Proofs.Ytgcnbeigchppfaa.Head
open Go.RowKit Gen

/-- In which way a head is not right by its numbers, in the document's order. -/
def ROut (k ix ln st bd sz : Int) : Prop :=
  (k < 1) ∨
  (¬ k < 1 ∧ 3 < k) ∨
  (¬ k < 1 ∧ ¬ 3 < k ∧ ix < 0) ∨
  (¬ k < 1 ∧ ¬ 3 < k ∧ ¬ ix < 0 ∧ 4294967295 < ix) ∨
  (¬ k < 1 ∧ ¬ 3 < k ∧ ¬ ix < 0 ∧ ¬ 4294967295 < ix ∧ ln < 1) ∨
  (¬ k < 1 ∧ ¬ 3 < k ∧ ¬ ix < 0 ∧ ¬ 4294967295 < ix ∧ ¬ ln < 1 ∧ 65536 < ln) ∨
  (¬ k < 1 ∧ ¬ 3 < k ∧ ¬ ix < 0 ∧ ¬ 4294967295 < ix ∧ ¬ ln < 1 ∧ ¬ 65536 < ln ∧ st < 1) ∨
  (¬ k < 1 ∧ ¬ 3 < k ∧ ¬ ix < 0 ∧ ¬ 4294967295 < ix ∧ ¬ ln < 1 ∧ ¬ 65536 < ln ∧ ¬ st < 1 ∧ 2147483648 < st) ∨
  (¬ k < 1 ∧ ¬ 3 < k ∧ ¬ ix < 0 ∧ ¬ 4294967295 < ix ∧ ¬ ln < 1 ∧ ¬ 65536 < ln ∧ ¬ st < 1 ∧ ¬ 2147483648 < st ∧ bd < 0) ∨
  (¬ k < 1 ∧ ¬ 3 < k ∧ ¬ ix < 0 ∧ ¬ 4294967295 < ix ∧ ¬ ln < 1 ∧ ¬ 65536 < ln ∧ ¬ st < 1 ∧ ¬ 2147483648 < st ∧ ¬ bd < 0 ∧ st / 2 < bd) ∨
  (¬ k < 1 ∧ ¬ 3 < k ∧ ¬ ix < 0 ∧ ¬ 4294967295 < ix ∧ ¬ ln < 1 ∧ ¬ 65536 < ln ∧ ¬ st < 1 ∧ ¬ 2147483648 < st ∧ ¬ bd < 0 ∧ ¬ st / 2 < bd ∧ sz < 0) ∨
  (¬ k < 1 ∧ ¬ 3 < k ∧ ¬ ix < 0 ∧ ¬ 4294967295 < ix ∧ ¬ ln < 1 ∧ ¬ 65536 < ln ∧ ¬ st < 1 ∧ ¬ 2147483648 < st ∧ ¬ bd < 0 ∧ ¬ st / 2 < bd ∧ ¬ sz < 0 ∧ 16777216 < sz)
set_option maxRecDepth 100000 in
theorem rinn_or (h : Hh) : (Inn h ∧ 1 ≤ h.k ∧ h.k ≤ 3 ∧ ¬ h.k < 1 ∧ ¬ 3 < h.k ∧ ¬ h.ix < 0 ∧ ¬ 4294967295 < h.ix ∧ ¬ h.ln < 1 ∧ ¬ 65536 < h.ln ∧ ¬ h.st < 1 ∧ ¬ 2147483648 < h.st ∧ ¬ h.bd < 0 ∧ ¬ h.st / 2 < h.bd ∧ ¬ h.sz < 0 ∧ ¬ 16777216 < h.sz) ∨ (¬ Rt h ∧ ROut h.k h.ix h.ln h.st h.bd h.sz) := by
  obtain ⟨k, ix, ln, st, bd, la, lk, sz⟩ := h
  unfold Rt Inn Sui ROut
  simp only []
  generalize st / 2 = d at *
  by_cases h1 : k < 1
  · exact .inr ⟨fun h => by have := h.1; have := h.2; omega, (.inl h1)⟩
  by_cases h2 : 3 < k
  · exact .inr ⟨fun h => by have := h.1; have := h.2; omega, (.inr (.inl ⟨h1, h2⟩))⟩
  by_cases h3 : ix < 0
  · exact .inr ⟨fun h => by have := h.1; have := h.2; omega, (.inr (.inr (.inl ⟨h1, h2, h3⟩)))⟩
  by_cases h4 : 4294967295 < ix
  · exact .inr ⟨fun h => by have := h.1; have := h.2; omega, (.inr (.inr (.inr (.inl ⟨h1, h2, h3, h4⟩))))⟩
  by_cases h5 : ln < 1
  · exact .inr ⟨fun h => by have := h.1; have := h.2; omega, (.inr (.inr (.inr (.inr (.inl ⟨h1, h2, h3, h4, h5⟩)))))⟩
  by_cases h6 : 65536 < ln
  · exact .inr ⟨fun h => by have := h.1; have := h.2; omega, (.inr (.inr (.inr (.inr (.inr (.inl ⟨h1, h2, h3, h4, h5, h6⟩))))))⟩
  by_cases h7 : st < 1
  · exact .inr ⟨fun h => by have := h.1; have := h.2; omega, (.inr (.inr (.inr (.inr (.inr (.inr (.inl ⟨h1, h2, h3, h4, h5, h6, h7⟩)))))))⟩
  by_cases h8 : 2147483648 < st
  · exact .inr ⟨fun h => by have := h.1; have := h.2; omega, (.inr (.inr (.inr (.inr (.inr (.inr (.inr (.inl ⟨h1, h2, h3, h4, h5, h6, h7, h8⟩))))))))⟩
  by_cases h9 : bd < 0
  · exact .inr ⟨fun h => by have := h.1; have := h.2; omega, (.inr (.inr (.inr (.inr (.inr (.inr (.inr (.inr (.inl ⟨h1, h2, h3, h4, h5, h6, h7, h8, h9⟩)))))))))⟩
  by_cases h10 : d < bd
  · exact .inr ⟨fun h => by have := h.1; have := h.2; omega, (.inr (.inr (.inr (.inr (.inr (.inr (.inr (.inr (.inr (.inl ⟨h1, h2, h3, h4, h5, h6, h7, h8, h9, h10⟩))))))))))⟩
  by_cases h11 : sz < 0
  · exact .inr ⟨fun h => by have := h.1; have := h.2; omega, (.inr (.inr (.inr (.inr (.inr (.inr (.inr (.inr (.inr (.inr (.inl ⟨h1, h2, h3, h4, h5, h6, h7, h8, h9, h10, h11⟩)))))))))))⟩
  by_cases h12 : 16777216 < sz
  · exact .inr ⟨fun h => by have := h.1; have := h.2; omega, (.inr (.inr (.inr (.inr (.inr (.inr (.inr (.inr (.inr (.inr (.inr ⟨h1, h2, h3, h4, h5, h6, h7, h8, h9, h10, h11, h12⟩)))))))))))⟩
  exact .inl ⟨by omega, by omega, by omega, h1, h2, h3, h4, h5, h6, h7, h8, h9, h10, h11, h12⟩
set_option maxRecDepth 100000 in
set_option maxHeartbeats 4000000 in
theorem rright_any (h : Hh) (w : World) : Calls Try.prog 44 #[hv h] w fun e w' => e = .returned (.bool (decide (Rt h))) ∧ Below w.heap.size w w' := by
  rcases rinn_or h with ⟨hi, hk0, hk1, h1, h2, h3, h4, h5, h6, h7, h8, h9, h10, h11, h12⟩ | ⟨hi, ho⟩
  · have e : decide (Rt h) = decide (Sui h) := by unfold Rt; simp [hi]
    rw [e]
    clear e hi
    obtain ⟨k, ix, ln, st, bd, la, lk, sz⟩ := h
    have hs : Sui ⟨k, ix, ln, st, bd, la, lk, sz⟩ ↔ ((k = 1 ∧ lk = 0) ∨ (k = 2 ∧ la = false) ∨ (k = 3 ∧ la = false ∧ lk = 0 ∧ st = 1)) := Iff.rfl
    change Calls Try.prog 44 #[.agg #[.int .i64 k, .int .i64 ix, .int .i64 ln, .int .i64 st, .int .i64 bd, .bool la, .int .u32 (lk : Int), .int .i64 sz]] w _
    simp only [] at h1 h2 h3 h4 h5 h6 h7 h8 h9 h10 h11 h12 hk0 hk1
    obtain ⟨b, hb⟩ : ∃ b, b = decide (Sui ⟨k, ix, ln, st, bd, la, lk, sz⟩) := ⟨_, rfl⟩
    rw [← hb]
    have hl : lk = 0 ∨ lk ≠ 0 := by omega
    have hl' : True := trivial
    have ht' : True := trivial
    have ht : st = 1 ∨ st ≠ 1 := by omega
    have hk : k = 1 ∨ k = 2 ∨ k = 3 := by omega
    have HB := hid hb
    have HS := hid hs
    clear hb hs hk0 hk1
    rcases hk with rfl | rfl | rfl <;> rcases hl with rfl | hl' <;> cases la <;> rcases ht with rfl | ht'
    all_goals
      try have e1 : ((lk : Int) == 0) = false := by simpa using hl'
      try have e2 : (st == 1) = false := by simpa using ht'
      have hb := HB.out
      simp [HS.out, hl', ht'] at hb
      subst hb
      clear HB HS
      go_enter Try.func44, Try.ntmps44
      go_wp2_with fail
      go_ret
      exact ⟨rfl, below_new _ _⟩
  · have e : decide (Rt h) = false := by simp [hi]
    rw [e]
    clear e hi
    obtain ⟨k, ix, ln, st, bd, la, lk, sz⟩ := h
    change Calls Try.prog 44 #[.agg #[.int .i64 k, .int .i64 ix, .int .i64 ln, .int .i64 st, .int .i64 bd, .bool la, .int .u32 (lk : Int), .int .i64 sz]] w _
    unfold ROut at ho
    simp only [] at ho
    rcases ho with h1 | ⟨h1, h2⟩ | ⟨h1, h2, h3⟩ | ⟨h1, h2, h3, h4⟩ | ⟨h1, h2, h3, h4, h5⟩ | ⟨h1, h2, h3, h4, h5, h6⟩ | ⟨h1, h2, h3, h4, h5, h6, h7⟩ | ⟨h1, h2, h3, h4, h5, h6, h7, h8⟩ | ⟨h1, h2, h3, h4, h5, h6, h7, h8, h9⟩ | ⟨h1, h2, h3, h4, h5, h6, h7, h8, h9, h10⟩ | ⟨h1, h2, h3, h4, h5, h6, h7, h8, h9, h10, h11⟩ | ⟨h1, h2, h3, h4, h5, h6, h7, h8, h9, h10, h11, h12⟩
    all_goals
      go_enter Try.func44, Try.ntmps44
      go_wp2_with fail
      go_ret
      exact ⟨rfl, below_new _ _⟩
end Go.Proofs.Ytgcnbeigchppfaa.Head
