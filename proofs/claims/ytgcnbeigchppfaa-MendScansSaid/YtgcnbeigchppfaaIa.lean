/- Heads as data, which are right, and how long their blocks are: of the program and of the document. No condition. -/
import Derived.Test.YtgcnbeigchppfaaTa4
import Derived.Test.YtgcnbeigchppfaaSum
import Derived.Test.YtgcnbeigchppfaaRef
import Derived.WalkMore
import Derived.Laws.ResultCell
namespace Go.Proofs.Ytgcnbeigchppfaa.Head
open Go.RowKit Gen

/-- A head. -/
structure Hh where
  k : Int
  ix : Int
  ln : Int
  st : Int
  bd : Int
  la : Bool
  lk : Nat
  sz : Int
def hvl (h : Hh) : Array Value := #[.int .i64 h.k, .int .i64 h.ix, .int .i64 h.ln, .int .i64 h.st, .int .i64 h.bd, .bool h.la, .int .u32 (h.lk : Int), .int .i64 h.sz]
def hv (h : Hh) : Value := .agg (hvl h)
/-- Its numbers are in their bounds. -/
def Inn (h : Hh) : Prop := 0 ≤ h.ix ∧ h.ix ≤ 4294967295 ∧ 1 ≤ h.ln ∧ h.ln ≤ 65536 ∧ 1 ≤ h.st ∧ h.st ≤ 2147483648 ∧ 0 ≤ h.bd ∧ h.bd ≤ h.st / 2 ∧ 0 ≤ h.sz ∧ h.sz ≤ 16777216
/-- It has nothing that its kind may not have. -/
def Sui (h : Hh) : Prop := (h.k = 1 ∧ h.lk = 0) ∨ (h.k = 2 ∧ h.la = false) ∨ (h.k = 3 ∧ h.la = false ∧ h.lk = 0 ∧ h.st = 1)
def Rt (h : Hh) : Prop := Inn h ∧ Sui h
instance (h : Hh) : Decidable (Inn h) := by unfold Inn; exact inferInstance
instance (h : Hh) : Decidable (Sui h) := by unfold Sui; exact inferInstance
instance (h : Hh) : Decidable (Rt h) := by unfold Rt; exact inferInstance

set_option maxRecDepth 100000 in
theorem below_new (w : World) (o : Obj) : Below w.heap.size w (w.alloc o) := (Below.refl _ _).alloc (Nat.le_refl _) _
set_option maxRecDepth 100000 in
theorem half (n : Int) (h : 0 ≤ n) : n.tdiv 2 = n / 2 := Int.tdiv_eq_ediv_of_nonneg h
set_option maxRecDepth 100000 in
theorem suits_any (h : Hh) (w : World) : Calls Try.prog 62 #[hv h] w fun e w' => e = .returned (.bool (decide (Sui h))) ∧ Below w.heap.size w w' := by
  obtain ⟨k, ix, ln, st, bd, la, lk, sz⟩ := h
  have hs : Sui ⟨k, ix, ln, st, bd, la, lk, sz⟩ ↔ ((k = 1 ∧ lk = 0) ∨ (k = 2 ∧ la = false) ∨ (k = 3 ∧ la = false ∧ lk = 0 ∧ st = 1)) := Iff.rfl
  change Calls Try.prog 62 #[.agg #[.int .i64 k, .int .i64 ix, .int .i64 ln, .int .i64 st, .int .i64 bd, .bool la, .int .u32 (lk : Int), .int .i64 sz]] w _
  obtain ⟨b, hb⟩ : ∃ b, b = decide (Sui ⟨k, ix, ln, st, bd, la, lk, sz⟩) := ⟨_, rfl⟩
  rw [← hb]
  have hl : lk = 0 ∨ lk ≠ 0 := by omega
  have ht : st = 1 ∨ st ≠ 1 := by omega
  have hk : k = 1 ∨ k = 2 ∨ k = 3 ∨ (k ≠ 1 ∧ k ≠ 2 ∧ k ≠ 3) := by omega
  have HB := hid hb
  have HS := hid hs
  clear hb hs
  rcases hk with rfl | rfl | rfl | ⟨h1, h2, h3⟩ <;> rcases hl with rfl | hl <;> cases la <;> rcases ht with rfl | ht
  all_goals
    try have e1 : ((lk : Int) == 0) = false := by simpa using hl
    try have e2 : (st == 1) = false := by simpa using ht
    try have k1 : (k == 1) = false := by simpa using h1
    try have k2 : (k == 2) = false := by simpa using h2
    try have k3 : (k == 3) = false := by simpa using h3
    go_enter Try.func62, Try.ntmps62
    go_wp2_with fail
    go_ret
    refine ⟨?_, below_new _ _⟩
    rw [HB.out]
    simp [HS.out, *]
end Go.Proofs.Ytgcnbeigchppfaa.Head
