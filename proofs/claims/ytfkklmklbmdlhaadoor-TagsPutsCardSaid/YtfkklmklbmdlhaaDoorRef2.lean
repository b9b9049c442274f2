/- The document's own signed fields and texts. Conditions: texts of fewer than 2^38 bytes. -/
import Derived.Test.YtfkklmklbmdlhaaDoorRef
namespace Go.Proofs.YtfkklmklbmdlhaaDoor.Fld
open Go.RowKit Gen

theorem le_congr (v u n : Nat) (h : v % 2 ^ (8 * n) = u % 2 ^ (8 * n)) : le v n = le u n := by
  induction n with
  | zero => rfl
  | succ n ih =>
    have e : 2 ^ (8 * (n + 1)) = 2 ^ (8 * n) * 256 := by rw [show 8 * (n + 1) = 8 * n + 8 from by omega, Nat.pow_add]
    rw [e] at h
    have h1 : v % 2 ^ (8 * n) = u % 2 ^ (8 * n) := by
      have := congrArg (· % 2 ^ (8 * n)) h
      simpa [Nat.mod_mul_right_mod] using this
    have h2 : v / 2 ^ (8 * n) % 256 = u / 2 ^ (8 * n) % 256 := by
      have := congrArg (· / 2 ^ (8 * n)) h
      simpa [Nat.mod_mul_right_div_self] using this
    rw [le, le, ih h1, h2]

theorem own_ret {w w' : World} {e : Nat} {m : List Nat} {n : Nat} (hn : m.length = n) (ho : w'.ownsRow w.heap.size 5 1 (.slice (some ⟨w.heap.size, 0, none⟩) n n) n (bl m)) (hb : Below w.heap.size w w') :
    RefP w e m (.returned (.tuple #[.slice (some ⟨w.heap.size, 0, none⟩) n n, .int .i64 (e : Int)])) w' := by
  subst hn
  exact ⟨_, _, rfl, ho, hb⟩

theorem neg_mod (v : Int) (k : Nat) (hk : 1 ≤ k) (hk8 : k ≤ 7) (h1 : -2 ^ (8 * k - 1) ≤ v) (h2 : v < 0) : (v + 2 ^ (8 * k)).toNat % 2 ^ (8 * k) = u64 v % 2 ^ (8 * k) := by
  unfold u64
  have hh : k = 1 ∨ k = 2 ∨ k = 3 ∨ k = 4 ∨ k = 5 ∨ k = 6 ∨ k = 7 := by omega
  rcases hh with rfl | rfl | rfl | rfl | rfl | rfl | rfl <;> simp only [Nat.reduceMul, Nat.reduceSub, Nat.reducePow, Int.reducePow] at h1 ⊢ <;> omega

end Go.Proofs.YtfkklmklbmdlhaaDoor.Fld
