/- The method Add of a writer of bits: the bits of the other one, be it another or itself, stand behind its own; nothing else has turned. Conditions: fewer than 2^42 bits in each; the other one's bits are a number below 2 to their number. -/
import Derived.Test.YtjimamjhakainaaM04
namespace Go.Proofs.Ytjimamjhakainaa.Bit
open Go.RowKit

/-- Two writers that share nothing. -/
structure Sep (p : Nat) (ao : Option Addr) (q : Nat) (bo : Option Addr) : Prop where
  ne : p ≠ q
  aq : blk ao ≠ some q
  bp : blk bo ≠ some p
  rows : ∀ g, blk ao = some g → blk bo ≠ some g

theorem Sep.symm {p q : Nat} {ao bo : Option Addr} (h : Sep p ao q bo) : Sep q bo p ao := ⟨h.ne.symm, h.bp, h.aq, fun g hg e => h.rows g e hg⟩

/-- What pushing bits into one writer leaves of another. -/
theorem Pushed.other {w w' : World} {p : Nat} {ao ao' : Option Addr} {k : Nat} (h : Pushed w w' p ao ao' k) {B q o : Nat} {bo : Option Addr} {cap N L : Nat} (hq : WrN w B q o bo cap N L) (hs : Sep p ao q bo) :
    WrN w' B q o bo cap N L ∧ Sep p ao' q bo := by
  have h1 : ¬ (q = p ∨ blk ao = some q) := fun e => e.elim (fun e => hs.ne e.symm) hs.aq
  have h2 : ∀ g, blk bo = some g → ¬ (g = p ∨ blk ao = some g) := fun g hg e => e.elim (fun e => hs.bp (by rw [hg, e])) (fun e => hs.rows g e hg)
  refine ⟨Wr.keep hq h.fr h1 h2, hs.ne, ?_, hs.bp, ?_⟩
  · rcases h.at_ with e | e
    · rw [e]; exact hs.aq
    · intro e2; have := e q e2; have := Wr.plt hq; omega
  · intro g hg e2
    rcases h.at_ with e | e
    · exact hs.rows g (e ▸ hg) e2
    · have := e g hg; have := (Wr.rlt hq g e2).2; omega

theorem add_step (N M K i : Nat) (hi : 8 * (i + 1) ≤ K) : (N * 2 ^ (8 * i) + M / 2 ^ (K - 8 * i)) * 2 ^ 8 + byt M K i = N * 2 ^ (8 * (i + 1)) + M / 2 ^ (K - 8 * (i + 1)) := by
  unfold byt
  have e1 : K - 8 * i = (K - 8 * (i + 1)) + 8 := by omega
  rw [e1, Nat.pow_add, ← Nat.div_div_eq_div_mul, show 8 * (i + 1) = 8 * i + 8 from by omega, Nat.pow_add, ← Nat.mul_assoc, Nat.add_mul]
  have := Nat.div_add_mod (M / 2 ^ (K - (8 * i + 8))) 256
  rw [show (2 : Nat) ^ 8 = 256 from rfl]
  omega
theorem add_last (N M K : Nat) : (N * 2 ^ (8 * (K / 8)) + M / 2 ^ (K - 8 * (K / 8))) * 2 ^ (K % 8) + M % 2 ^ (K % 8) = N * 2 ^ K + M := by
  have e1 : K - 8 * (K / 8) = K % 8 := by omega
  have e2 : 2 ^ K = 2 ^ (8 * (K / 8)) * 2 ^ (K % 8) := by rw [← Nat.pow_add, Nat.div_add_mod]
  rw [e1, e2, Nat.add_mul, Nat.mul_assoc, Nat.add_assoc]
  have := Nat.div_add_mod M (2 ^ (K % 8))
  rw [Nat.mul_comm (M / 2 ^ (K % 8))]
  omega

theorem WrN.cell {w : World} {B q o : Nat} {bo : Option Addr} {cap M K : Nat} (h : WrN w B q o bo cap M K) (j : Nat) (hj : j < K / 8) : ∃ g, bo = some ⟨g, 0, none⟩ ∧ w.cell? ⟨g, j, none⟩ = some (.int .u8 (byt M K j : Int)) := by
  rcases ownsRow_at (Wr.own h) with ⟨_, h1, _, _⟩ | ⟨g, rfl⟩
  · omega
  · exact ⟨g, rfl, ownsRow_cell (Wr.own h) j _ (by simp [hj])⟩

end Go.Proofs.Ytjimamjhakainaa.Bit
