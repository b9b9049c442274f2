/- A reader's Ones, and that of the document's own reader: both count the bits 1, up to most or up to a bit 0, and answer the same, wherever they stand. Conditions: fewer than 2^20 bytes. -/
import Derived.Test.YtfpmdfbggifjiaaRf
namespace Go.Proofs.Ytfpmdfbggifjiaa.Bit
open Go.RowKit

/-- What Ones answers, and where it leads. -/
def OnesR (M T p : Nat) (most : Int) (r : Int × Int × Nat) : Prop :=
  (∃ m : Nat, most = m ∧ p + m ≤ 8 * T ∧ (∀ i, i < m → seg M (8 * T) (p + i) 1 = 1) ∧ r = (most, 0, p + m)) ∨
  (∃ k : Nat, (k : Int) < most ∧ p + k < 8 * T ∧ (∀ i, i < k → seg M (8 * T) (p + i) 1 = 1) ∧ seg M (8 * T) (p + k) 1 = 0 ∧ r = ((k : Int), 0, p + k + 1)) ∨
  (∃ k : Nat, (k : Int) < most ∧ p + k = 8 * T ∧ (∀ i, i < k → seg M (8 * T) (p + i) 1 = 1) ∧ r = (0, 10, p)) ∨ (most < 0 ∧ r = (0, 1, p))

theorem OnesR.one {M T p : Nat} {most : Int} {r s : Int × Int × Nat} (h : OnesR M T p most r) (g : OnesR M T p most s) : r = s := by
  rcases h with ⟨m, h1, h2, h3, rfl⟩ | ⟨k, h1, h2, h3, h4, rfl⟩ | ⟨k, h1, h2, h3, rfl⟩ | ⟨h1, rfl⟩
  · rcases g with ⟨m', g1, g2, g3, rfl⟩ | ⟨k', g1, g2, g3, g4, rfl⟩ | ⟨k', g1, g2, g3, rfl⟩ | ⟨g1, rfl⟩
    · obtain rfl : m = m' := by omega
      rfl
    · have := h3 k' (by omega); omega
    · omega
    · omega
  · rcases g with ⟨m', g1, g2, g3, rfl⟩ | ⟨k', g1, g2, g3, g4, rfl⟩ | ⟨k', g1, g2, g3, rfl⟩ | ⟨g1, rfl⟩
    · have := g3 k (by omega); omega
    · rcases Nat.lt_trichotomy k k' with e | e | e
      · have := g3 k e; omega
      · subst e; rfl
      · have := h3 k' e; omega
    · have := g3 k (by omega); omega
    · omega
  · rcases g with ⟨m', g1, g2, g3, rfl⟩ | ⟨k', g1, g2, g3, g4, rfl⟩ | ⟨k', g1, g2, g3, rfl⟩ | ⟨g1, rfl⟩
    · omega
    · have := h3 k' (by omega); omega
    · rfl
    · omega
  · rcases g with ⟨m', g1, g2, g3, rfl⟩ | ⟨k', g1, g2, g3, g4, rfl⟩ | ⟨k', g1, g2, g3, rfl⟩ | ⟨g1, rfl⟩
    · omega
    · omega
    · omega
    · rfl
theorem OnesR.le {M T p : Nat} {most : Int} {r : Int × Int × Nat} (h : OnesR M T p most r) (hp : p ≤ 8 * T) : r.2.2 ≤ 8 * T := by
  rcases h with ⟨m, h1, h2, h3, rfl⟩ | ⟨k, h1, h2, h3, h4, rfl⟩ | ⟨k, h1, h2, h3, rfl⟩ | ⟨h1, rfl⟩
  · exact h2
  · exact h2
  · exact hp
  · exact hp

theorem and_u8_one : ∀ x : Fin 256, bits .and .u8 (x.val : Int) 1 = ((x.val % 2 : Nat) : Int) := by decide +kernel
theorem bit_u8 (M T p : Nat) (hp : p < 8 * T) : bits .and .u8 ((byt M (8 * T) (p / 8) : Int) / 2 ^ (7 - p % 8)) 1 = (seg M (8 * T) p 1 : Nat) := by
  have hb := byt_lt M (8 * T) (p / 8)
  rw [shr_nat]
  have h2 : byt M (8 * T) (p / 8) / 2 ^ (7 - p % 8) < 256 := Nat.lt_of_le_of_lt (Nat.div_le_self _ _) hb
  rw [and_u8_one ⟨_, h2⟩]
  have h3 := bit_byte M T (p / 8) (p % 8) (by omega) (Nat.mod_lt _ (by decide))
  unfold bitOf at h3
  rw [show 8 - 1 - p % 8 = 7 - p % 8 from by omega, show 8 * (p / 8) + p % 8 = p from by omega] at h3
  show ((byt M (8 * T) (p / 8) / 2 ^ (7 - p % 8) % 2 : Nat) : Int) = _
  rw [h3]

def OnesPost (w : World) (q g M T p : Nat) (most : Int) (e : Ending) (w' : World) : Prop :=
  ∃ r : Int × Int × Nat, OnesR M T p most r ∧ e = .returned (.tuple #[.int .i64 r.1, .int .i64 r.2.1]) ∧ Rd w' q g M T r.2.2 ∧ Fr (fun b => b = q) w w'

def RfOnesPost (w : World) (B q : Nat) (lo : Option Addr) (lcap M T p : Nat) (most : Int) (e : Ending) (w' : World) : Prop :=
  ∃ r : Int × Int × Nat, OnesR M T p most r ∧ e = .returned (.tuple #[.int .i64 r.1, .int .i64 r.2.1]) ∧ Rf w' B q lo lcap M T r.2.2 ∧ Fr (fun b => b = q) w w'

end Go.Proofs.Ytfpmdfbggifjiaa.Bit
