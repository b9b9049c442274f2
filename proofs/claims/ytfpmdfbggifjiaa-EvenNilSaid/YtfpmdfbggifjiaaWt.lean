/- Put and PutAll of rice: what they answer, what the writer has behind them, and that nothing else has turned. Conditions: a list lies in memory as its numbers; the writer has fewer than 2^42 bits. -/
import Derived.Test.YtfpmdfbggifjiaaCo
namespace Go.Proofs.Ytfpmdfbggifjiaa.Rice
open Go.RowKit Bit

/-- A slice of numbers in memory. -/
structure Us (W : World) (a : Option Addr) (len b off : Nat) (U : Nat → Nat) : Prop where
  addr : 0 < len → a = some ⟨b, off, none⟩
  c : ∀ i, i < len → W.cell? ⟨b, off + i, none⟩ = some (.int .u64 (U i : Int))
  ub : ∀ i, i < len → U i < 18446744073709551616
  lt : 0 < len → b < W.heap.size
  hl : len ≤ 9223372036854775807
theorem Us.below {W W' : World} {a : Option Addr} {len b off : Nat} {U : Nat → Nat} (h : Us W a len b off U) {B : Nat} (hb : Below B W W') (hB : 0 < len → b < B) : Us W' a len b off U :=
  ⟨h.addr, fun i hi => (hb.cell (p := ⟨b, _, none⟩) (hB (by omega))).trans (h.c i hi), h.ub, fun hl => Nat.lt_of_lt_of_le (h.lt hl) hb.size, h.hl⟩
theorem Us.fr {W W' : World} {a : Option Addr} {len b off : Nat} {U : Nat → Nat} (h : Us W a len b off U) {X : Nat → Prop} (hf : Fr X W W') (hX : 0 < len → ¬ X b) : Us W' a len b off U :=
  ⟨h.addr, fun i hi => (hf.cell (p := ⟨b, _, none⟩) (h.lt (by omega)) (hX (by omega))).trans (h.c i hi), h.ub, fun hl => Nat.lt_of_lt_of_le (h.lt hl) hf.size, h.hl⟩

def allC (U : Nat → Nat) (len : Nat) : Prop := ∀ i, i < len → coded (U i)

/-- A number's code, as a number of so many bits as it costs. -/
def cod (u k : Nat) : Nat := if u / 2 ^ k < 24 then (2 ^ (u / 2 ^ k) - 1) * 2 ^ (k + 1) + u % 2 ^ k else (2 ^ 24 - 1) * 2 ^ 40 + u
/-- What a writer has behind it. -/
def Wrote (w : World) (B p o : Nat) (ao : Option Addr) (L N' L' : Nat) (w' : World) : Prop := ∃ ao' cap', WrN w' B p o ao' cap' N' L' ∧ Pushed w w' p ao ao' (L / 8)

theorem cost_low {u k : Nat} (hk : k ≤ 30) (hu : coded u) (h : u / 2 ^ k < 24) : cost u (k : Int) = u / 2 ^ k + 1 + k := by
  unfold cost; rw [if_pos ⟨⟨by omega, by omega⟩, hu⟩, if_pos (by rw [Int.toNat_natCast]; exact h), Int.toNat_natCast]
theorem cost_high {u k : Nat} (hk : k ≤ 30) (hu : coded u) (h : ¬ u / 2 ^ k < 24) : cost u (k : Int) = 64 := by
  unfold cost; rw [if_pos ⟨⟨by omega, by omega⟩, hu⟩, if_neg (by rw [Int.toNat_natCast]; exact h)]
theorem join_low (N q k v : Nat) : (N * 2 ^ q + (2 ^ q - 1)) * 2 ^ (k + 1) + v = N * 2 ^ (q + 1 + k) + ((2 ^ q - 1) * 2 ^ (k + 1) + v) := by
  rw [Nat.add_mul, Nat.mul_assoc, ← Nat.pow_add, show q + (k + 1) = q + 1 + k from by omega, Nat.add_assoc]
theorem join_high (N u : Nat) : (N * 2 ^ 24 + (2 ^ 24 - 1)) * 2 ^ 40 + u = N * 2 ^ 64 + ((2 ^ 24 - 1) * 2 ^ 40 + u) := by omega

theorem put_okI (B p o : Nat) (vi ni : Int) (v n : Nat) (hvi : vi = v) (hni : ni = n) (ao : Option Addr) (cap N L : Nat) (w : World) (hw : WrN w B p o ao cap N L)
    (hv : v < 2 ^ n) (hn : n ≤ 64) (hL : L ≤ 7000000000000) :
    Calls Try.prog 36 #[.pointer (some ⟨p, o, none⟩), .int .u64 vi, .int .i64 ni] w (PutOk w B p o ao L (N * 2 ^ n + v) (L + n)) := by subst hvi hni; exact put_ok B p o v n ao cap N L w hw hv hn hL

end Go.Proofs.Ytfpmdfbggifjiaa.Rice
