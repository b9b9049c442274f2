/- Part of pcm. Condition: the list lies in memory. -/
import Derived.Test.YtfidnklppbdebaaLb
import Derived.Test.YtfidnklppbdebaaKg
namespace Go.Proofs.Ytfidnklppbdebaa.Pcm
open Go.RowKit Gen

/-- Does a number of the list reach beyond the format? -/
def pfar (f : Fmt) (L : Nat) (X : Nat → Int) : Bool := anyB (fun i => beyond (2 ^ (f.bits.toNat - 1)) (X i)) L
def pcode (f : Fmt) (L : Nat) (X : Nat → Int) : Int := if ¬ f.right then 20 else if ¬ (L : Int) % f.ch = 0 then 22 else if pfar f L X = true then 21 else 0
/-- What the parts of a list are. -/
def PartOk (f : Fmt) (L : Nat) (X : Nat → Int) (d : Dat) : Prop := d.f = f ∧ (d.n : Int) = f.ch ∧ ∀ k, k < d.n → d.ln k = L / d.n ∧ d.X k = fun m => X (d.n * m + k)
/-- What stands while Part goes on. -/
structure Pn (w wr : World) (f : Fmt) (a : Option Addr) (L cap : Nat) : Prop where
  f0 : wr.cell? ⟨w.heap.size, 0, none⟩ = some (.int .i64 f.ch)
  f1 : wr.cell? ⟨w.heap.size, 1, none⟩ = some (.int .i64 f.bits)
  f2 : wr.cell? ⟨w.heap.size, 2, none⟩ = some (.int .i64 f.rate)
  l : wr.cell? ⟨w.heap.size + 1, 0, none⟩ = some (.slice a L cap)
  r : ∀ i v, (#[.int .i64 0, .int .i64 0, .int .i64 0, .slice none 0 0] : Array Value)[i]? = some v → wr.cell? ⟨w.heap.size + 1 + 1, i, none⟩ = some v
  z : ∀ i, wr.frozen? ⟨w.heap.size + 1 + 1, i, none⟩ = false
  below : Below w.heap.size w wr
  lt : w.heap.size + 3 ≤ wr.heap.size
theorem Pn.upto {w w1 w2 : World} {f : Fmt} {a : Option Addr} {L cap : Nat} (h : Pn w w1 f a L cap) (hb : Below w1.heap.size w1 w2) : Pn w w2 f a L cap := by
  have hlt := h.lt
  have hf : ∀ i, w2.cell? ⟨w.heap.size, i, none⟩ = w1.cell? ⟨w.heap.size, i, none⟩ := fun i => hb.cell (p := ⟨w.heap.size, i, none⟩) (show w.heap.size < _ by omega)
  exact ⟨(hf 0).trans h.f0, (hf 1).trans h.f1, (hf 2).trans h.f2, (hb.cell (p := ⟨w.heap.size + 1, 0, none⟩) (show w.heap.size + 1 < _ by omega)).trans h.l,
    fun i v hv => (hb.cell (p := ⟨w.heap.size + 1 + 1, i, none⟩) (show w.heap.size + 1 + 1 < _ by omega)).trans (h.r i v hv),
    fun i => (hb.frozen (p := ⟨w.heap.size + 1 + 1, i, none⟩) (show w.heap.size + 1 + 1 < _ by omega)).trans (h.z i), h.below.trans (hb.mono h.below.size), Nat.le_trans hlt hb.size⟩
theorem pn_new (w : World) (f : Fmt) (a : Option Addr) (L cap : Nat) : Pn w (((w.alloc (.cells #[.int .i64 f.ch, .int .i64 f.bits, .int .i64 f.rate] 23)).alloc (.cells #[.slice a L cap] 42)).alloc (.cells #[.int .i64 0, .int .i64 0, .int .i64 0, .slice none 0 0] 26)) f a L cap := by
  have h0 : ∀ i (v : Value), (#[.int .i64 f.ch, .int .i64 f.bits, .int .i64 f.rate] : Array Value)[i]? = some v → (((w.alloc (.cells #[.int .i64 f.ch, .int .i64 f.bits, .int .i64 f.rate] 23)).alloc (.cells #[.slice a L cap] 42)).alloc (.cells #[.int .i64 0, .int .i64 0, .int .i64 0, .slice none 0 0] 26)).cell? ⟨w.heap.size, i, none⟩ = some v := fun i v hv => by
    rw [cell_old _ _ _ _ (by simp <;> omega), cell_old _ _ _ _ (by simp), World.cell?_alloc_at _ _ _ _ rfl]; exact hv
  refine ⟨h0 0 _ rfl, h0 1 _ rfl, h0 2 _ rfl, ?_, fun i v hv => ?_, fun i => fz_new _ _ _ _ _ (by simp), ((below_new w _).alloc (by simp) _).alloc (by simp <;> omega) _, by simp⟩
  · rw [cell_old _ _ _ _ (by simp), World.cell?_alloc_at _ _ _ _ (by simp)]; rfl
  · rw [World.cell?_alloc_at _ _ _ _ (by simp)]; exact hv
theorem Pn.four {w wr : World} {f : Fmt} {a : Option Addr} {L cap : Nat} (h : Pn w wr f a L cap) : ∀ i, i < 4 → ∃ v, wr.cell? ⟨w.heap.size + 1 + 1, i, none⟩ = some v := fun i hi => by
  match i, hi with
  | 0, _ => exact ⟨_, h.r 0 _ rfl⟩
  | 1, _ => exact ⟨_, h.r 1 _ rfl⟩
  | 2, _ => exact ⟨_, h.r 2 _ rfl⟩
  | 3, _ => exact ⟨_, h.r 3 _ rfl⟩
end Go.Proofs.Ytfidnklppbdebaa.Pcm
