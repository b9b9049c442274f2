/- Silence of pcm. No condition. -/
import Derived.Test.YtkdpalmdcnpnoaaSi
import Derived.Laws.ResultCell
namespace Go.Proofs.Ytkdpalmdcnpnoaa.Pcm
open Go.RowKit Gen

/-- No sound. -/
def Dat.nil : Dat := ⟨⟨0, 0, 0⟩, none, 0, 0, 0, 0, fun _ => none, fun _ => 0, fun _ => 0, fun _ _ => 0⟩
set_option maxRecDepth 20000 in
theorem nil_snd (w : World) : Snd w Dat.nil := ⟨fun h => absurd h (Nat.lt_irrefl 0), fun i hi => absurd hi (Nat.not_lt_zero i), fun i hi => absurd hi (Nat.not_lt_zero i), fun h => absurd h (Nat.lt_irrefl 0), Nat.zero_le _⟩
def silc (f : Fmt) (n : Int) : Int := if ¬ f.right then 20 else if ¬ (0 ≤ n ∧ n ≤ 1048576) then 1 else 0
/-- What a call that answers sound and a code answers: the sound `ok` tells of, or none. -/
def SndPost (w : World) (code : Int) (ok : Dat → Prop) (e : Ending) (w' : World) : Prop := ∃ d : Dat, e = .returned (.tuple #[d.v, .int .i64 code]) ∧ Snd w' d ∧ Below w.heap.size w w' ∧ (code = 0 → ok d) ∧ (code ≠ 0 → d = Dat.nil)
/-- What stands while Silence goes on. -/
structure Sl (w wr : World) (f : Fmt) (n : Int) : Prop where
  f0 : wr.cell? ⟨w.heap.size, 0, none⟩ = some (.int .i64 f.ch)
  f1 : wr.cell? ⟨w.heap.size, 1, none⟩ = some (.int .i64 f.bits)
  f2 : wr.cell? ⟨w.heap.size, 2, none⟩ = some (.int .i64 f.rate)
  cn : wr.cell? ⟨w.heap.size + 1, 0, none⟩ = some (.int .i64 n)
  r : ∀ i v, (#[.int .i64 0, .int .i64 0, .int .i64 0, .slice none 0 0] : Array Value)[i]? = some v → wr.cell? ⟨w.heap.size + 1 + 1, i, none⟩ = some v
  z : ∀ i, wr.frozen? ⟨w.heap.size + 1 + 1, i, none⟩ = false
  below : Below w.heap.size w wr
  lt : w.heap.size + 3 ≤ wr.heap.size
set_option maxRecDepth 20000 in
theorem Sl.upto {w w1 w2 : World} {f : Fmt} {n : Int} (h : Sl w w1 f n) (hb : Below w1.heap.size w1 w2) : Sl w w2 f n := by
  have hlt := h.lt
  have hc : ∀ b i, b < w.heap.size + 3 → w2.cell? ⟨b, i, none⟩ = w1.cell? ⟨b, i, none⟩ := fun b i hh => hb.cell (p := ⟨b, i, none⟩) (show b < _ by omega)
  exact ⟨(hc _ _ (by omega)).trans h.f0, (hc _ _ (by omega)).trans h.f1, (hc _ _ (by omega)).trans h.f2, (hc _ _ (by omega)).trans h.cn, fun i v hv => (hc _ _ (by omega)).trans (h.r i v hv),
    fun i => (hb.frozen (p := ⟨w.heap.size + 1 + 1, i, none⟩) (show w.heap.size + 1 + 1 < _ by omega)).trans (h.z i), h.below.trans (hb.mono h.below.size), Nat.le_trans hlt hb.size⟩
set_option maxRecDepth 20000 in
theorem sl_new (w : World) (f : Fmt) (n : Int) : Sl w (((w.alloc (.cells #[.int .i64 f.ch, .int .i64 f.bits, .int .i64 f.rate] 23)).alloc (.cells #[.int .i64 n] 3)).alloc (.cells #[.int .i64 0, .int .i64 0, .int .i64 0, .slice none 0 0] 26)) f n := by
  have h1 : ∀ i (v : Value), (#[.int .i64 f.ch, .int .i64 f.bits, .int .i64 f.rate] : Array Value)[i]? = some v → (((w.alloc (.cells #[.int .i64 f.ch, .int .i64 f.bits, .int .i64 f.rate] 23)).alloc (.cells #[.int .i64 n] 3)).alloc (.cells #[.int .i64 0, .int .i64 0, .int .i64 0, .slice none 0 0] 26)).cell? ⟨w.heap.size, i, none⟩ = some v := fun i v hv => by
    rw [cell_old _ _ _ _ (by simp <;> omega), cell_old _ _ _ _ (by simp), World.cell?_alloc_at _ _ _ _ rfl]; exact hv
  refine ⟨h1 0 _ rfl, h1 1 _ rfl, h1 2 _ rfl, ?_, fun i v hv => ?_, fun i => fz_new _ _ _ _ _ (by simp), ((below_new w _).alloc (by simp) _).alloc (by simp <;> omega) _, by simp⟩
  · rw [cell_old _ _ _ _ (by simp), World.cell?_alloc_at _ _ _ _ (by simp)]; rfl
  · rw [World.cell?_alloc_at _ _ _ _ (by simp)]; exact hv

set_option maxRecDepth 20000 in
theorem Sl.four {w wr : World} {f : Fmt} {n : Int} (h : Sl w wr f n) : ∀ i, i < 4 → ∃ v, wr.cell? ⟨w.heap.size + 1 + 1, i, none⟩ = some v := fun i hi => by
  match i, hi with
  | 0, _ => exact ⟨_, h.r 0 _ rfl⟩
  | 1, _ => exact ⟨_, h.r 1 _ rfl⟩
  | 2, _ => exact ⟨_, h.r 2 _ rfl⟩
  | 3, _ => exact ⟨_, h.r 3 _ rfl⟩
set_option maxRecDepth 20000 in
theorem set4_below {w wr : World} {q : Nat} (h : Below w.heap.size w wr) (hq : w.heap.size ≤ q) (v0 v1 v2 v3 : Value) : Below w.heap.size w ((((wr.setCell ⟨q, 0, none⟩ v0).setCell ⟨q, 1, none⟩ v1).setCell ⟨q, 2, none⟩ v2).setCell ⟨q, 3, none⟩ v3) :=
  (((h.setCell (p := ⟨q, 0, none⟩) hq _).setCell (p := ⟨q, 1, none⟩) hq _).setCell (p := ⟨q, 2, none⟩) hq _).setCell (p := ⟨q, 3, none⟩) hq _
set_option maxRecDepth 20000 in
theorem Snd.set4 {wr : World} {q B : Nat} {d : Dat} (h : Snd wr d) (hn : NewSnd B wr d) (hq : q < B) (hex : ∀ i, i < 4 → ∃ v, wr.cell? ⟨q, i, none⟩ = some v) (v0 v1 v2 v3 : Value) : Snd ((((wr.setCell ⟨q, 0, none⟩ v0).setCell ⟨q, 1, none⟩ v1).setCell ⟨q, 2, none⟩ v2).setCell ⟨q, 3, none⟩ v3) d := by
  obtain ⟨_, _, _, _, ho⟩ := four_set wr q v0 v1 v2 v3 hex
  refine ⟨h.addr, fun i hi => (ho d.b _ (by have := hn.1; omega)).trans (h.c i hi), fun i hi => ?_, fun hl => by have := h.lt hl; simpa using this, h.hl⟩
  obtain ⟨b, off, h1, _⟩ := ((((hn.2 i hi).set (g := q) (k := 0) hq v0).set (g := q) (k := 1) hq v1).set (g := q) (k := 2) hq v2).set (g := q) (k := 3) hq v3
  exact ⟨b, off, h1⟩

end Go.Proofs.Ytkdpalmdcnpnoaa.Pcm
