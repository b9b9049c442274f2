/- the document's Cut. No condition but that the sound's lists lie in their room. -/
import Derived.Test.YtkdpalmdcnpnoaaKc
import Derived.Test.YtkdpalmdcnpnoaaJk
import Derived.Test.YtkdpalmdcnpnoaaJf
namespace Go.Proofs.Ytkdpalmdcnpnoaa.Pcm
open Go.RowKit Gen

/-- What stands while the document's Cut goes on. -/
structure Dn (w wr : World) (d : Dat) : Prop where
  x : Bx wr w.heap.size d
  r : ∀ i v, (#[.int .i64 0, .int .i64 0, .int .i64 0, .slice none 0 0] : Array Value)[i]? = some v → wr.cell? ⟨w.heap.size + 1, i, none⟩ = some v
  z : ∀ i, wr.frozen? ⟨w.heap.size + 1, i, none⟩ = false
  below : Below w.heap.size w wr
  lt : w.heap.size + 2 ≤ wr.heap.size
set_option maxRecDepth 20000 in
theorem Dn.upto {w w1 w2 : World} {d : Dat} (h : Dn w w1 d) (hb : Below w1.heap.size w1 w2) : Dn w w2 d := by
  have hlt := h.lt
  exact ⟨h.x.below hb, fun i v hv => (hb.cell (p := ⟨w.heap.size + 1, i, none⟩) (show w.heap.size + 1 < _ by omega)).trans (h.r i v hv),
    fun i => (hb.frozen (p := ⟨w.heap.size + 1, i, none⟩) (show w.heap.size + 1 < _ by omega)).trans (h.z i), h.below.trans (hb.mono h.below.size), Nat.le_trans hlt hb.size⟩
set_option maxRecDepth 20000 in
theorem dn_new (w : World) (d : Dat) : Dn w ((w.alloc (.cells #[.int .i64 d.f.ch, .int .i64 d.f.bits, .int .i64 d.f.rate, .slice d.a d.n d.cap] 26)).alloc (.cells #[.int .i64 0, .int .i64 0, .int .i64 0, .slice none 0 0] 26)) d := by
  have hx := bx_new w d
  have hb := below_new w (.cells #[.int .i64 d.f.ch, .int .i64 d.f.bits, .int .i64 d.f.rate, .slice d.a d.n d.cap] 26)
  generalize hW : w.alloc (.cells #[.int .i64 d.f.ch, .int .i64 d.f.bits, .int .i64 d.f.rate, .slice d.a d.n d.cap] 26) = W at *
  have hz : W.heap.size = w.heap.size + 1 := by rw [← hW]; simp
  have hb3 := below_new W (.cells #[.int .i64 0, .int .i64 0, .int .i64 0, .slice none 0 0] 26)
  refine ⟨hx.below hb3, fun i v hv => ?_, fun i => fz_new _ _ _ _ _ (by simp [hz]), hb.trans (hb3.mono (by omega)), by simp [hz]⟩
  rw [World.cell?_alloc_at _ _ _ _ (by simp [hz])]; exact hv
set_option maxRecDepth 20000 in
theorem Dn.four {w wr : World} {d : Dat} (h : Dn w wr d) : ∀ i, i < 4 → ∃ v, wr.cell? ⟨w.heap.size + 1, i, none⟩ = some v := fun i hi => by
  match i, hi with
  | 0, _ => exact ⟨_, h.r 0 _ rfl⟩
  | 1, _ => exact ⟨_, h.r 1 _ rfl⟩
  | 2, _ => exact ⟨_, h.r 2 _ rfl⟩
  | 3, _ => exact ⟨_, h.r 3 _ rfl⟩

end Go.Proofs.Ytkdpalmdcnpnoaa.Pcm
