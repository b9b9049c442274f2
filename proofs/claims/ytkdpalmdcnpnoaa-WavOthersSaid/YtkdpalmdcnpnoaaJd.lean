/- Join of pcm. No condition. -/
import Derived.Test.YtkdpalmdcnpnoaaJc
namespace Go.Proofs.Ytkdpalmdcnpnoaa.Pcm
open Go.RowKit Gen

def jcode (a b : Dat) : Int := if both a b ≠ 0 then both a b else if 4294967295 < a.cnt + b.cnt then 22 else 0
set_option maxRecDepth 20000 in
theorem jcode_1 {a b : Dat} (h : ¬ both a b = 0) : jcode a b = both a b := if_pos h
set_option maxRecDepth 20000 in
theorem jcode_2 {a b : Dat} (h : both a b = 0) (h2 : 4294967295 < a.cnt + b.cnt) : jcode a b = 22 := by unfold jcode; rw [if_neg (fun x => x h), if_pos h2]
set_option maxRecDepth 20000 in
theorem jcode_3 {a b : Dat} (h : both a b = 0) (h2 : ¬ 4294967295 < a.cnt + b.cnt) : jcode a b = 0 := by unfold jcode; rw [if_neg (fun x => x h), if_neg h2]
/-- What one sound behind another one is. -/
def Joined (a b d : Dat) : Prop := d.f = a.f ∧ d.n = a.n ∧ ∀ i, i < d.n → d.ln i = a.ln i + b.ln i ∧ d.X i = cat (a.X i) (b.X i) (a.ln i)
/-- What stands while Join goes on. -/
structure Jn (w wr : World) (a b : Dat) : Prop where
  x : Bx wr w.heap.size a
  y : Bx wr (w.heap.size + 1) b
  r : ∀ i v, (#[.int .i64 0, .int .i64 0, .int .i64 0, .slice none 0 0] : Array Value)[i]? = some v → wr.cell? ⟨w.heap.size + 1 + 1, i, none⟩ = some v
  z : ∀ i, wr.frozen? ⟨w.heap.size + 1 + 1, i, none⟩ = false
  below : Below w.heap.size w wr
  lt : w.heap.size + 3 ≤ wr.heap.size
set_option maxRecDepth 20000 in
theorem Jn.upto {w w1 w2 : World} {a b : Dat} (h : Jn w w1 a b) (hb : Below w1.heap.size w1 w2) : Jn w w2 a b := by
  have hlt := h.lt
  exact ⟨h.x.below hb, h.y.below hb, fun i v hv => (hb.cell (p := ⟨w.heap.size + 1 + 1, i, none⟩) (show w.heap.size + 1 + 1 < _ by omega)).trans (h.r i v hv),
    fun i => (hb.frozen (p := ⟨w.heap.size + 1 + 1, i, none⟩) (show w.heap.size + 1 + 1 < _ by omega)).trans (h.z i), h.below.trans (hb.mono h.below.size), Nat.le_trans hlt hb.size⟩
set_option maxRecDepth 20000 in
theorem jn_new (w : World) (a b : Dat) : Jn w (((w.alloc (.cells #[.int .i64 a.f.ch, .int .i64 a.f.bits, .int .i64 a.f.rate, .slice a.a a.n a.cap] 26)).alloc (.cells #[.int .i64 b.f.ch, .int .i64 b.f.bits, .int .i64 b.f.rate, .slice b.a b.n b.cap] 26)).alloc (.cells #[.int .i64 0, .int .i64 0, .int .i64 0, .slice none 0 0] 26)) a b := by
  obtain ⟨hb0, hx0, hy0⟩ := boxes w a b
  generalize hW : ((w.alloc (.cells #[.int .i64 a.f.ch, .int .i64 a.f.bits, .int .i64 a.f.rate, .slice a.a a.n a.cap] 26)).alloc (.cells #[.int .i64 b.f.ch, .int .i64 b.f.bits, .int .i64 b.f.rate, .slice b.a b.n b.cap] 26)) = W at *
  have hz : W.heap.size = w.heap.size + 1 + 1 := by rw [← hW]; simp
  have hbn := below_new W (.cells #[.int .i64 0, .int .i64 0, .int .i64 0, .slice none 0 0] 26)
  refine ⟨hx0.below hbn, hy0.below hbn, fun i v hv => ?_, fun i => fz_new _ _ _ _ _ hz.symm, hb0.trans (hbn.mono hb0.size), by simp [hz]⟩
  rw [World.cell?_alloc_at _ _ _ _ hz.symm]; exact hv
set_option maxRecDepth 20000 in
theorem Jn.four {w wr : World} {a b : Dat} (h : Jn w wr a b) : ∀ i, i < 4 → ∃ v, wr.cell? ⟨w.heap.size + 1 + 1, i, none⟩ = some v := fun i hi => by
  match i, hi with
  | 0, _ => exact ⟨_, h.r 0 _ rfl⟩
  | 1, _ => exact ⟨_, h.r 1 _ rfl⟩
  | 2, _ => exact ⟨_, h.r 2 _ rfl⟩
  | 3, _ => exact ⟨_, h.r 3 _ rfl⟩

end Go.Proofs.Ytkdpalmdcnpnoaa.Pcm
