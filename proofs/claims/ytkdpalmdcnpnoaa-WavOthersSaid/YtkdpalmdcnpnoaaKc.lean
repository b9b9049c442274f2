/- Cut of pcm. Condition: the sound's lists lie in their room. -/
import Derived.Test.YtkdpalmdcnpnoaaKb
import Derived.Test.YtkdpalmdcnpnoaaJd
namespace Go.Proofs.Ytkdpalmdcnpnoaa.Pcm
open Go.RowKit Gen

def ccode (d : Dat) (i j : Int) : Int := if d.chk ≠ 0 then d.chk else if i < 0 ∨ j < i ∨ (d.cnt : Int) < j then 1 else 0
set_option maxRecDepth 20000 in
theorem ccode_1 {d : Dat} {i j : Int} (h : ¬ d.chk = 0) : ccode d i j = d.chk := if_pos h
set_option maxRecDepth 20000 in
theorem ccode_2 {d : Dat} {i j : Int} (h : d.chk = 0) (h2 : i < 0 ∨ j < i ∨ (d.cnt : Int) < j) : ccode d i j = 1 := by unfold ccode; rw [if_neg (fun x => x h), if_pos h2]
set_option maxRecDepth 20000 in
theorem ccode_3 {d : Dat} {i j : Int} (h : d.chk = 0) (h2 : ¬ (i < 0 ∨ j < i ∨ (d.cnt : Int) < j)) : ccode d i j = 0 := by unfold ccode; rw [if_neg (fun x => x h), if_neg h2]
/-- What a part of a sound is. -/
def CutOk (d : Dat) (i j : Int) (d' : Dat) : Prop := d'.f = d.f ∧ d'.n = d.n ∧ ∀ k, k < d'.n → d'.ln k = j.toNat - i.toNat ∧ d'.X k = fun m => d.X k (i.toNat + m)
/-- What stands while Cut goes on. -/
structure Cn (w wr : World) (d : Dat) (i j : Int) : Prop where
  x : Bx wr w.heap.size d
  p : wr.cell? ⟨w.heap.size + 1, 0, none⟩ = some (.int .i64 i)
  q : wr.cell? ⟨w.heap.size + 1 + 1, 0, none⟩ = some (.int .i64 j)
  r : ∀ i v, (#[.int .i64 0, .int .i64 0, .int .i64 0, .slice none 0 0] : Array Value)[i]? = some v → wr.cell? ⟨w.heap.size + 1 + 1 + 1, i, none⟩ = some v
  z : ∀ i, wr.frozen? ⟨w.heap.size + 1 + 1 + 1, i, none⟩ = false
  below : Below w.heap.size w wr
  lt : w.heap.size + 4 ≤ wr.heap.size
set_option maxRecDepth 20000 in
theorem Cn.upto {w w1 w2 : World} {d : Dat} {i j : Int} (h : Cn w w1 d i j) (hb : Below w1.heap.size w1 w2) : Cn w w2 d i j := by
  have hlt := h.lt
  exact ⟨h.x.below hb, (hb.cell (p := ⟨w.heap.size + 1, 0, none⟩) (show w.heap.size + 1 < _ by omega)).trans h.p, (hb.cell (p := ⟨w.heap.size + 1 + 1, 0, none⟩) (show w.heap.size + 1 + 1 < _ by omega)).trans h.q,
    fun i v hv => (hb.cell (p := ⟨w.heap.size + 1 + 1 + 1, i, none⟩) (show w.heap.size + 1 + 1 + 1 < _ by omega)).trans (h.r i v hv),
    fun i => (hb.frozen (p := ⟨w.heap.size + 1 + 1 + 1, i, none⟩) (show w.heap.size + 1 + 1 + 1 < _ by omega)).trans (h.z i), h.below.trans (hb.mono h.below.size), Nat.le_trans hlt hb.size⟩
set_option maxRecDepth 20000 in
theorem cn_new (w : World) (d : Dat) (i j : Int) : Cn w ((((w.alloc (.cells #[.int .i64 d.f.ch, .int .i64 d.f.bits, .int .i64 d.f.rate, .slice d.a d.n d.cap] 26)).alloc (.cells #[.int .i64 i] 3)).alloc (.cells #[.int .i64 j] 3)).alloc (.cells #[.int .i64 0, .int .i64 0, .int .i64 0, .slice none 0 0] 26)) d i j := by
  have hx := bx_new w d
  have hb := below_new w (.cells #[.int .i64 d.f.ch, .int .i64 d.f.bits, .int .i64 d.f.rate, .slice d.a d.n d.cap] 26)
  generalize hW : w.alloc (.cells #[.int .i64 d.f.ch, .int .i64 d.f.bits, .int .i64 d.f.rate, .slice d.a d.n d.cap] 26) = W at *
  have hz : W.heap.size = w.heap.size + 1 := by rw [← hW]; simp
  have hb3 : Below W.heap.size W (((W.alloc (.cells #[.int .i64 i] 3)).alloc (.cells #[.int .i64 j] 3)).alloc (.cells #[.int .i64 0, .int .i64 0, .int .i64 0, .slice none 0 0] 26)) := ((below_new W _).alloc (by simp) _).alloc (by simp <;> omega) _
  refine ⟨hx.below hb3, ?_, ?_, fun i v hv => ?_, fun i => fz_new _ _ _ _ _ (by simp [hz]), hb.trans (hb3.mono (by omega)), by simp [hz]⟩
  · rw [cell_old _ _ _ _ (by simp [hz] <;> omega), cell_old _ _ _ _ (by simp [hz]), World.cell?_alloc_at _ _ _ _ (by simp [hz])]; rfl
  · rw [cell_old _ _ _ _ (by simp [hz]), World.cell?_alloc_at _ _ _ _ (by simp [hz])]; rfl
  · rw [World.cell?_alloc_at _ _ _ _ (by simp [hz])]; exact hv
set_option maxRecDepth 20000 in
theorem Cn.four {w wr : World} {d : Dat} {i j : Int} (h : Cn w wr d i j) : ∀ i, i < 4 → ∃ v, wr.cell? ⟨w.heap.size + 1 + 1 + 1, i, none⟩ = some v := fun i hi => by
  match i, hi with
  | 0, _ => exact ⟨_, h.r 0 _ rfl⟩
  | 1, _ => exact ⟨_, h.r 1 _ rfl⟩
  | 2, _ => exact ⟨_, h.r 2 _ rfl⟩
  | 3, _ => exact ⟨_, h.r 3 _ rfl⟩

end Go.Proofs.Ytkdpalmdcnpnoaa.Pcm
