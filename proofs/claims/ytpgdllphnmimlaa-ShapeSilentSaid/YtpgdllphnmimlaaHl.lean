/- The misses as a list of the document's; ShapePlays' walk. Conditions: the calls lie in memory. -/
import Derived.Test.YtpgdllphnmimlaaHk
namespace Go.Proofs.Ytpgdllphnmimlaa.Shape
open Go.RowKit Gen

theorem Try.info3 : (Try.prog.info? 3).map (fun i => (i.zero, i.size, i.bytes)) = some (some (.int .i64 0), 1, 8) := by kernel_rfl
def il (L : List Int) : List Value := L.map (.int .i64)
theorem il_app (L M : List Int) : il (L ++ M) = il L ++ il M := List.map_append
/-- A list of numbers of a call's own. -/
def Il (w : World) (B : Nat) (lo : Option Addr) (cap : Nat) (L : List Int) : Prop := w.ownsRow B 3 1 (.slice lo L.length cap) L.length (il L)
def gd (L : List Int) (i : Nat) : Int := L.getD i 0
theorem Il.isb {w : World} {B : Nat} {lo : Option Addr} {cap : Nat} {L : List Int} (h : Il w B lo cap L) (hl : L.length ≤ 9223372036854775807) : ∃ b, Isb w lo L.length b 0 (gd L) ∧ (0 < L.length → B ≤ b) := by
  rcases ownsRow_at h with ⟨rfl, h1, _, _⟩ | ⟨g, rfl⟩
  · exact ⟨0, ⟨fun h => by omega, fun i h => by omega, fun h => by omega, hl⟩, fun h => by omega⟩
  · refine ⟨g, ⟨fun _ => rfl, fun i hi => ?_, fun _ => (h.lt g rfl).2, hl⟩, fun _ => (h.lt g rfl).1⟩
    rw [Nat.zero_add]
    refine ownsRow_cell h i _ ?_
    unfold il gd
    rw [List.getElem?_map, List.getElem?_eq_getElem hi]
    simp [hi]
theorem Il.block {w w' : World} {B : Nat} {lo : Option Addr} {cap : Nat} {L : List Int} (h : Il w B lo cap L) (hb : ∀ g, blk lo = some g → w'.heap[g]? = w.heap[g]?) : Il w' B lo cap L := ownsRow_block h hb
theorem Il.lt {w : World} {B : Nat} {lo : Option Addr} {cap : Nat} {L : List Int} (h : Il w B lo cap L) {g : Nat} (hg : blk lo = some g) : B ≤ g ∧ g < w.heap.size := World.ownsRow.lt h g (by rw [ownBlock_slice]; exact hg)
theorem Il.below {w w' : World} {B : Nat} {lo : Option Addr} {cap : Nat} {L : List Int} (h : Il w B lo cap L) (hb : Below w.heap.size w w') : Il w' B lo cap L := h.block fun g hg => hb.block g (h.lt hg).2
theorem Il.fr {w w' : World} {B : Nat} {lo : Option Addr} {cap : Nat} {L : List Int} (h : Il w B lo cap L) {q : Nat} (hf : Fr (fun b => b = q) w w') (hq : q < B) : Il w' B lo cap L := h.block fun g hg => hf.block g (h.lt hg).2 (by have := (h.lt hg).1; omega)
theorem Il.nil (w : World) (B : Nat) : Il w B none 0 [] := World.ownsRow_nil _ _ _ _
/-- The misses, the last one first. -/
def mL (L : List Int) (j : Nat) : Int := L.reverse.getD j 0
theorem mL_nil : mL [] = fun _ => 0 := rfl
theorem mL_app (L : List Int) (u : Int) : mL (L ++ [u]) = nx (mL L) u := by
  funext j
  unfold mL
  rw [List.reverse_append]
  cases j <;> rfl
theorem ms_mL (L : List Int) : ms (gd L) L.length = mL L := by
  funext j
  unfold ms mL gd
  by_cases h : j < L.length
  · rw [if_pos h, List.getD_eq_getElem?_getD, List.getD_eq_getElem?_getD, List.getElem?_reverse h]
  · rw [if_neg h, List.getD_eq_getElem?_getD, List.getElem?_eq_none (by rw [List.length_reverse]; omega)]
    rfl
end Go.Proofs.Ytpgdllphnmimlaa.Shape
