/- A part of a list, and the function that Cut hands on. Conditions: the part lies in the list, the list in its room. -/
import Derived.Test.YtkdpalmdcnpnoaaKa
namespace Go.Proofs.Ytkdpalmdcnpnoaa.Pcm
open Go.RowKit Gen

def cutA (a : Option Addr) (cap l : Nat) : Option Addr := if cap = l then a else a.map (·.add (l * 1))
set_option maxRecDepth 20000 in
theorem cut_isb {W : World} {a : Option Addr} {len b o cap l h : Nat} {X : Nat → Int} (hi : Isb W a len b o X) (h1 : l ≤ h) (h2 : h ≤ len) (h3 : len ≤ cap) : Isb W (cutA a cap l) (h - l) b (o + l) (fun j => X (l + j)) := by
  refine ⟨fun hp => ?_, fun j hj => ?_, fun hp => hi.lt (by omega), by have := hi.hl; omega⟩
  · unfold cutA
    rw [if_neg (by omega), hi.addr (by omega), Nat.mul_one, Option.map_some, Addr.add_lit]
  · have := hi.c (l + j) (by omega)
    rw [show o + l + j = o + (l + j) by omega]
    exact this
set_option maxRecDepth 20000 in
theorem cut_run (a : Option Addr) (len cap l h : Nat) (h1 : l ≤ h) (h3 : h ≤ cap) : ∀ W, (Instr.sliceAt 55 (.slice a len cap) (some (.int .i64 (l : Int))) (some (.int .i64 (h : Int))) none).run Try.prog W = .ok (.slice (cutA a cap l) (h - l) (cap - l)) W := fun W => by
  have ht : Try.prog.underlying 55 = some (.slice (Try.prog.elem 55)) := by kernel_rfl
  have he : Try.prog.elem 55 = 3 := by kernel_rfl
  rw [run_sliceAt_slice W 55 _ _ _ _ ht, run_slice_lh W 55 a len cap ht .i64 .i64 l h (by omega) (by omega) (by omega), he]
  have hs : Try.t3.size = 1 := by kernel_rfl
  simp [sizeOf, hs, sliced, cutA, Result.andThen]

end Go.Proofs.Ytkdpalmdcnpnoaa.Pcm
