/- A shaper in memory: its kind, its misses, its last target; New, Kind and Target. Conditions: there is such a kind; no miss is further than 2^26 from 0. -/
import Derived.Test.YtpgdllphnmimlaaHb
namespace Go.Proofs.Ytpgdllphnmimlaa.Shape
open Go.RowKit Gen

def shp (k : Nat) (m : Nat → Int) (t : Int) : Array Value := #[.int .i64 k, .int .i64 (m 0), .int .i64 (m 1), .int .i64 (m 2), .int .i64 t]
/-- A shaper at block q. -/
structure Shp (w : World) (q k : Nat) (m : Nat → Int) (t : Int) : Prop where
  row : w.heap[q]? = some (.cells (shp k m t) 47 (0, 0))
theorem Shp.rowIs {w : World} {q k : Nat} {m : Nat → Int} {t : Int} (h : Shp w q k m t) : w.rowIs q 47 5 (fun i => (shp k m t).getD i undef) :=
  ⟨_, h.row, rfl, fun i hi => by rcases i with _ | _ | _ | _ | _ | i <;> first | rfl | omega⟩
theorem Shp.c0 {w : World} {q k : Nat} {m : Nat → Int} {t : Int} (h : Shp w q k m t) : w.cell? ⟨q, 0, none⟩ = some (.int .i64 (k : Int)) := h.rowIs.cell (i := 0) (by decide)
theorem Shp.c1 {w : World} {q k : Nat} {m : Nat → Int} {t : Int} (h : Shp w q k m t) : w.cell? ⟨q, 1, none⟩ = some (.int .i64 (m 0)) := h.rowIs.cell (i := 1) (by decide)
theorem Shp.c2 {w : World} {q k : Nat} {m : Nat → Int} {t : Int} (h : Shp w q k m t) : w.cell? ⟨q, 2, none⟩ = some (.int .i64 (m 1)) := h.rowIs.cell (i := 2) (by decide)
theorem Shp.c3 {w : World} {q k : Nat} {m : Nat → Int} {t : Int} (h : Shp w q k m t) : w.cell? ⟨q, 3, none⟩ = some (.int .i64 (m 2)) := h.rowIs.cell (i := 3) (by decide)
theorem Shp.c4 {w : World} {q k : Nat} {m : Nat → Int} {t : Int} (h : Shp w q k m t) : w.cell? ⟨q, 4, none⟩ = some (.int .i64 t) := h.rowIs.cell (i := 4) (by decide)
theorem Shp.fz {w : World} {q k : Nat} {m : Nat → Int} {t : Int} (h : Shp w q k m t) (i : Nat) : w.frozen? ⟨q, i, none⟩ = false := h.rowIs.frozen i
theorem Shp.lt {w : World} {q k : Nat} {m : Nat → Int} {t : Int} (h : Shp w q k m t) : q < w.heap.size := World.block_lt_of_cell? w _ h.c0
theorem Shp.below {w w' : World} {q k : Nat} {m : Nat → Int} {t : Int} (h : Shp w q k m t) (hb : Below w.heap.size w w') : Shp w' q k m t := ⟨(hb.block q h.lt).trans h.row⟩
theorem Shp.fr {w w' : World} {q k : Nat} {m : Nat → Int} {t : Int} (h : Shp w q k m t) {X : Nat → Prop} (hf : Fr X w w') (hx : ¬ X q) : Shp w' q k m t := ⟨(hf.block q h.lt hx).trans h.row⟩
theorem Shp.of {w : World} {q k : Nat} {m : Nat → Int} {t : Int} {f : Nat → Value} (h : w.rowIs q 47 5 f) (h0 : f 0 = .int .i64 (k : Int)) (h1 : f 1 = .int .i64 (m 0)) (h2 : f 2 = .int .i64 (m 1)) (h3 : f 3 = .int .i64 (m 2)) (h4 : f 4 = .int .i64 t) : Shp w q k m t := by
  obtain ⟨cs, e1, e2, e3⟩ := h
  refine ⟨?_⟩
  rw [e1]
  congr 2
  refine Array.ext e2 fun i hi1 hi2 => ?_
  have e := e3 i (by omega)
  rw [Array.getElem?_eq_getElem hi1] at e
  have e' := Option.some.inj e
  rw [e']
  have hi : i < 5 := hi2
  rcases i with _ | _ | _ | _ | _ | i
  · exact h0
  · exact h1
  · exact h2
  · exact h3
  · exact h4
  · omega
theorem Shp.setT {w : World} {q k : Nat} {m : Nat → Int} {t : Int} (h : Shp w q k m t) (u : Int) : Shp (w.setCell ⟨q, 4, none⟩ (.int .i64 u)) q k m u :=
  Shp.of (h.rowIs.set 4 (.int .i64 u)) rfl rfl rfl rfl rfl
theorem kind_nil (w : World) : Calls Try.prog 11 #[.pointer none] w fun e w' => e = .returned (.int .i64 0) ∧ w = w' := by
  go_enter Try.func11, Try.ntmps11
  go_wp2_with fail
  go_ret
  exact ⟨rfl, rfl⟩
theorem kind_any {w : World} {q k : Nat} {m : Nat → Int} {t : Int} (h : Shp w q k m t) : Calls Try.prog 11 #[.pointer (some ⟨q, 0, none⟩)] w fun e w' => e = .returned (.int .i64 (k : Int)) ∧ w = w' := by
  have c0 := h.c0
  clear h
  go_enter Try.func11, Try.ntmps11
  go_wp2_with fail
  go_ret
  exact ⟨rfl, rfl⟩
def NewPost (w : World) (k : Nat) (e : Ending) (w' : World) : Prop := ∃ q, e = .returned (.tuple #[.pointer (some ⟨q, 0, none⟩), .int .i64 0]) ∧ Shp w' q k (fun _ => 0) 0 ∧ w.heap.size ≤ q ∧ Below w.heap.size w w'
theorem new_any (k : Nat) (hk : k ≤ 3) (w : World) : Calls Try.prog 8 #[.int .i64 (k : Int)] w (NewPost w k) := by
  have e : decide (0 ≤ (k : Int) ∧ (k : Int) < 4) = true := decide_eq_true ⟨by omega, by omega⟩
  have HK := hid (iskind_any (k : Int) w)
  rw [e] at HK
  clear e
  go_enter Try.func8, Try.ntmps8
  go_wp2_with fail
  refine HK.out.mono ?_
  rintro e w' ⟨rfl, rfl⟩
  go_wp2_with fail
  go_ret2
  exact ⟨_, rfl, ⟨heap_alloc_new _ _⟩, Nat.le_refl _, below_new _ _⟩
theorem new_bad (x : Int) (hx : ¬ (0 ≤ x ∧ x < 4)) (w : World) : Calls Try.prog 8 #[.int .i64 x] w fun e w' => e = .returned (.tuple #[.pointer none, .int .i64 1]) ∧ w = w' := by
  have e : decide (0 ≤ x ∧ x < 4) = false := decide_eq_false hx
  have HK := hid (iskind_any x w)
  rw [e] at HK
  clear e hx
  go_enter Try.func8, Try.ntmps8
  go_wp2_with fail
  refine HK.out.mono ?_
  rintro e w' ⟨rfl, rfl⟩
  go_wp2_with fail
  go_ret2
  exact ⟨rfl, rfl⟩
end Go.Proofs.Ytpgdllphnmimlaa.Shape
