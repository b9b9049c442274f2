/- Apart of pcm. Conditions: both sounds lie in memory as their lists. -/
import Derived.Test.YtkdpalmdcnpnoaaFa
namespace Go.Proofs.Ytkdpalmdcnpnoaa.Pcm
open Go.RowKit Gen

set_option maxRecDepth 20000 in
theorem near_of {d : Dat} (h : d.chk = 0) : ∀ i, i < d.n → Near (d.X i) (d.ln i) := fun i hi j hj => by
  obtain ⟨hr, _, _, _, _, _, hfar⟩ := chk_ok h
  have hP : 2 ^ (d.f.bits.toNat - 1) ≤ 2 ^ 23 := Nat.pow_le_pow_right (by decide) (by have := hr.2.1; omega)
  cases hb : beyond (2 ^ (d.f.bits.toNat - 1)) (d.X i j) with
  | true =>
    have h1 : anyB (fun j => beyond (2 ^ (d.f.bits.toNat - 1)) (d.X i j)) (d.ln i) = true := (any_iff _ _).2 ⟨j, hj, hb⟩
    have h2 : d.far = true := (any_iff (fun i => anyB (fun j => beyond (2 ^ (d.f.bits.toNat - 1)) (d.X i j)) (d.ln i)) d.n).2 ⟨i, hi, h1⟩
    rw [hfar] at h2; cases h2
  | false =>
    unfold beyond at hb
    rw [Bool.not_eq_false', decide_eq_true_eq] at hb
    generalize 2 ^ (d.f.bits.toNat - 1) = P at *
    omega

/-- What becomes of two sounds. -/
def apc (a b : Dat) : Int := if both a b ≠ 0 then both a b else if ¬ a.cnt = b.cnt then 22 else 0
def apf (a b : Dat) (c : Nat) : Int := far (a.X c) (b.X c) (a.cnt)
set_option maxRecDepth 20000 in
theorem apc_1 {a b : Dat} (h : both a b ≠ 0) : apc a b = both a b := if_pos h
set_option maxRecDepth 20000 in
theorem apc_2 {a b : Dat} (h : both a b = 0) (h2 : ¬ a.cnt = b.cnt) : apc a b = 22 := by unfold apc; rw [if_neg (fun x => x h), if_pos h2]
set_option maxRecDepth 20000 in
theorem apc_3 {a b : Dat} (h : both a b = 0) (h2 : a.cnt = b.cnt) : apc a b = 0 := by unfold apc; rw [if_neg (fun x => x h), if_neg (fun x => x h2)]
set_option maxRecDepth 20000 in
theorem both_ok {a b : Dat} (h : both a b = 0) : a.chk = 0 ∧ b.chk = 0 ∧ a.f = b.f := by
  unfold both at h
  by_cases h1 : a.chk = 0
  · rw [if_neg (fun x => x h1)] at h
    by_cases h2 : b.chk = 0
    · rw [if_neg (fun x => x h2)] at h
      by_cases h3 : a.f = b.f
      · exact ⟨h1, h2, h3⟩
      · rw [if_neg h3] at h; cases h
    · rw [if_pos h2] at h; exact absurd h h2
  · rw [if_pos h1] at h; exact absurd h h1
def ApPost (w : World) (a b : Dat) (e : Ending) (w' : World) : Prop := ∃ (lo : Option Addr) (lcap len g off : Nat), len = (if apc a b = 0 then a.n else 0) ∧ e = .returned (.tuple #[.slice lo len lcap, .int .i64 (apc a b)]) ∧ Isb w' lo len g off (apf a b) ∧ Below w.heap.size w w'
set_option maxRecDepth 20000 in
theorem isb_nil (w : World) (X : Nat → Int) : Isb w none 0 0 0 X := ⟨fun h => absurd h (Nat.lt_irrefl 0), fun i hi => absurd hi (Nat.not_lt_zero i), fun h => absurd h (Nat.lt_irrefl 0), Nat.zero_le _⟩

/-- The list that is being filled. -/
structure Fl (wr : World) (g n k : Nat) (X : Nat → Int) : Prop where
  c : ∀ i, i < n → wr.cell? ⟨g, i, none⟩ = some (.int .i64 (if i < k then X i else 0))
  f : ∀ i, wr.frozen? ⟨g, i, none⟩ = false
set_option maxRecDepth 20000 in
theorem Fl.fr {w w' : World} {g n k : Nat} {X : Nat → Int} (h : Fl w g n k X) (hf : Fr (fun _ => False) w w') (hg : g < w.heap.size) : Fl w' g n k X :=
  ⟨fun i hi => ((Below.of_fr hf).cell (p := ⟨g, i, none⟩) hg).trans (h.c i hi), fun i => ((Below.of_fr hf).frozen (p := ⟨g, i, none⟩) hg).trans (h.f i)⟩
set_option maxRecDepth 20000 in
theorem Fl.set {w : World} {g n k : Nat} {X : Nat → Int} (h : Fl w g n k X) (hk : k < n) (x : Int) (hx : x = X k) : Fl (w.setCell ⟨g, k, none⟩ (.int .i64 x)) g n (k + 1) X := by
  refine ⟨fun i hi => ?_, fun i => by rw [World.frozen?_setCell]; exact h.f i⟩
  by_cases e : i = k
  · subst e
    rw [World.cell?_setCell_same _ _ _ (h.c i hi), if_pos (by omega), hx]
  · rw [World.cell?_setCell_other _ _ _ _ (by intro e2; simp at e2 <;> omega), h.c i hi]
    by_cases h1 : i < k
    · rw [if_pos h1, if_pos (by omega)]
    · rw [if_neg h1, if_neg (by omega)]
set_option maxRecDepth 20000 in
theorem fl_new (w : World) (n : Nat) (X : Nat → Int) : Fl (w.alloc (.cells (madeCells #[.int .i64 0] n) 3)) w.heap.size n 0 X := by
  refine ⟨fun i hi => ?_, fun i => ?_⟩
  · rw [World.cell?_alloc_at _ _ _ _ rfl]
    simp [madeCells, hi, Nat.mod_one]
  · rw [frozen?_alloc_cells]; simp [World.frozen?]

/-- What stands while the list is filled. -/
structure Sf (w wr : World) (a b : Dat) (g k : Nat) : Prop where
  fl : Fl wr g a.n k (apf a b)
  bx : Bx wr w.heap.size a
  by' : Bx wr (w.heap.size + 1) b
  below : Below w.heap.size w wr
  lt : g < wr.heap.size
  gt : w.heap.size + 1 < g
set_option maxRecDepth 20000 in
theorem Sf.fr {w w1 w2 : World} {a b : Dat} {g k : Nat} (h : Sf w w1 a b g k) (hf : Fr (fun _ => False) w1 w2) : Sf w w2 a b g k :=
  ⟨h.fl.fr hf h.lt, h.bx.fr hf, h.by'.fr hf, below_fr h.below hf, Nat.lt_of_lt_of_le h.lt hf.size, h.gt⟩
set_option maxRecDepth 20000 in
theorem Bx.set {w : World} {p g k : Nat} {d : Dat} (h : Bx w p d) (hp : p ≠ g) (v : Value) : Bx (w.setCell ⟨g, k, none⟩ v) p d := by
  have hc : ∀ i, (w.setCell ⟨g, k, none⟩ v).cell? ⟨p, i, none⟩ = w.cell? ⟨p, i, none⟩ := fun i => World.cell?_setCell_other _ _ _ _ (by intro e; simp at e <;> omega)
  exact ⟨(hc 0).trans h.c0, (hc 1).trans h.c1, (hc 2).trans h.c2, (hc 3).trans h.c3⟩
set_option maxRecDepth 20000 in
theorem Sf.set {w wr : World} {a b : Dat} {g k : Nat} (h : Sf w wr a b g k) (hk : k < a.n) (x : Int) (hx : x = apf a b k) : Sf w (wr.setCell ⟨g, k, none⟩ (.int .i64 x)) a b g (k + 1) := by
  have hgt := h.gt
  exact ⟨h.fl.set hk x hx, h.bx.set (by omega) _, h.by'.set (by omega) _, h.below.setCell (p := ⟨g, k, none⟩) (show w.heap.size ≤ g by omega) _, by have := h.lt; simpa using this, h.gt⟩

end Go.Proofs.Ytkdpalmdcnpnoaa.Pcm
