/- Weights of the program and of the document: the same numbers. No condition. -/
import Derived.Test.YtpgdllphnmimlaaHg
namespace Go.Proofs.Ytpgdllphnmimlaa.Shape
open Go.RowKit Gen

def WtPost (w : World) (k : Nat) (e : Ending) (w' : World) : Prop := ∃ a g, e = .returned (.slice a k k) ∧ Isb w' a k g 0 (wt k) ∧ w.heap.size ≤ g ∧ Below w.heap.size w w'
theorem wtpost {w w' : World} {k g : Nat} (hc : ∀ i, i < k → w'.cell? ⟨g, i, none⟩ = some (.int .i64 (wt k i))) (hg : w.heap.size ≤ g) (hl : g < w'.heap.size) (hk : k ≤ 3) (hb : Below w.heap.size w w') : WtPost w k (.returned (.slice (some ⟨g, 0, none⟩) k k)) w' :=
  ⟨_, g, rfl, ⟨fun _ => rfl, fun i hi => by rw [Nat.zero_add]; exact hc i hi, fun _ => hl, by omega⟩, hg, hb⟩
set_option maxHeartbeats 800000 in
theorem weights_out (x : Int) (hx : ¬ (0 ≤ x ∧ x < 4)) (w : World) : Calls Try.prog 9 #[.int .i64 x] w fun e w' => e = .returned (.slice none 0 0) ∧ w = w' := by
  have e : decide (0 ≤ x ∧ x < 4) = false := decide_eq_false hx
  have HK := hid (iskind_any x w)
  rw [e] at HK
  clear e hx
  go_enter Try.func9, Try.ntmps9
  go_wp2_with fail
  refine HK.out.mono ?_
  rintro e w' ⟨rfl, rfl⟩
  go_wp2_with fail
  go_ret
  exact ⟨rfl, rfl⟩
set_option maxHeartbeats 800000 in
theorem weights_in (k : Nat) (hk : k ≤ 3) (w : World) : Calls Try.prog 9 #[.int .i64 (k : Int)] w (WtPost w k) := by
  obtain rfl | rfl | rfl | rfl : k = 0 ∨ k = 1 ∨ k = 2 ∨ k = 3 := by omega
  · have HK := hid (show Calls Try.prog 21 #[.int .i64 0] w fun e w' => e = .returned (.bool true) ∧ w = w' from iskind_any 0 w)
    have HW := hid (show Calls Try.prog 22 #[.int .i64 0] w fun e w' => e = .returned (.agg #[.int .i64 0, .int .i64 0, .int .i64 0]) ∧ Below w.heap.size w w' from weights_any 0 (by decide) 0 rfl w)
    change Calls Try.prog 9 #[.int .i64 0] w _
    go_enter Try.func9, Try.ntmps9
    go_wp2_with fail
    refine HK.out.mono ?_
    rintro e w' ⟨rfl, rfl⟩
    go_wp2_with fail
    refine HW.out.mono ?_
    rintro e w1 ⟨rfl, hb1⟩
    have HB := hid hb1
    clear hb1
    go_wp2_with fail
    go_ret
    exact wtpost (g := w1.heap.size) (fun i hi => by rw [World.cell?_alloc_at _ _ _ _ rfl]; rcases i with _ | _ | _ | i <;> first | rfl | omega) HB.out.size (by rw [World.size_alloc]; omega) (by decide) (HB.out.alloc HB.out.size _)
  · have HK := hid (show Calls Try.prog 21 #[.int .i64 1] w fun e w' => e = .returned (.bool true) ∧ w = w' from iskind_any 1 w)
    have HW := hid (show Calls Try.prog 22 #[.int .i64 1] w fun e w' => e = .returned (.agg #[.int .i64 15, .int .i64 0, .int .i64 0]) ∧ Below w.heap.size w w' from weights_any 1 (by decide) 1 rfl w)
    change Calls Try.prog 9 #[.int .i64 1] w _
    go_enter Try.func9, Try.ntmps9
    go_wp2_with fail
    refine HK.out.mono ?_
    rintro e w' ⟨rfl, rfl⟩
    go_wp2_with fail
    refine HW.out.mono ?_
    rintro e w1 ⟨rfl, hb1⟩
    have HB := hid hb1
    clear hb1
    go_wp2_with fail
    go_ret
    exact wtpost (g := w1.heap.size) (fun i hi => by rw [World.cell?_alloc_at _ _ _ _ rfl]; rcases i with _ | _ | _ | i <;> first | rfl | omega) HB.out.size (by rw [World.size_alloc]; omega) (by decide) (HB.out.alloc HB.out.size _)
  · have HK := hid (show Calls Try.prog 21 #[.int .i64 2] w fun e w' => e = .returned (.bool true) ∧ w = w' from iskind_any 2 w)
    have HW := hid (show Calls Try.prog 22 #[.int .i64 2] w fun e w' => e = .returned (.agg #[.int .i64 24, .int .i64 (-9), .int .i64 0]) ∧ Below w.heap.size w w' from weights_any 2 (by decide) 2 rfl w)
    change Calls Try.prog 9 #[.int .i64 2] w _
    go_enter Try.func9, Try.ntmps9
    go_wp2_with fail
    refine HK.out.mono ?_
    rintro e w' ⟨rfl, rfl⟩
    go_wp2_with fail
    refine HW.out.mono ?_
    rintro e w1 ⟨rfl, hb1⟩
    have HB := hid hb1
    clear hb1
    go_wp2_with fail
    go_ret
    exact wtpost (g := w1.heap.size) (fun i hi => by rw [World.cell?_alloc_at _ _ _ _ rfl]; rcases i with _ | _ | _ | i <;> first | rfl | omega) HB.out.size (by rw [World.size_alloc]; omega) (by decide) (HB.out.alloc HB.out.size _)
  · have HK := hid (show Calls Try.prog 21 #[.int .i64 3] w fun e w' => e = .returned (.bool true) ∧ w = w' from iskind_any 3 w)
    have HW := hid (show Calls Try.prog 22 #[.int .i64 3] w fun e w' => e = .returned (.agg #[.int .i64 30, .int .i64 (-21), .int .i64 5]) ∧ Below w.heap.size w w' from weights_any 3 (by decide) 3 rfl w)
    change Calls Try.prog 9 #[.int .i64 3] w _
    go_enter Try.func9, Try.ntmps9
    go_wp2_with fail
    refine HK.out.mono ?_
    rintro e w' ⟨rfl, rfl⟩
    go_wp2_with fail
    refine HW.out.mono ?_
    rintro e w1 ⟨rfl, hb1⟩
    have HB := hid hb1
    clear hb1
    go_wp2_with fail
    go_ret
    exact wtpost (g := w1.heap.size) (fun i hi => by rw [World.cell?_alloc_at _ _ _ _ rfl]; rcases i with _ | _ | _ | i <;> first | rfl | omega) HB.out.size (by rw [World.size_alloc]; omega) (by decide) (HB.out.alloc HB.out.size _)
theorem wtpost0 {w w' : World} (hb : Below w.heap.size w w') : WtPost w 0 (.returned (.slice none 0 0)) w' :=
  ⟨none, w.heap.size, rfl, ⟨fun h => absurd h (Nat.lt_irrefl 0), fun i h => absurd h (Nat.not_lt_zero i), fun h => absurd h (Nat.lt_irrefl 0), by decide⟩, Nat.le_refl _, hb⟩
theorem al4 (w : World) (a b c d : Array Value) (t u : TypeId) :
    Below w.heap.size w ((((w.alloc (.cells a t)).alloc (.cells b t)).alloc (.cells c t)).alloc (.cells d u)) ∧
    (∀ i, ((((w.alloc (.cells a t)).alloc (.cells b t)).alloc (.cells c t)).alloc (.cells d u)).cell? ⟨w.heap.size, i, none⟩ = a[i]?) ∧
    (∀ i, ((((w.alloc (.cells a t)).alloc (.cells b t)).alloc (.cells c t)).alloc (.cells d u)).cell? ⟨w.heap.size + 1, i, none⟩ = b[i]?) ∧
    (∀ i, ((((w.alloc (.cells a t)).alloc (.cells b t)).alloc (.cells c t)).alloc (.cells d u)).cell? ⟨w.heap.size + 1 + 1, i, none⟩ = c[i]?) ∧
    ((((w.alloc (.cells a t)).alloc (.cells b t)).alloc (.cells c t)).alloc (.cells d u)).heap.size = w.heap.size + 4 := by
  have h1 := below_new w (.cells a t)
  have z1 : (w.alloc (.cells a t)).heap.size = w.heap.size + 1 := by rw [World.size_alloc]
  have n1 : ∀ i, (w.alloc (.cells a t)).cell? ⟨w.heap.size, i, none⟩ = a[i]? := fun i => World.cell?_alloc_at _ _ _ _ rfl
  generalize w.alloc (.cells a t) = A at *
  have h2 := below_new A (.cells b t)
  have z2 : (A.alloc (.cells b t)).heap.size = w.heap.size + 1 + 1 := by rw [World.size_alloc, z1]
  have n2 : ∀ i, (A.alloc (.cells b t)).cell? ⟨w.heap.size + 1, i, none⟩ = b[i]? := fun i => World.cell?_alloc_at _ _ _ _ z1.symm
  generalize A.alloc (.cells b t) = B at *
  have h3 := below_new B (.cells c t)
  have z3 : (B.alloc (.cells c t)).heap.size = w.heap.size + 1 + 1 + 1 := by rw [World.size_alloc, z2]
  have n3 : ∀ i, (B.alloc (.cells c t)).cell? ⟨w.heap.size + 1 + 1, i, none⟩ = c[i]? := fun i => World.cell?_alloc_at _ _ _ _ z2.symm
  generalize B.alloc (.cells c t) = C at *
  have h4 := below_new C (.cells d u)
  have z4 : (C.alloc (.cells d u)).heap.size = w.heap.size + 4 := by rw [World.size_alloc, z3]
  generalize C.alloc (.cells d u) = D at *
  refine ⟨((h1.trans (h2.mono (by omega))).trans (h3.mono (by omega))).trans (h4.mono (by omega)), fun i => ?_, fun i => ?_, fun i => ?_, z4⟩
  · rw [h4.cell (p := ⟨w.heap.size, i, none⟩) (show w.heap.size < C.heap.size by omega), h3.cell (p := ⟨w.heap.size, i, none⟩) (show w.heap.size < B.heap.size by omega), h2.cell (p := ⟨w.heap.size, i, none⟩) (show w.heap.size < A.heap.size by omega)]; exact n1 i
  · rw [h4.cell (p := ⟨w.heap.size + 1, i, none⟩) (show w.heap.size + 1 < C.heap.size by omega), h3.cell (p := ⟨w.heap.size + 1, i, none⟩) (show w.heap.size + 1 < B.heap.size by omega)]; exact n2 i
  · rw [h4.cell (p := ⟨w.heap.size + 1 + 1, i, none⟩) (show w.heap.size + 1 + 1 < C.heap.size by omega)]; exact n3 i
set_option maxHeartbeats 1600000 in
theorem rweights_in (k : Nat) (hk : k ≤ 3) (w : World) : Calls Try.prog 13 #[.int .i64 (k : Int)] w (WtPost w k) := by
  obtain rfl | rfl | rfl | rfl : k = 0 ∨ k = 1 ∨ k = 2 ∨ k = 3 := by omega
  · change Calls Try.prog 13 #[.int .i64 0] w _
    go_enter Try.func13, Try.ntmps13
    go_wp2_with fail
    go_ret
    exact wtpost0 (al4 w _ _ _ _ _ _).1
  · change Calls Try.prog 13 #[.int .i64 1] w _
    go_enter Try.func13, Try.ntmps13
    go_wp2_with fail
    go_ret
    obtain ⟨h0, h1, h2, h3, h4⟩ := al4 w #[.int .i64 15] #[.int .i64 24, .int .i64 (-9)] #[.int .i64 30, .int .i64 (-21), .int .i64 5] #[.slice none 0 0, .slice (some ⟨w.heap.size, 0, none⟩) 1 1, .slice (some ⟨w.heap.size + 1, 0, none⟩) 2 2, .slice (some ⟨w.heap.size + 1 + 1, 0, none⟩) 3 3] 3 26
    exact wtpost (g := w.heap.size) (fun i hi => by rw [h1 i]; rcases i with _ | _ | _ | i <;> first | rfl | omega) (by omega) (by omega) (by decide) h0
  · change Calls Try.prog 13 #[.int .i64 2] w _
    go_enter Try.func13, Try.ntmps13
    go_wp2_with fail
    go_ret
    obtain ⟨h0, h1, h2, h3, h4⟩ := al4 w #[.int .i64 15] #[.int .i64 24, .int .i64 (-9)] #[.int .i64 30, .int .i64 (-21), .int .i64 5] #[.slice none 0 0, .slice (some ⟨w.heap.size, 0, none⟩) 1 1, .slice (some ⟨w.heap.size + 1, 0, none⟩) 2 2, .slice (some ⟨w.heap.size + 1 + 1, 0, none⟩) 3 3] 3 26
    exact wtpost (g := w.heap.size + 1) (fun i hi => by rw [h2 i]; rcases i with _ | _ | _ | i <;> first | rfl | omega) (by omega) (by omega) (by decide) h0
  · change Calls Try.prog 13 #[.int .i64 3] w _
    go_enter Try.func13, Try.ntmps13
    go_wp2_with fail
    go_ret
    obtain ⟨h0, h1, h2, h3, h4⟩ := al4 w #[.int .i64 15] #[.int .i64 24, .int .i64 (-9)] #[.int .i64 30, .int .i64 (-21), .int .i64 5] #[.slice none 0 0, .slice (some ⟨w.heap.size, 0, none⟩) 1 1, .slice (some ⟨w.heap.size + 1, 0, none⟩) 2 2, .slice (some ⟨w.heap.size + 1 + 1, 0, none⟩) 3 3] 3 26
    exact wtpost (g := w.heap.size + 1 + 1) (fun i hi => by rw [h3 i]; rcases i with _ | _ | _ | i <;> first | rfl | omega) (by omega) (by omega) (by decide) h0
theorem rweights_out (x : Int) (hx : x < 0 ∨ 3 < x) (w : World) : Calls Try.prog 13 #[.int .i64 x] w fun e w' => e = .returned (.slice none 0 0) ∧ Below w.heap.size w w' := by
  rcases hx with h | h
  · go_enter Try.func13, Try.ntmps13
    go_wp2_with fail
    go_ret
    exact ⟨rfl, (al4 w _ _ _ _ _ _).1⟩
  · have h' : ¬ x < 0 := by omega
    go_enter Try.func13, Try.ntmps13
    go_wp2_with fail
    go_ret
    exact ⟨rfl, (al4 w _ _ _ _ _ _).1⟩
end Go.Proofs.Ytpgdllphnmimlaa.Shape
