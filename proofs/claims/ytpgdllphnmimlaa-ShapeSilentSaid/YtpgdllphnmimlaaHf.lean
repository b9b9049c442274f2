/- The statements' fixed calls; ShapeNil's walk. No condition. -/
import Derived.Test.YtpgdllphnmimlaaHe
namespace Go.Proofs.Ytpgdllphnmimlaa.Shape
open Go.RowKit Gen

theorem low0 : lowM (fun _ => 0) := fun _ _ => by show (_ : Int) ≤ 0 ∧ (0 : Int) ≤ _; omega
theorem bel_fr {q : Nat} {w w1 w2 : World} (h : Below w.heap.size w w1) (hf : Fr (fun b => b = q) w1 w2) (hq : w.heap.size ≤ q) : Below w.heap.size w w2 :=
  ⟨hf.os.trans h.os, hf.tape.trans h.tape, hf.output.trans h.output, Nat.le_trans h.size hf.size, fun k hk => (hf.block k (Nat.lt_of_lt_of_le hk h.size) (by omega)).trans (h.block k hk)⟩
theorem low_nx {m : Nat → Int} {u : Int} (h : lowM m) (hu : -67108864 ≤ u ∧ u ≤ 67108864) : lowM (nx m u) := by
  intro j hj
  cases j with
  | zero => exact hu
  | succ j => exact h j (by omega)
theorem known_true (w : World) : Calls Try.prog 10 #[] w fun e w' => e = .returned (.bool true) ∧ Below w.heap.size w w' := by
  have HN := hid (show Calls Try.prog 8 #[.int .i64 1] w (NewPost w 1) from new_any 1 (by decide) w)
  have HT := hid fun (w : World) q (h : Shp w q 1 (fun _ => 0) 0) => (show Calls Try.prog 15 #[.pointer (some ⟨q, 0, none⟩), .int .i64 100] w (TgPost w q 1 (fun _ => 0) 100) from target_any h (by decide) low0 100)
  have e1 : tg 1 (fun _ => 0) 100 = 100 := by decide
  have HO := hid fun (w : World) q (h : Shp w q 1 (fun _ => 0) 100) => (show Calls Try.prog 16 #[.pointer (some ⟨q, 0, none⟩), .int .i64 116] w (NtPost w q 1 (fun _ => 0) 100 116) from note_any h (by decide) 116)
  have hl : lowM (nx (fun _ => 0) (mis 116 100)) := low_nx low0 (mis_in _ _)
  have HT2 := hid fun (w : World) q (h : Shp w q 1 (nx (fun _ => 0) (mis 116 100)) 100) => (show Calls Try.prog 15 #[.pointer (some ⟨q, 0, none⟩), .int .i64 100] w (TgPost w q 1 (nx (fun _ => 0) (mis 116 100)) 100) from target_any h (by decide) hl 100)
  have e2 : tg 1 (nx (fun _ => 0) (mis 116 100)) 100 = 85 := by decide
  have HK := hid fun (w : World) q (h : Shp w q 1 (nx (fun _ => 0) (mis 116 100)) 85) => (show Calls Try.prog 11 #[.pointer (some ⟨q, 0, none⟩)] w _ from kind_any h)
  unfold TgPost at HT HT2
  unfold NtPost at HO
  rw [e1] at HT
  rw [e2] at HT2
  clear hl e1 e2
  generalize nx (fun _ => 0) (mis 116 100) = M at *
  go_enter Try.func10, Try.ntmps10
  go_wp2_with fail
  refine HN.out.mono ?_
  rintro e w1 ⟨q, rfl, hs1, hq, hb1⟩
  have H1 := hid hs1
  have HB1 := hid hb1
  have HQ := hid hq
  clear hs1 hb1 hq
  go_wp2_with fail
  refine (HT.out _ _ H1.out).mono ?_
  rintro e w2 ⟨rfl, hs2, hf2⟩
  have H2 := hid hs2
  have HF2 := hid hf2
  clear hs2 hf2
  go_wp2_with fail
  refine (HO.out _ _ H2.out).mono ?_
  rintro e w3 ⟨rfl, hs3, hf3⟩
  have H3 := hid hs3
  have HF3 := hid hf3
  clear hs3 hf3
  go_wp2_with fail
  refine (HT2.out _ _ H3.out).mono ?_
  rintro e w4 ⟨rfl, hs4, hf4⟩
  have H4 := hid hs4
  have HF4 := hid hf4
  clear hs4 hf4
  go_wp2_with fail
  refine (HK.out _ _ H4.out).mono ?_
  rintro e w5 ⟨rfl, rfl⟩
  go_wp2_with fail
  go_ret
  exact ⟨rfl, bel_fr (bel_fr (bel_fr HB1.out HF2.out HQ.out) HF3.out HQ.out) HF4.out HQ.out⟩
theorem nil_walk (w : World) (x : Int) : Calls Try.prog 7 #[.int .i64 x] w fun e w' => e = .returned (.bool true) ∧ Below w.heap.size w w' := by
  go_enter Try.func7, Try.ntmps7
  go_wp2_with fail
  refine (note_nil x _).mono ?_
  rintro e w' ⟨rfl, rfl⟩
  go_wp2_with fail
  refine (target_nil x _).mono ?_
  rintro e w' ⟨rfl, rfl⟩
  go_wp2_with fail
  refine (kind_nil _).mono ?_
  rintro e w' ⟨rfl, rfl⟩
  go_wp2_with fail
  refine (known_true _).mono ?_
  rintro e w' ⟨rfl, hfin⟩
  go_wp2_with fail
  go_ret
  exact ⟨rfl, hfin⟩
end Go.Proofs.Ytpgdllphnmimlaa.Shape
