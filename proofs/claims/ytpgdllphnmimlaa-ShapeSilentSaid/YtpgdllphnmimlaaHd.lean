/- Target of the program. Conditions: there is such a kind; no miss is further than 2^26 from 0. -/
import Derived.Test.YtpgdllphnmimlaaHc
namespace Go.Proofs.Ytpgdllphnmimlaa.Shape
open Go.RowKit Gen

/-- The first misses, weighted. -/
def ps (a m : Nat → Int) : Nat → Int
  | 0 => 0
  | j + 1 => ps a m j + a j * m j
/-- A target. -/
def tg (k : Nat) (m : Nat → Int) (x : Int) : Int := ld x - ps (wt k) m 3 / 16
def lowM (m : Nat → Int) : Prop := ∀ j, j < 3 → -67108864 ≤ m j ∧ m j ≤ 67108864
def lowW (a : Nat → Int) : Prop := ∀ j, j < 3 → -30 ≤ a j ∧ a j ≤ 30
theorem wt_low (k : Nat) (hk : k ≤ 3) : lowW (wt k) := by
  intro j hj
  obtain rfl | rfl | rfl | rfl : k = 0 ∨ k = 1 ∨ k = 2 ∨ k = 3 := by omega
  all_goals (obtain rfl | rfl | rfl : j = 0 ∨ j = 1 ∨ j = 2 := by omega) <;> decide
theorem mul_low {a m : Int} (ha : -30 ≤ a ∧ a ≤ 30) (hm : -67108864 ≤ m ∧ m ≤ 67108864) : -2013265920 ≤ a * m ∧ a * m ≤ 2013265920 := by
  have h : (a * m).natAbs ≤ 30 * 67108864 := by
    rw [Int.natAbs_mul]
    exact Nat.mul_le_mul (by omega) (by omega)
  omega
theorem ps_low {a m : Nat → Int} (ha : lowW a) (hm : lowM m) : ∀ j : Nat, j ≤ 3 → -(j : Int) * 2013265920 ≤ ps a m j ∧ ps a m j ≤ (j : Int) * 2013265920
  | 0, _ => ⟨by show _ ≤ (0 : Int); omega, by show (0 : Int) ≤ _; omega⟩
  | j + 1, h => by
    have := ps_low ha hm j (by omega)
    have := mul_low (ha j (by omega)) (hm j (by omega))
    have e : ps a m (j + 1) = ps a m j + a j * m j := rfl
    rw [e]
    generalize a j * m j = z at *
    generalize ps a m j = y at *
    omega
theorem tg_in (k : Nat) (hk : k ≤ 3) {m : Nat → Int} (hm : lowM m) (x : Int) : -1099511627776 ≤ tg k m x ∧ tg k m x ≤ 1099511627776 := by
  have := ps_low (wt_low k hk) hm 3 (by decide)
  have := ld_in x
  unfold tg
  omega
theorem frq {w : World} {q : Nat} (off : Nat) (u : Value) : Fr (fun b => b = q) w (w.setCell ⟨q, off, .none⟩ u) := (Fr.refl (fun b => b = q) _).setCell (p := ⟨q, off, .none⟩) rfl u
def TgPost (w : World) (q k : Nat) (m : Nat → Int) (x : Int) (e : Ending) (w' : World) : Prop := e = .returned (.int .i64 (tg k m x)) ∧ Shp w' q k m (tg k m x) ∧ Fr (fun b => b = q) w w'
theorem target_nil (x : Int) (w : World) : Calls Try.prog 15 #[.pointer none, .int .i64 x] w fun e w' => e = .returned (.int .i64 0) ∧ w = w' := by
  go_enter Try.func15, Try.ntmps15
  go_wp2_with fail
  go_ret
  exact ⟨rfl, rfl⟩
theorem fr_of_below {X : Nat → Prop} {w w' : World} (h : Below w.heap.size w w') : Fr X w w' := ⟨h.os, h.tape, h.output, h.size, fun k hk _ => h.block k hk⟩
theorem target_any {w : World} {q k : Nat} {m : Nat → Int} {t : Int} (h : Shp w q k m t) (hk : k ≤ 3) (hm : lowM m) (x : Int) :
    Calls Try.prog 15 #[.pointer (some ⟨q, 0, none⟩), .int .i64 x] w (TgPost w q k m x) := by
  have hw := wt_low k hk
  have hp := ps_low hw hm
  have hml := fun j hj => mul_low (hw j hj) (hm j hj)
  have hlx := ld_in x
  have htg : tg k m x = ld x - ps (wt k) m 3 / 16 := rfl
  have HW := hid fun w => weights_any k hk k rfl w
  have HL := hid fun w => hold_any x w
  have HPL := hid hp
  have HML := hid hml
  have HTG := hid htg
  have hpost : ∀ e w', TgPost w q k m x e w' = (e = .returned (.int .i64 (tg k m x)) ∧ Shp w' q k m (tg k m x) ∧ Fr (fun b => b = q) w w') := fun _ _ => rfl
  have HPOST := hid hpost
  have c0 := h.c0
  have H := hid h
  clear h hm hp hml hw hpost htg
  unfold wts at HW
  generalize wt k = a at *
  generalize tg k m x = T at *
  generalize ld x = X at *
  have i0 : ∀ w : World, (Instr.index 45 (.agg #[.int .i64 (a 0), .int .i64 (a 1), .int .i64 (a 2)]) (.int .i64 0)).run Try.prog w = .ok (.int .i64 (a 0)) w := fun _ => by kernel_rfl
  have i1 : ∀ w : World, (Instr.index 45 (.agg #[.int .i64 (a 0), .int .i64 (a 1), .int .i64 (a 2)]) (.int .i64 1)).run Try.prog w = .ok (.int .i64 (a 1)) w := fun _ => by kernel_rfl
  have i2 : ∀ w : World, (Instr.index 45 (.agg #[.int .i64 (a 0), .int .i64 (a 1), .int .i64 (a 2)]) (.int .i64 2)).run Try.prog w = .ok (.int .i64 (a 2)) w := fun _ => by kernel_rfl
  go_enter Try.func15, Try.ntmps15
  go_wp2_with fail
  refine (HW.out _).mono ?_
  rintro e w1 ⟨rfl, hb1⟩
  have H1 := hid (H.out.below hb1)
  have HF1 := hid (fr_of_below (X := fun b => b = q) hb1)
  clear hb1 c0
  go_wp2_with fail
  go_loopg [5, 15] 3 (fun g s i wr => ∃ j : Nat, j ≤ 3 ∧ g = 3 - j ∧ i = .int .i64 j ∧ s = .int .i64 (ps a m j) ∧ wr = w1)
  case atStart => exact ⟨0, by decide, rfl, rfl, rfl, rfl⟩
  case round =>
    obtain ⟨j, hj, hg, rfl, rfl, rfl⟩ := hrel
    have HG := hid hg
    clear hg
    match j, hj with
    | 0, _ =>
      have c := H1.out.c1
      have b1 := HPL.out 0 (by decide)
      have b2 := HML.out 0 (by decide)
      go_wp2_with fail
      go_roundg 2
      case measure => rw [HG.out]; omega
      case rel => exact ⟨1, by decide, rfl, rfl, rfl, rfl⟩
    | 1, _ =>
      have c := H1.out.c2
      have b1 := HPL.out 1 (by decide)
      have b2 := HML.out 1 (by decide)
      go_wp2_with fail
      go_roundg 1
      case measure => rw [HG.out]; omega
      case rel => exact ⟨2, by decide, rfl, rfl, rfl, rfl⟩
    | 2, _ =>
      have c := H1.out.c3
      have b1 := HPL.out 2 (by decide)
      have b2 := HML.out 2 (by decide)
      go_wp2_with fail
      go_roundg 0
      case measure => rw [HG.out]; omega
      case rel => exact ⟨3, by decide, rfl, rfl, rfl, rfl⟩
    | 3, _ =>
      have b1 := HPL.out 3 (by decide)
      have c4 := H1.out.c4
      have f4 := H1.out.fz 4
      go_wp2_with fail
      refine (HL.out _).mono ?_
      rintro e w' ⟨rfl, rfl⟩
      go_wp2_with fail
      refine (floor_any _ (by omega) _).mono ?_
      rintro e w' ⟨rfl, rfl⟩
      go_wp2_with fail
      go_ret
      rw [HPOST.out, HTG.out]
      exact ⟨rfl, H1.out.setT _, HF1.out.trans (frq 4 _)⟩
end Go.Proofs.Ytpgdllphnmimlaa.Shape
