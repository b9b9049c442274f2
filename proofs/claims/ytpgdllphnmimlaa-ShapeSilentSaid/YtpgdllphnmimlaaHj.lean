/- The document's target. Conditions: the misses lie in memory; there is such a kind; no miss is further than 2^26 from 0. -/
import Derived.Test.YtpgdllphnmimlaaHi
namespace Go.Proofs.Ytpgdllphnmimlaa.Shape
open Go.RowKit Gen

/-- The misses, the last one first, and noughts behind them. -/
def ms (U : Nat → Int) (n j : Nat) : Int := if j < n then U (n - 1 - j) else 0
theorem ms_in {U : Nat → Int} {n j : Nat} (h : j < n) : ms U n j = U (n - 1 - j) := if_pos h
theorem ms_out {U : Nat → Int} {n j : Nat} (h : ¬ j < n) : ms U n j = 0 := if_neg h
theorem wt_out {k j : Nat} (hk : k ≤ 3) (h : k ≤ j) : wt k j = 0 := by
  obtain rfl | rfl | rfl | rfl : k = 0 ∨ k = 1 ∨ k = 2 ∨ k = 3 := by omega
  · rfl
  · obtain ⟨i, rfl⟩ : ∃ i, j = i + 1 := ⟨j - 1, by omega⟩; rfl
  · obtain ⟨i, rfl⟩ : ∃ i, j = i + 2 := ⟨j - 2, by omega⟩; rfl
  · obtain ⟨i, rfl⟩ : ∃ i, j = i + 3 := ⟨j - 3, by omega⟩; rfl
theorem ps_stop {a m : Nat → Int} {j : Nat} (h : ∀ i, j ≤ i → a i * m i = 0) : ∀ d, ps a m (j + d) = ps a m j
  | 0 => rfl
  | d + 1 => by
    have e : ps a m (j + (d + 1)) = ps a m (j + d) + a (j + d) * m (j + d) := rfl
    rw [e, h (j + d) (by omega), ps_stop h d, Int.add_zero]
theorem ps_end {U : Nat → Int} {n k j : Nat} (hk : k ≤ 3) (hj : j ≤ 3) (h : k ≤ j ∨ n ≤ j) : ps (wt k) (ms U n) j = ps (wt k) (ms U n) 3 := by
  have := ps_stop (a := wt k) (m := ms U n) (j := j) (fun i hi => by
    rcases h with h | h
    · rw [wt_out hk (by omega), Int.zero_mul]
    · rw [ms_out (by omega), Int.mul_zero]) (3 - j)
  rw [show j + (3 - j) = 3 by omega] at this
  exact this.symm
def RtPost (w : World) (T : Int) (e : Ending) (w' : World) : Prop := e = .returned (.int .i64 T) ∧ Below w.heap.size w w'
set_option maxHeartbeats 1600000 in
theorem rtarget_any (w : World) (k : Nat) (hk : k ≤ 3) (a : Option Addr) (n cap b off : Nat) (U : Nat → Int) (h : Isb w a n b off U) (hm : lowM (ms U n)) (x : Int) :
    Calls Try.prog 14 #[.int .i64 (k : Int), .slice a n cap, .int .i64 x] w (RtPost w (tg k (ms U n) x)) := by
  have hlx := ld_in x
  have HW := hid fun w => rweights_in k hk w
  have HL := hid fun w => loud_any x w
  have HPL := hid (ps_low (wt_low k hk) hm)
  have HML := hid fun j hj => mul_low (wt_low k hk j hj) (hm j hj)
  have htg : tg k (ms U n) x = ld x - ps (wt k) (ms U n) 3 / 16 := rfl
  have HTG := hid htg
  have HEND := hid fun j hj hh => ps_end (U := U) (n := n) (k := k) (j := j) hk hj hh
  have HMS := hid fun j (hj : j < n) => ms_in (U := U) hj
  have H := hid h
  have hln := h.hl
  clear h hm htg
  generalize ms U n = m at *
  generalize tg k m x = T at *
  generalize ld x = X at *
  go_enter Try.func14, Try.ntmps14
  go_wp2_with fail
  refine (HW.out _).mono ?_
  rintro e w1 ⟨a', g, rfl, hi, hg, hb1⟩
  have HI := hid hi
  have HB := hid hb1
  have H1 := hid (H.out.below hb1 H.out.lt)
  clear hi hg hb1 HW
  generalize wt k = A at *
  go_wp2_with fail
  go_loopg [8, 9] 3 (fun gh s i wr => ∃ j : Nat, j ≤ k ∧ gh = 3 - j ∧ i = .int .i64 j ∧ s = .int .i64 (ps A m j) ∧ Fr (fun _ => False) w1 wr)
  case atStart => exact ⟨0, Nat.zero_le _, rfl, rfl, rfl, Fr.refl _ _⟩
  case round =>
    obtain ⟨j, hj, hgh, rfl, rfl, hf⟩ := hrel
    have HG := hid hgh
    clear hgh
    by_cases h1 : j < k
    · have h1' : (j : Int) < (k : Int) := by omega
      by_cases h2 : j < n
      · have h2' : (j : Int) < (n : Int) := by omega
        obtain rfl := HI.out.addr (by omega)
        obtain rfl := H1.out.addr (by omega)
        have ck := (HI.out.fr hf).c j h1
        rw [Nat.zero_add] at ck
        have cm := (H1.out.fr hf).c (n - 1 - j) (by omega)
        rw [← HMS.out j h2] at cm
        have b1 := HPL.out j (by omega)
        have b2 := HML.out j (by omega)
        go_wp2_with fail
        go_quiet (fail)
        have hf2 : Fr (fun _ => False) w1 (wr.drewN nq) := ⟨hf.os, hf.tape, hf.output, hf.size, hf.block⟩
        clear ck cm hf
        go_wp2_with fail
        go_roundg (3 - (j + 1))
        case measure => rw [HG.out]; omega
        case rel => exact ⟨j + 1, by omega, rfl, by go_num, rfl, hf2⟩
      · have h2' : ¬ (j : Int) < (n : Int) := by omega
        have he := HEND.out j (by omega) (by omega)
        have HE := hid he
        clear he
        have hb3 := HPL.out j (by omega)
        go_wp2_with fail
        refine (HL.out _).mono ?_
        rintro e w' ⟨rfl, rfl⟩
        go_wp2_with fail
        refine (rfloor_any _ (by omega) _).mono ?_
        rintro e w' ⟨rfl, rfl⟩
        have hq : -1099511627776 ≤ ps A m j / 16 ∧ ps A m j / 16 ≤ 1099511627776 := by omega
        go_wp2_with fail
        go_ret
        rw [HTG.out, ← HE.out]
        exact ⟨rfl, HB.out.trans ((Below.mk hf.os hf.tape hf.output hf.size fun k hk => hf.block k hk fun x => x : Below w1.heap.size w1 wr).mono HB.out.size)⟩
    · have h1' : ¬ (j : Int) < (k : Int) := by omega
      have he := HEND.out j (by omega) (by omega)
      have HE := hid he
      clear he
      have hb3 := HPL.out j (by omega)
      go_wp2_with fail
      refine (HL.out _).mono ?_
      rintro e w' ⟨rfl, rfl⟩
      go_wp2_with fail
      refine (rfloor_any _ (by omega) _).mono ?_
      rintro e w' ⟨rfl, rfl⟩
      have hq : -1099511627776 ≤ ps A m j / 16 ∧ ps A m j / 16 ≤ 1099511627776 := by omega
      go_wp2_with fail
      go_ret
      rw [HTG.out, ← HE.out]
      exact ⟨rfl, HB.out.trans ((Below.mk hf.os hf.tape hf.output hf.size fun k hk => hf.block k hk fun x => x : Below w1.heap.size w1 wr).mono HB.out.size)⟩
end Go.Proofs.Ytpgdllphnmimlaa.Shape
