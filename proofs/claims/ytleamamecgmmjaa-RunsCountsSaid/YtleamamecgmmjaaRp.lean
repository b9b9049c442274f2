/- RunsCounts' walk. Conditions: those of the memory's own form alone. -/
import Derived.Test.YtleamamecgmmjaaRo
namespace Go.Proofs.Ytleamamecgmmjaa.Runs
open Go.RowKit Bit Rice

theorem rn_noughts : ∀ m, rn (fun _ => 0) m = m
  | 0 => rfl
  | m + 1 => by show (if (0 : Int) = 0 then rn (fun _ => 0) m + 1 else 0) = m + 1; rw [if_pos rfl, rn_noughts m]
theorem rcs_noughts (k : Int) : ∀ m, rcs (fun _ => 0) k m = 0
  | 0 => rfl
  | m + 1 => by show (if (0 : Int) = 0 then rcs (fun _ => 0) k m else _) = 0; rw [if_pos rfl, rcs_noughts k m]
theorem cst_noughts (m : Nat) (hm : m ≤ 511) : cstI (fun _ => 0) 3 m ≤ 2 * Lib.bitLen (m + 1) + 1 := by
  have hz : allZ (fun _ => 0) m := fun i _ => by show coded (zg 0); decide
  unfold cstI
  rw [if_pos ⟨⟨by decide, by decide⟩, hz⟩, cst_rcs, rn_noughts, rcs_noughts]
  split
  · have := gl_ok (v := m + 1) ⟨by omega, by omega⟩
    omega
  · exact Nat.zero_le _

set_option maxHeartbeats 1600000 in
set_option maxRecDepth 100000 in
theorem counts_walk (w : World) (a : Option Addr) (len cap b off : Nat) (I : Nat → Int) (h : Is w a len cap b off I) (n : Int) :
    Calls Try.prog 8 #[.slice a len cap, .int .i64 n] w fun e w' => e = .returned (.bool true) ∧ Below w.heap.size w w' := by
  by_cases h2 : 200 < len
  · have h1 : (200 : Int) < (len : Int) := by omega
    go_enter Try.func8, Try.ntmps8
    go_wp2_with fail
    refine (known_true _).mono ?_
    rintro e w' ⟨rfl, hb⟩
    go_wp2_with fail
    go_ret
    exact ⟨rfl, hb⟩
  · have h1 : ¬ (200 : Int) < (len : Int) := by omega
    have HR1 := hid fun w' (hb : Below w.heap.size w w') => runs_any w' a len cap b off I (h.below hb h.lt) (by omega)
    have HR2 := hid fun w' (hb : Below w.heap.size w w') => rruns_any w' a len cap b off I (h.below hb h.lt) (by omega)
    have hrr := rr_in I len (by omega)
    have hrl := rr_len I len
    have hrn := rn_le I len
    have hin : ∀ x ∈ rr I len ++ [(rn I len : Int)], -9223372036854775808 ≤ x ∧ x ≤ 9223372036854775807 := fun x hx => by
      rcases List.mem_append.1 hx with e | e
      · exact hrr x e
      · obtain rfl := List.mem_singleton.1 e
        omega
    have hand := and511 n
    obtain ⟨m, hm⟩ : ∃ m : Nat, n % 512 = (m : Int) := ⟨(n % 512).toNat, by omega⟩
    have hm5 : m ≤ 511 := by omega
    rw [hm] at hand
    clear h hm hrr hrl hrn
    generalize rr I len ++ [(rn I len : Int)] = l at *
    go_enter Try.func8, Try.ntmps8
    go_wp2_with fail
    refine Calls.mono (HR1.out _ (Below.refl _ _)) ?_
    rintro e w1 ⟨lo1, lcap1, rfl, il1, b1⟩
    go_wp2_with fail
    refine Calls.mono (HR2.out _ b1) ?_
    rintro e w2 ⟨lo2, lcap2, rfl, il2, b2⟩
    have il1' := il1.fr (fr_of_below b2) (fun _ _ x => x)
    obtain ⟨c1, is1⟩ := il1'.is hin
    obtain ⟨c2, is2⟩ := il2.is hin
    have HB2 := hid (b1.trans (b2.mono b1.size))
    clear il1 il1' il2 b1 b2 HR1 HR2
    go_wp2_with fail
    refine (ints_any w2 lo1 lo2 l.length lcap1 lcap2 c1 0 c2 0 _ _ is1 is2 (fun _ _ => rfl)).mono ?_
    rintro e w3 ⟨rfl, f3⟩
    have HB3 := hid (fr_below0 HB2.out f3)
    clear is1 is2 f3 HB2 hin
    have hmb := Lib.bitLen_le (m + 1) 10 (by decide) (by omega)
    go_wp2_with fail
    clear hand
    go_loopg [5, 6] (m + 1) (fun g wd x wr => ∃ (j y : Nat), y ≤ m + 1 ∧ g = y ∧ wd = .int .i64 (j : Int) ∧ x = .int .i64 (y : Int) ∧ Lib.bitLen (m + 1) = j + Lib.bitLen y ∧ w3 = wr)
    case atStart => exact ⟨0, m + 1, Nat.le_refl _, rfl, rfl, by go_num, by omega, rfl⟩
    case round =>
      obtain ⟨j, y, hy, hg, rfl, rfl, hL, rfl⟩ := hrel
      have HG := hid hg
      have HL := hid hL
      clear hg
      by_cases h0 : 0 < y
      · have g0 : (0 : Int) < (y : Int) := by omega
        have hh := Lib.bitLen_half y (by omega) (by omega)
        have HH := hid hh
        have hjb : j ≤ 10 := by omega
        clear hh hL
        go_wp2_with fail
        go_roundg (y / 2)
        case measure => rw [HG.out]; omega
        case rel => exact ⟨j + 1, y / 2, by omega, rfl, by go_num, congrArg (Value.int .i64) (by omega), by rw [HL.out, HH.out]; omega, rfl⟩
      · have g0 : ¬ (0 : Int) < (y : Int) := by omega
        obtain rfl : y = 0 := by omega
        have hjw : Lib.bitLen (m + 1) = j := by rw [HL.out]; rfl
        have hcl := cst_noughts m hm5
        rw [hjw] at hcl hmb
        have hmk : ∀ w, (Instr.makeSlice 29 (.int .i64 (m : Int)) (.int .i64 (m : Int))).run Try.prog w = .ok (.slice (some ⟨w.heap.size, 0, none⟩) m m) (w.alloc (.cells (madeCells #[.int .i64 0] m) 3)) := fun w =>
          run_make_row' (P := Try.prog) 29 3 (.int .i64 0) 8 Try.underlying29 Try.info3 rfl .i64 .i64 m (by omega) (by omega) w
        have hrow := World.rowIs_made w3 (.int .i64 0) m 3
        have hisz : Is (w3.alloc (.cells (madeCells #[.int .i64 0] m) 3)) (some ⟨w3.heap.size, 0, none⟩) m m w3.heap.size 0 (fun _ => 0) :=
          ⟨fun _ => rfl, fun i hi => by rw [Nat.zero_add]; exact hrow.cell hi, fun _ _ => by decide, fun _ => by simp, Nat.le_refl _, by omega⟩
        have HC := hid (rcost_r _ _ m m _ 0 _ hisz (by omega) 3)
        have HB4 := hid (HB3.out.alloc HB3.out.size (.cells (madeCells #[.int .i64 0] m) 3))
        have hcl2 : (cstI (fun _ => 0) 3 m : Int) ≤ 2 * (j : Int) + 1 := by omega
        clear hL hrow hisz hcl hjw HL
        generalize cstI (fun _ => 0) 3 m = ct at *
        go_wp2_with fail
        refine Calls.mono HC.out ?_
        rintro e w5 ⟨rfl, b5⟩
        have HB5 := hid (HB4.out.trans (b5.mono HB4.out.size))
        clear b5 HB4 hmk HC
        go_wp2_with fail
        refine (known_true _).mono ?_
        rintro e w6 ⟨rfl, b6⟩
        have hfin := HB5.out.trans (b6.mono HB5.out.size)
        clear b6
        go_wp2_with fail
        go_ret
        exact ⟨rfl, hfin⟩
end Go.Proofs.Ytleamamecgmmjaa.Runs
