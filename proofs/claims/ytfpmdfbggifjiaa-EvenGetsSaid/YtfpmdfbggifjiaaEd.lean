/- Even's Centre and Off; EvenNil's and EvenCentres' walks. Conditions: those of the memory's own form alone. -/
import Derived.Test.YtfpmdfbggifjiaaEc
namespace Go.Proofs.Ytfpmdfbggifjiaa.Even
open Go.RowKit Bit Rice

def okb (b : Int) : Prop := 0 ≤ b ∧ b ≤ 274877906944
instance (b : Int) : Decidable (okb b) := by unfold okb; infer_instance
theorem isbound (b : Int) (w : World) : Calls Try.prog 45 #[.int .i64 b] w fun e w' => e = .returned (.bool (decide (okb b))) ∧ w = w' := by
  by_cases h0 : 0 ≤ b
  · by_cases h1 : b ≤ 274877906944
    · rw [decide_eq_true (show okb b from ⟨h0, h1⟩)]
      go_enter Try.func45, Try.ntmps45
      go_wp2
      go_ret
      exact ⟨by simp, rfl⟩
    · rw [decide_eq_false (fun h : okb b => h1 h.2)]
      go_enter Try.func45, Try.ntmps45
      go_wp2
      go_ret
      exact ⟨by simp, rfl⟩
  · rw [decide_eq_false (fun h : okb b => h0 h.1)]
    go_enter Try.func45, Try.ntmps45
    go_wp2
    go_ret
    exact ⟨by simp, rfl⟩

theorem centre_bad (x b : Int) (hb : ¬ okb b) (w : World) : Calls Try.prog 29 #[.int .i64 x, .int .i64 b] w fun e w' => e = .returned (.tuple #[.int .u64 0, .int .i64 1]) ∧ w = w' := by
  go_enter Try.func29, Try.ntmps29
  go_wp2_with fail
  refine (isbound b w).mono ?_
  rintro e w' ⟨rfl, rfl⟩
  rw [decide_eq_false hb]
  go_wp2_with fail
  go_ret2
  exact ⟨rfl, rfl⟩
theorem centre_out (x b : Int) (hb : okb b) (hx : x < -b ∨ b < x) (w : World) : Calls Try.prog 29 #[.int .i64 x, .int .i64 b] w fun e w' => e = .returned (.tuple #[.int .u64 0, .int .i64 3]) ∧ w = w' := by
  have h0 := hb.1; have h1 := hb.2
  by_cases g : x < -b
  · go_enter Try.func29, Try.ntmps29
    go_wp2_with fail
    refine (isbound b w).mono ?_
    rintro e w' ⟨rfl, rfl⟩
    rw [decide_eq_true hb]
    clear hx
    go_wp2_with fail
    go_ret2
    exact ⟨rfl, rfl⟩
  · have g2 : b < x := by omega
    go_enter Try.func29, Try.ntmps29
    go_wp2_with fail
    refine (isbound b w).mono ?_
    rintro e w' ⟨rfl, rfl⟩
    rw [decide_eq_true hb]
    clear hx
    go_wp2_with fail
    go_ret2
    exact ⟨rfl, rfl⟩
theorem centre_in (xi x b : Int) (hxi : xi = x) (hb : okb b) (hx : ¬ x < -b) (hy : ¬ b < x) (w : World) : Calls Try.prog 29 #[.int .i64 xi, .int .i64 b] w fun e w' => e = .returned (.tuple #[.int .u64 (x + b), .int .i64 0]) ∧ w = w' := by
  subst hxi
  have h0 := hb.1; have h1 := hb.2
  go_enter Try.func29, Try.ntmps29
  go_wp2_with fail
  refine (isbound b w).mono ?_
  rintro e w' ⟨rfl, rfl⟩
  rw [decide_eq_true hb]
  go_wp2_with fail
  go_ret2
  exact ⟨rfl, rfl⟩
theorem off_bad (v b : Int) (hb : ¬ okb b) (w : World) : Calls Try.prog 30 #[.int .u64 v, .int .i64 b] w fun e w' => e = .returned (.tuple #[.int .i64 0, .int .i64 1]) ∧ w = w' := by
  go_enter Try.func30, Try.ntmps30
  go_wp2_with fail
  refine (isbound b w).mono ?_
  rintro e w' ⟨rfl, rfl⟩
  rw [decide_eq_false hb]
  go_wp2_with fail
  go_ret2
  exact ⟨rfl, rfl⟩
theorem off_out (v b : Int) (hb : okb b) (hv : 2 * b < v) (w : World) : Calls Try.prog 30 #[.int .u64 v, .int .i64 b] w fun e w' => e = .returned (.tuple #[.int .i64 0, .int .i64 3]) ∧ w = w' := by
  have h0 := hb.1; have h1 := hb.2
  go_enter Try.func30, Try.ntmps30
  go_wp2_with fail
  refine (isbound b w).mono ?_
  rintro e w' ⟨rfl, rfl⟩
  rw [decide_eq_true hb]
  go_wp2_with fail
  go_ret2
  exact ⟨rfl, rfl⟩
theorem off_in (vi v b : Int) (hvi : vi = v) (hb : okb b) (hv0 : 0 ≤ v) (hv : ¬ 2 * b < v) (w : World) : Calls Try.prog 30 #[.int .u64 vi, .int .i64 b] w fun e w' => e = .returned (.tuple #[.int .i64 (v - b), .int .i64 0]) ∧ w = w' := by
  subst hvi
  have h0 := hb.1; have h1 := hb.2
  go_enter Try.func30, Try.ntmps30
  go_wp2_with fail
  refine (isbound b w).mono ?_
  rintro e w' ⟨rfl, rfl⟩
  rw [decide_eq_true hb]
  go_wp2_with fail
  go_ret2
  exact ⟨rfl, rfl⟩

set_option maxHeartbeats 800000 in
theorem centres_walk (w : World) (x v b : Int) (hv0 : 0 ≤ v) : Calls Try.prog 7 #[.int .i64 x, .int .u64 v, .int .i64 b] w fun e w' => e = .returned (.bool true) ∧ Below w.heap.size w w' := by
  by_cases hb : okb b
  · have h0 := hb.1; have h1 := hb.2
    have g0 : ¬ b < 0 := by omega
    have g1 : ¬ 274877906944 < b := by omega
    by_cases hv : 2 * b < v
    · have g2 : b + b < v := by omega
      by_cases hx : x < -b ∨ b < x
      · by_cases hx1 : x < -b
        · have HX := hid hx
          clear hx
          go_enter Try.func7, Try.ntmps7
          go_wp2_with fail
          refine (centre_out x b hb HX.out w).mono ?_
          rintro e w' ⟨rfl, rfl⟩
          go_wp2_with fail
          refine (off_out v b hb hv w).mono ?_
          rintro e w' ⟨rfl, rfl⟩
          go_wp2_with fail
          refine (known_true _).mono ?_
          rintro e w' ⟨rfl, hfin⟩
          go_wp2_with fail
          go_ret
          exact ⟨rfl, hfin⟩
        · have hx2 : b < x := by omega
          have HX := hid hx
          clear hx
          go_enter Try.func7, Try.ntmps7
          go_wp2_with fail
          refine (centre_out x b hb HX.out w).mono ?_
          rintro e w' ⟨rfl, rfl⟩
          go_wp2_with fail
          refine (off_out v b hb hv w).mono ?_
          rintro e w' ⟨rfl, rfl⟩
          go_wp2_with fail
          refine (known_true _).mono ?_
          rintro e w' ⟨rfl, hfin⟩
          go_wp2_with fail
          go_ret
          exact ⟨rfl, hfin⟩
      · have hx1 : ¬ x < -b := fun h => hx (.inl h)
        have hx2 : ¬ b < x := fun h => hx (.inr h)
        clear hx
        go_enter Try.func7, Try.ntmps7
        go_wp2_with fail
        refine (centre_in x x b rfl hb (by omega) (by omega) w).mono ?_
        rintro e w' ⟨rfl, rfl⟩
        go_wp2_with fail
        refine (off_out v b hb hv w).mono ?_
        rintro e w' ⟨rfl, rfl⟩
        go_wp2_with fail
        refine (off_in _ (x + b) b rfl hb (by omega) (by omega) w).mono ?_
        rintro e w' ⟨rfl, rfl⟩
        rw [show x + b - b = x from by omega]
        go_wp2_with fail
        refine (known_true _).mono ?_
        rintro e w' ⟨rfl, hfin⟩
        go_wp2_with fail
        go_ret
        exact ⟨rfl, hfin⟩
    · have g2 : ¬ b + b < v := by omega
      by_cases hx : x < -b ∨ b < x
      · by_cases hx1 : x < -b
        · have HX := hid hx
          clear hx
          go_enter Try.func7, Try.ntmps7
          go_wp2_with fail
          refine (centre_out x b hb HX.out w).mono ?_
          rintro e w' ⟨rfl, rfl⟩
          go_wp2_with fail
          refine (off_in v v b rfl hb hv0 (by omega) w).mono ?_
          rintro e w' ⟨rfl, rfl⟩
          go_wp2_with fail
          refine (centre_in _ (v - b) b rfl hb (by omega) (by omega) w).mono ?_
          rintro e w' ⟨rfl, rfl⟩
          rw [show v - b + b = v from by omega]
          go_wp2_with fail
          refine (known_true _).mono ?_
          rintro e w' ⟨rfl, hfin⟩
          go_wp2_with fail
          go_ret
          exact ⟨rfl, hfin⟩
        · have hx2 : b < x := by omega
          have HX := hid hx
          clear hx
          go_enter Try.func7, Try.ntmps7
          go_wp2_with fail
          refine (centre_out x b hb HX.out w).mono ?_
          rintro e w' ⟨rfl, rfl⟩
          go_wp2_with fail
          refine (off_in v v b rfl hb hv0 (by omega) w).mono ?_
          rintro e w' ⟨rfl, rfl⟩
          go_wp2_with fail
          refine (centre_in _ (v - b) b rfl hb (by omega) (by omega) w).mono ?_
          rintro e w' ⟨rfl, rfl⟩
          rw [show v - b + b = v from by omega]
          go_wp2_with fail
          refine (known_true _).mono ?_
          rintro e w' ⟨rfl, hfin⟩
          go_wp2_with fail
          go_ret
          exact ⟨rfl, hfin⟩
      · have hx1 : ¬ x < -b := fun h => hx (.inl h)
        have hx2 : ¬ b < x := fun h => hx (.inr h)
        clear hx
        go_enter Try.func7, Try.ntmps7
        go_wp2_with fail
        refine (centre_in x x b rfl hb (by omega) (by omega) w).mono ?_
        rintro e w' ⟨rfl, rfl⟩
        go_wp2_with fail
        refine (off_in v v b rfl hb hv0 (by omega) w).mono ?_
        rintro e w' ⟨rfl, rfl⟩
        go_wp2_with fail
        refine (off_in _ (x + b) b rfl hb (by omega) (by omega) w).mono ?_
        rintro e w' ⟨rfl, rfl⟩
        rw [show x + b - b = x from by omega]
        go_wp2_with fail
        refine (centre_in _ (v - b) b rfl hb (by omega) (by omega) w).mono ?_
        rintro e w' ⟨rfl, rfl⟩
        rw [show v - b + b = v from by omega]
        go_wp2_with fail
        refine (known_true _).mono ?_
        rintro e w' ⟨rfl, hfin⟩
        go_wp2_with fail
        go_ret
        exact ⟨rfl, hfin⟩
  · by_cases h0 : b < 0
    · go_enter Try.func7, Try.ntmps7
      go_wp2_with fail
      refine (centre_bad x b hb w).mono ?_
      rintro e w' ⟨rfl, rfl⟩
      go_wp2_with fail
      refine (off_bad v b hb w).mono ?_
      rintro e w' ⟨rfl, rfl⟩
      go_wp2_with fail
      refine (known_true _).mono ?_
      rintro e w' ⟨rfl, hfin⟩
      go_wp2_with fail
      go_ret
      exact ⟨rfl, hfin⟩
    · have h1 : 274877906944 < b := by unfold okb at hb; omega
      go_enter Try.func7, Try.ntmps7
      go_wp2_with fail
      refine (centre_bad x b hb w).mono ?_
      rintro e w' ⟨rfl, rfl⟩
      go_wp2_with fail
      refine (off_bad v b hb w).mono ?_
      rintro e w' ⟨rfl, rfl⟩
      go_wp2_with fail
      refine (known_true _).mono ?_
      rintro e w' ⟨rfl, hfin⟩
      go_wp2_with fail
      go_ret
      exact ⟨rfl, hfin⟩

theorem egetall_nil (c n : Int) (w : World) : Calls Try.prog 24 #[.pointer none, .int .i64 c, .int .u64 n] w fun e w' => e = .returned (.tuple #[.slice none 0 0, .int .i64 2]) ∧ w = w' := by
  go_enter Try.func24, Try.ntmps24
  go_wp2_with fail
  go_ret2
  exact ⟨rfl, rfl⟩
theorem nil_walk (w : World) (v n c : Int) : Calls Try.prog 8 #[.int .u64 v, .int .u64 n, .int .i64 c] w fun e w' => e = .returned (.bool true) ∧ Below w.heap.size w w' := by
  go_enter Try.func8, Try.ntmps8
  go_wp2_with fail
  refine (eget_nil n w).mono ?_
  rintro e w' ⟨rfl, rfl⟩
  go_wp2_with fail
  refine (egetall_nil c n w).mono ?_
  rintro e w' ⟨rfl, rfl⟩
  go_wp2_with fail
  refine (eput_nil v n w).mono ?_
  rintro e w1 ⟨rfl, hb1⟩
  have hb2 := hb1.alloc hb1.size (.cells #[.int .u64 v] 23)
  go_wp2_with fail
  refine (putall_nil _ n _).mono ?_
  rintro e w3 ⟨rfl, hb3⟩
  have hb4 := hb2.trans (hb3.mono hb2.size)
  clear hb3 hb1 hb2
  go_wp2_with fail
  refine (known_true _).mono ?_
  rintro e w5 ⟨rfl, hb5⟩
  have hfin := hb4.trans (hb5.mono hb4.size)
  clear hb5 hb4
  go_wp2_with fail
  go_ret
  exact ⟨rfl, hfin⟩
end Go.Proofs.Ytfpmdfbggifjiaa.Even
