/- Even's spans, costs and codes, its Total, Cost, PutAll and Put: what they answer, what the writer has behind them, and that nothing else has turned. Conditions: a list lies in memory as its numbers; the writer has fewer than 2^42 bits. -/
import Derived.Test.YtfpmdfbggifjiaaWd
import Derived.Test.YtfpmdfbggifjiaaKn
namespace Go.Proofs.Ytfpmdfbggifjiaa.Even
open Go.RowKit Bit Rice

theorem bl_bounds : ∀ (x : Nat), x < 18446744073709551616 → x ≠ 0 → 1 ≤ Lib.bitLen x ∧ 2 ^ (Lib.bitLen x - 1) ≤ x ∧ x < 2 ^ Lib.bitLen x := by
  intro x
  induction x using Nat.strongRecOn with
  | ind x ih =>
    intro hx h0
    rw [Lib.bitLen_half x h0 hx]
    by_cases h1 : x / 2 = 0
    · obtain rfl : x = 1 := by omega
      decide
    · obtain ⟨a, b, c⟩ := ih (x / 2) (by omega) (by omega) h1
      refine ⟨by omega, ?_, ?_⟩
      · rw [show 1 + Lib.bitLen (x / 2) - 1 = (Lib.bitLen (x / 2) - 1) + 1 from by omega, Nat.pow_succ]; omega
      · rw [Nat.add_comm, Nat.pow_succ]; omega

/-- A span. -/
def spn (n : Nat) : Prop := 0 < n ∧ n ≤ 1099511627776
instance (n : Nat) : Decidable (spn n) := by unfold spn; infer_instance
def lg (n : Nat) : Nat := Lib.bitLen (n - 1)
/-- How many numbers have a code of one bit less. -/
def sh (n : Nat) : Nat := 2 ^ lg n - n
theorem lg_le {n : Nat} (h : spn n) : lg n ≤ 40 := Lib.bitLen_le (n - 1) 40 (by decide) (by unfold spn at h; omega)
theorem lg_one : lg 1 = 0 := by decide
theorem sh_one : sh 1 = 0 := by decide
theorem lg_pos {n : Nat} (h : spn n) (h1 : n ≠ 1) : 1 ≤ lg n ∧ 2 ^ (lg n - 1) + 1 ≤ n ∧ n ≤ 2 ^ lg n := by
  unfold spn at h
  obtain ⟨a, b, c⟩ := bl_bounds (n - 1) (by omega) (by omega)
  unfold lg
  omega
theorem n_le {n : Nat} (h : spn n) : n ≤ 2 ^ lg n := by
  by_cases h1 : n = 1
  · subst h1; decide
  · exact (lg_pos h h1).2.2
theorem sh_add {n : Nat} (h : spn n) : n + sh n = 2 ^ lg n := by have := n_le h; unfold sh; omega
theorem pow_half {L : Nat} (h : 1 ≤ L) : 2 ^ L = 2 * 2 ^ (L - 1) := by rw [← Nat.pow_succ', show (L - 1).succ = L from by omega]
theorem sh_lt {n : Nat} (h : spn n) (h1 : n ≠ 1) : sh n < n ∧ sh n < 2 ^ (lg n - 1) := by
  obtain ⟨a, b, c⟩ := lg_pos h h1
  have := pow_half a
  have := sh_add h
  omega
theorem short_lt {n v : Nat} (h : spn n) (hv : v < sh n) : n ≠ 1 ∧ v < n ∧ v < 2 ^ (lg n - 1) ∧ 1 ≤ lg n := by
  have h1 : n ≠ 1 := by intro e; subst e; rw [sh_one] at hv; omega
  have := sh_lt h h1
  have := (lg_pos h h1).1
  exact ⟨h1, by omega, by omega, this⟩

def okv (v n : Nat) : Prop := spn n ∧ v < n
instance (v n : Nat) : Decidable (okv v n) := by unfold okv; infer_instance
/-- How many bits a code has, and the code as a number. -/
def ct (v n : Nat) : Nat := if okv v n then (if v < sh n then lg n - 1 else lg n) else 0
def cd (v n : Nat) : Nat := if okv v n then (if v < sh n then v else v + sh n) else 0
theorem ct_le (v n : Nat) : ct v n ≤ 40 := by
  unfold ct
  split
  · rename_i h; have := lg_le h.1; split <;> omega
  · exact Nat.zero_le _
theorem ct_no {v n : Nat} (h : ¬ okv v n) : ct v n = 0 := if_neg h
theorem cd_no {v n : Nat} (h : ¬ okv v n) : cd v n = 0 := if_neg h
theorem ct_short {v n : Nat} (h : spn n) (hv : v < sh n) : ct v n = lg n - 1 ∧ cd v n = v := by
  have ho : okv v n := ⟨h, (short_lt h hv).2.1⟩
  unfold ct cd; rw [if_pos ho, if_pos ho, if_pos hv, if_pos hv]; exact ⟨rfl, rfl⟩
theorem ct_long {v n : Nat} (h : okv v n) (hv : ¬ v < sh n) : ct v n = lg n ∧ cd v n = v + sh n := by
  unfold ct cd; rw [if_pos h, if_pos h, if_neg hv, if_neg hv]; exact ⟨rfl, rfl⟩
theorem cd_lt (v n : Nat) : cd v n < 2 ^ ct v n := by
  by_cases h : okv v n
  · by_cases hv : v < sh n
    · rw [(ct_short h.1 hv).1, (ct_short h.1 hv).2]; exact (short_lt h.1 hv).2.2.1
    · rw [(ct_long h hv).1, (ct_long h hv).2]; have := sh_add h.1; have := h.2; omega
  · rw [ct_no h, cd_no h]; decide

theorem isspan (n : Nat) (w : World) : Calls Try.prog 31 #[.int .u64 (n : Int)] w fun e w' => e = .returned (.bool (decide (spn n))) ∧ w = w' := by
  by_cases h0 : 0 < n
  · by_cases h1 : n ≤ 1099511627776
    · rw [decide_eq_true (show spn n from ⟨h0, h1⟩)]
      go_enter Try.func31, Try.ntmps31
      go_wp2
      go_ret
      exact ⟨by simp; omega, rfl⟩
    · rw [decide_eq_false (fun h : spn n => h1 h.2)]
      go_enter Try.func31, Try.ntmps31
      go_wp2
      go_ret
      exact ⟨by simp; omega, rfl⟩
  · rw [decide_eq_false (fun h : spn n => h0 h.1)]
    go_enter Try.func31, Try.ntmps31
    go_wp2
    go_ret
    exact ⟨by simp, rfl⟩

theorem widthI (xi : Int) (x : Nat) (hxi : xi = x) (hx : x < 18446744073709551616) (w : World) : Calls Try.prog 48 #[.int .u64 xi] w fun e w' => e = .returned (.int .i64 (Lib.bitLen x : Int)) ∧ w = w' := by subst hxi; exact width_any x hx w
theorem rwidthI (xi : Int) (x : Nat) (hxi : xi = x) (hx : x < 18446744073709551616) (w : World) : Calls Try.prog 41 #[.int .u64 xi] w fun e w' => e = .returned (.int .i64 (Lib.bitLen x : Int)) ∧ w = w' := by subst hxi; exact rwidth_any x hx w

theorem shape_num (n : Nat) (h : spn n) : IntKind.u64.wrap (IntKind.u64.wrap (2 ^ lg n) - (n : Int)) = (sh n : Int) := by
  have h1 := n_le h
  have h2 := lg_le h
  have h3 : 2 ^ lg n ≤ 2 ^ 40 := Nat.pow_le_pow_right (by decide) h2
  have e1 : ((2 : Int) ^ lg n) = ((2 ^ lg n : Nat) : Int) := by push_cast; rfl
  unfold sh
  rw [e1]
  generalize 2 ^ lg n = x at *
  rw [IntWalk.u64_in _ ⟨Int.natCast_nonneg _, by omega⟩, IntWalk.u64_in _ (by omega)]
  omega

theorem shape_any (n : Nat) (h : spn n) (w : World) : Calls Try.prog 39 #[.int .u64 (n : Int)] w fun e w' => e = .returned (.tuple #[.int .i64 (lg n : Int), .int .u64 (sh n : Int)]) ∧ ∃ nq, w' = w.drewN nq := by
  have hn := shape_num n h
  have hw := fun xi hxi w => widthI xi (n - 1) hxi (by unfold spn at h; omega) w
  have h0 : 0 < n := h.1
  have h4 : n ≤ 1099511627776 := h.2
  have hl : (lg n : Int) ≤ 63 := by have := lg_le h; omega
  change ∀ xi, xi = ((n - 1 : Nat) : Int) → ∀ w, Calls Try.prog 48 #[.int .u64 xi] w fun e w' => e = .returned (.int .i64 (lg n : Int)) ∧ w = w' at hw
  have HN := hid hn
  have HW := hid hw
  clear hn hw
  generalize lg n = L at *
  go_enter Try.func39, Try.ntmps39
  go_wp2_with fail
  refine (HW.out _ (by omega) _).mono ?_
  rintro e w1 ⟨rfl, rfl⟩
  go_wp2_with fail
  go_quiet (fail)
  go_wp2_with fail
  go_ret2
  exact ⟨congrArg (fun z : Int => Ending.returned (.tuple #[.int .i64 (L : Int), .int .u64 z])) HN.out, _, rfl⟩

/-- A list gone over, number by number, by whatever is handed on. -/
theorem codes_any (n : Nat) (hn : spn n) (kf : FuncId) (cp : Value) (hent : ∀ args w, (callFunc kf args).run Try.prog w = .ok (.enter kf args) w) (St : Nat → World → Prop) (w : World) (a : Option Addr) (len cap b off : Nat) (U : Nat → Nat)
    (hU : ∀ j wr, St j wr → Us wr a len b off U) (hd : ∀ wr nq, St 0 wr → St 0 (wr.drewN nq)) (h0 : St 0 w) (hl : len ≤ 9223372036854775807)
    (hstep : ∀ j wr (x y : Int), j < len → St j wr → okv (U j) n → x = (cd (U j) n : Int) → y = (ct (U j) n : Int) → Calls Try.prog kf #[.int .u64 x, .int .i64 y, cp] wr fun e w' => e = .returned (.tuple #[]) ∧ St (j + 1) w')
    (hskip : ∀ j wr, j < len → St j wr → ¬ okv (U j) n → St (j + 1) wr) :
    Calls Try.prog 34 #[.slice a len cap, .int .u64 (n : Int), .func (.func kf) #[] #[cp]] w fun e w' => e = .returned (.tuple #[]) ∧ St len w' := by
  have HU := hid hU; have HS := hid hstep; have HK := hid hskip; have HD := hid hd
  have HSP := hid hn
  have hsh := fun w => shape_any n hn w
  have hll := lg_le hn
  have hshl : sh n ≤ 1099511627776 := by
    by_cases e : n = 1
    · subst e; decide
    · have := (sh_lt hn e).1; have := hn.2; omega
  clear hU hstep hskip hd
  go_enter Try.func34, Try.ntmps34
  go_wp2_with fail
  refine (isspan n w).mono ?_
  rintro e w' ⟨rfl, rfl⟩
  rw [decide_eq_true hn]
  go_wp2_with fail
  refine (hsh w).mono ?_
  rintro e w' ⟨rfl, nq, rfl⟩
  have hst := HD.out w nq h0
  clear hsh h0
  go_wp2_with fail
  go_loopg [20] len (fun g i wr => ∃ j : Nat, j ≤ len ∧ g = len - j ∧ i = .int .i64 j ∧ St j wr)
  case atStart => exact ⟨0, Nat.zero_le _, rfl, rfl, hst⟩
  case round =>
    obtain ⟨j, hj, hg, rfl, hs⟩ := hrel
    have HG := hid hg
    clear hg hst
    by_cases hlt : j < len
    · have hlt2 : (j : Int) < (len : Int) := by omega
      have hus := HU.out j wr hs
      obtain rfl := hus.addr (by omega)
      have ck := hus.c j hlt
      have hst1 := fun x y => HS.out j wr x y hlt hs
      have hsk := HK.out j wr hlt hs
      have hct := fun (h : U j < sh n) => ct_short hn h
      have hcl := fun (h : okv (U j) n) (h1 : ¬ U j < sh n) => ct_long h h1
      have hsl := fun (h : U j < sh n) => short_lt hn h
      have HST1 := hid hst1; have HSK := hid hsk; have HCT := hid hct; have HCL := hid hcl; have HSL := hid hsl
      clear hst1 hsk hct hcl hsl hus hs
      generalize U j = u at *
      generalize sh n = s at *
      generalize lg n = L at *
      by_cases h1 : u < s
      · have g1 : (u : Int) < (s : Int) := by omega
        have hL1 := (HSL.out h1).2.2.2
        go_wp2_with fail
        refine (HST1.out _ _ ⟨HSP.out, (HSL.out h1).2.1⟩ (by rw [(HCT.out h1).2]) (by rw [(HCT.out h1).1]; omega)).mono ?_
        rintro e w1 ⟨rfl, hs1⟩
        clear ck
        go_wp2_with fail
        go_roundg (len - (j + 1))
        case measure => rw [HG.out]; omega
        case rel => exact ⟨j + 1, by omega, rfl, by go_num, hs1⟩
      · have g1 : ¬ (u : Int) < (s : Int) := by omega
        by_cases h2 : u < n
        · have g2 : (u : Int) < (n : Int) := by omega
          have hn4 : n ≤ 1099511627776 := HSP.out.2
          go_wp2_with fail
          refine (HST1.out _ _ ⟨HSP.out, h2⟩ (by rw [(HCL.out ⟨HSP.out, h2⟩ h1).2]; omega) (by rw [(HCL.out ⟨HSP.out, h2⟩ h1).1])).mono ?_
          rintro e w1 ⟨rfl, hs1⟩
          clear ck
          go_wp2_with fail
          go_roundg (len - (j + 1))
          case measure => rw [HG.out]; omega
          case rel => exact ⟨j + 1, by omega, rfl, by go_num, hs1⟩
        · have g2 : ¬ (u : Int) < (n : Int) := by omega
          have hs1 := HSK.out (fun h => h2 h.2)
          go_wp2_with fail
          go_roundg (len - (j + 1))
          case measure => rw [HG.out]; omega
          case rel => exact ⟨j + 1, by omega, rfl, by go_num, hs1⟩
    · have hge : ¬ (j : Int) < (len : Int) := by omega
      obtain rfl : j = len := by omega
      go_wp2_with fail
      go_end0
      exact ⟨rfl, hs⟩
theorem codes_no (n : Nat) (hn : ¬ spn n) (v f : Value) (w : World) :
    Calls Try.prog 34 #[v, .int .u64 (n : Int), f] w fun e w' => e = .returned (.tuple #[]) ∧ w = w' := by
  go_enter Try.func34, Try.ntmps34
  go_wp2_with fail
  refine (isspan n w).mono ?_
  rintro e w' ⟨rfl, rfl⟩
  rw [decide_eq_false hn]
  go_wp2_with fail
  refine bodyPost_ret (results_none Try.results34 _ _ _) rfl ?_
  exact ⟨rfl, rfl⟩
end Go.Proofs.Ytfpmdfbggifjiaa.Even
