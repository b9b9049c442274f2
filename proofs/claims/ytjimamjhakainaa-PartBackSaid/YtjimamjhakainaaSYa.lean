/- Whether a list is coded, in the program part and in its document; a list's Zigs; orders and bounds of parts. Conditions: those of the memory's own form alone. -/
import Derived.Test.YtjimamjhakainaaSRa
namespace Go.Proofs.Ytjimamjhakainaa.Part
open Go.RowKit Bit Rice Runs

theorem pzig (x : Int) (h : -9223372036854775808 ≤ x ∧ x ≤ 9223372036854775807) (w : World) : Calls Try.prog 58 #[.int .i64 x] w fun e w' => e = .returned (.bool (decide (coded (zg x)))) ∧ w = w' := by
  have hz := zig_any x h w
  have hc := coded_eq (zg x)
  generalize decide (coded (zg x)) = y at *
  generalize zg x = u at *
  go_enter Try.func58, Try.ntmps58
  go_wp2_with fail
  refine hz.mono ?_
  rintro e w' ⟨rfl, rfl⟩
  clear hz
  go_wp2_with fail
  go_ret
  exact ⟨congrArg (fun z : Bool => Ending.returned (.bool z)) hc, rfl⟩
theorem pnotzig (x : Int) (h : -9223372036854775808 ≤ x ∧ x ≤ 9223372036854775807) (w : World) : Calls Try.prog 57 #[.int .i64 x] w fun e w' => e = .returned (.bool (!decide (coded (zg x)))) ∧ w = w' := by
  have hz := pzig x h w
  generalize decide (coded (zg x)) = y at *
  go_enter Try.func57, Try.ntmps57
  go_wp2_with fail
  refine hz.mono ?_
  rintro e w' ⟨rfl, rfl⟩
  clear hz
  go_wp2_with fail
  go_ret
  exact ⟨rfl, rfl⟩
theorem pindex_any (w : World) (a : Option Addr) (len cap b off : Nat) (I : Nat → Int) (h : Is w a len cap b off I) :
    Calls Try.prog 83 #[.slice a len cap, .func (.func 57) #[] #[]] w fun e w' => ∃ r : Int, e = .returned (.int .i64 r) ∧ w = w' ∧ ((r = -1 ∧ allZ I len) ∨ (0 ≤ r ∧ ¬ allZ I len)) := by
  have H := hid h
  have hl := h.hl
  have hc := h.hc
  clear h
  go_enter Try.func83, Try.ntmps83
  go_wp2_with fail
  go_loopg [8] len (fun g i wr => ∃ k : Nat, k ≤ len ∧ g = len - k ∧ i = .int .i64 k ∧ w = wr ∧ allZ I k)
  case atStart => exact ⟨0, Nat.zero_le _, rfl, rfl, rfl, fun j hj => absurd hj (Nat.not_lt_zero _)⟩
  case round =>
    obtain ⟨k, hk, hg, rfl, rfl, hall⟩ := hrel
    have HG := hid hg
    have HA := hid hall
    clear hg hall
    by_cases hlt : k < len
    · have hlt2 : (k : Int) < (len : Int) := by omega
      obtain rfl := H.out.addr (by omega)
      have ck := H.out.c k hlt
      go_wp2_with fail
      refine (pnotzig (I k) (H.out.ib k hlt) w).mono ?_
      rintro e w' ⟨rfl, rfl⟩
      by_cases hc : coded (zg (I k))
      · rw [decide_eq_true hc]
        go_wp2_with fail
        go_roundg (len - (k + 1))
        case measure => rw [HG.out]; omega
        case rel => exact ⟨k + 1, by omega, rfl, by go_num, rfl, fun j hj => by
          by_cases e : j = k
          · rw [e]; exact hc
          · exact HA.out j (by omega)⟩
      · rw [decide_eq_false hc]
        go_wp2_with fail
        go_ret
        exact ⟨_, rfl, rfl, .inr ⟨by omega, fun h => hc (h k hlt)⟩⟩
    · have hge : ¬ (k : Int) < (len : Int) := by omega
      obtain rfl : k = len := by omega
      go_wp2_with fail
      go_ret
      exact ⟨_, rfl, rfl, .inl ⟨rfl, HA.out⟩⟩
theorem pcontains_any (w : World) (a : Option Addr) (len cap b off : Nat) (I : Nat → Int) (h : Is w a len cap b off I) :
    Calls Try.prog 56 #[.slice a len cap, .func (.func 57) #[] #[]] w fun e w' => ∃ x : Bool, e = .returned (.bool x) ∧ w = w' ∧ (x = true ↔ ¬ allZ I len) := by
  have HI := hid (pindex_any w a len cap b off I h)
  clear h
  go_enter Try.func56, Try.ntmps56
  go_wp2_with fail
  refine HI.out.mono ?_
  rintro e w' ⟨r, rfl, rfl, hr⟩
  rcases hr with ⟨rfl, hr⟩ | ⟨h0, hr⟩
  · go_wp2_with fail
    go_ret
    exact ⟨_, rfl, rfl, by simp [hr]⟩
  · go_wp2_with fail
    go_ret
    exact ⟨_, rfl, rfl, by simp [hr]⟩

/-- Whether part codes a list. -/
def cd (I : Nat → Int) (len : Nat) : Prop := len ≤ 65536 ∧ allZ I len
def CdPost (w : World) (I : Nat → Int) (len : Nat) (e : Ending) (w' : World) : Prop := ∃ x : Bool, e = .returned (.bool x) ∧ w = w' ∧ (x = true ↔ cd I len)
theorem pcoded_any (w : World) (a : Option Addr) (len cap b off : Nat) (I : Nat → Int) (h : Is w a len cap b off I) :
    Calls Try.prog 31 #[.slice a len cap] w (CdPost w I len) := by
  have HI := hid (pcontains_any w a len cap b off I h)
  by_cases hl : len ≤ 65536
  · have hl2 : (len : Int) ≤ 65536 := by omega
    clear h
    go_enter Try.func31, Try.ntmps31
    go_wp2_with fail
    refine HI.out.mono ?_
    rintro e w' ⟨r, rfl, rfl, hr⟩
    have HR := hid hr
    clear hr
    go_wp2_with fail
    go_ret
    refine ⟨!r, rfl, rfl, ?_⟩
    have hr := HR.out
    unfold cd
    cases r
    · simp at hr ⊢; exact ⟨hl, hr⟩
    · simp at hr ⊢; exact fun _ => hr
  · have hl2 : ¬ (len : Int) ≤ 65536 := by omega
    clear h HI
    go_enter Try.func31, Try.ntmps31
    go_wp2_with fail
    go_ret
    exact ⟨false, rfl, rfl, by simp [cd, hl]⟩
end Go.Proofs.Ytjimamjhakainaa.Part
