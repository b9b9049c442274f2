/- The document's Left, Value and Signed. Conditions: those that each lemma names. -/
import Derived.Test.YtfkklmklbmdlhaaDoorRt
namespace Go.Proofs.YtfkklmklbmdlhaaDoor.Fld
open Go.RowKit Gen

/-- 256 to a number up to 7. -/
def pw7 (n : Nat) : Nat := 256 ^ (min n 7)
theorem power_any (n : Nat) (w : World) : Calls Tryd.prog 77 #[.int .i64 (n : Int)] w fun e w' => e = .returned (.int .u64 (pw7 n : Int)) ∧ w = w' := by
  go_enter Tryd.func77, Tryd.ntmps77
  go_wp2_with fail
  go_loop [3, 4] (fun p i => ∃ k : Nat, k ≤ min n 7 ∧ i = .int .i64 k ∧ p = .int .u64 ((256 ^ k : Nat) : Int)) (fun _ i => 7 - (intOf i).toNat)
  case atStart => exact ⟨0, Nat.zero_le _, rfl, rfl⟩
  case round =>
    obtain ⟨k, hk, rfl, rfl⟩ := hrel
    have hp : 256 ^ k ≤ 256 ^ 7 := Nat.pow_le_pow_right (by decide) (by omega)
    have hs : 256 * 256 ^ k = 256 ^ (k + 1) := by rw [Nat.pow_succ, Nat.mul_comm]
    by_cases hlt : k < min n 7
    · have h1 : (k : Int) < (n : Int) := by omega
      have h2 : (k : Int) < 7 := by omega
      have HS := hid hs
      clear hs
      have hp2 : 256 ^ k ≤ 281474976710656 := Nat.le_trans (Nat.pow_le_pow_right (by decide) (show k ≤ 6 by omega)) (by decide)
      generalize 256 ^ k = p at *
      go_wp2_with fail
      go_round
      case rel => exact ⟨k + 1, by omega, by go_num, congrArg (Value.int .u64) (by rw [← HS.out]; omega)⟩
      case measure => simp [intOf]; omega
    · obtain rfl : k = min n 7 := by omega
      have HS := hid hs
      clear hs
      by_cases hn : n ≤ 7
      · have h1 : ¬ ((min n 7 : Nat) : Int) < (n : Int) := by omega
        generalize hpe : 256 ^ min n 7 = p at *
        have HPE := hid hpe
        clear hpe
        go_wp2_with fail
        go_ret
        exact ⟨by show Ending.returned (.int .u64 (p : Int)) = _; unfold pw7; rw [HPE.out], rfl⟩
      · have h1 : ((min n 7 : Nat) : Int) < (n : Int) := by omega
        have h2 : ¬ ((min n 7 : Nat) : Int) < 7 := by omega
        generalize hpe : 256 ^ min n 7 = p at *
        have HPE := hid hpe
        clear hpe
        go_wp2_with fail
        go_ret
        exact ⟨by show Ending.returned (.int .u64 (p : Int)) = _; unfold pw7; rw [HPE.out], rfl⟩

theorem lev_back (t : List Nat) (j x : Nat) (hx : t[j]? = some x) : lev (t.drop j) = x + 256 * lev (t.drop (j + 1)) := by
  have hjl : j < t.length := (List.getElem?_eq_some_iff.1 hx).1
  have hxe : t[j] = x := (List.getElem?_eq_some_iff.1 hx).2
  rw [List.drop_eq_getElem_cons hjl, hxe, lev]

set_option maxRecDepth 100000 in
set_option maxHeartbeats 800000 in
theorem rvalue_any {w : World} {a : Option Addr} {t : List Nat} {c : Nat} (hb : Byts w a t) (h8 : t.length ≤ 8) :
    Calls Tryd.prog 56 #[.slice a t.length c] w fun e w' => e = .returned (.int .u64 (lev t : Int)) ∧ w = w' := by
  have HB := hid hb
  clear hb
  go_enter Tryd.func56, Tryd.ntmps56
  go_wp2_with fail
  go_loop [3, 4] (fun v i => ∃ m : Nat, m ≤ t.length ∧ i = .int .i64 ((m : Int) - 1) ∧ v = .int .u64 (lev (t.drop m) : Int)) (fun _ i => (intOf i + 1).toNat)
  case atStart => exact ⟨t.length, Nat.le_refl _, rfl, by rw [List.drop_length]; rfl⟩
  case round =>
    obtain ⟨m, hm, rfl, rfl⟩ := hrel
    cases m with
    | zero =>
      go_wp2_with fail
      go_ret
      exact ⟨rfl, rfl⟩
    | succ j =>
      have hjl : j < t.length := hm
      obtain ⟨x, hx⟩ : ∃ x, t[j]? = some x := ⟨_, List.getElem?_eq_getElem hjl⟩
      obtain ⟨b, off, rfl, hcell⟩ := HB.out.at_ j x hx
      have hxl : x < 256 := HB.out.lt x (List.mem_of_getElem? hx)
      have hlv := lev_back t j x hx
      have hlt := lev_lt (t.drop (j + 1)) (fun b hb => HB.out.lt b (List.mem_of_mem_drop hb))
      have hp : 2 ^ (8 * (t.drop (j + 1)).length) ≤ 2 ^ 56 := Nat.pow_le_pow_right (by decide) (by rw [List.length_drop]; omega)
      have hlt2 : lev (t.drop (j + 1)) < 72057594037927936 := by omega
      have H := hid hlv
      have e1 : IntKind.u64.wrap (256 * (lev (t.drop (j + 1)) : Int)) = 256 * (lev (t.drop (j + 1)) : Int) := IntWalk.u64_in _ ⟨by omega, by omega⟩
      have e2 : IntKind.u64.wrap (256 * (lev (t.drop (j + 1)) : Int) + (x : Int)) = 256 * (lev (t.drop (j + 1)) : Int) + (x : Int) := IntWalk.u64_in _ ⟨by omega, by omega⟩
      clear hx hlv hlt hp
      rw [show (((j + 1 : Nat) : Int) - 1) = (j : Int) from by omega]
      have hj0 : (0 : Int) ≤ (j : Int) := by omega
      go_wp2_with fail
      go_round
      case rel => exact ⟨j, by omega, by go_num, congrArg (Value.int .u64) (by rw [H.out]; omega)⟩
      case measure => simp [intOf]

theorem sgn_high (t : List Nat) (j x : Nat) (hl : t.length = j + 1) (hx : t[j]? = some x) (hj : j ≤ 6) (ht : ∀ b ∈ t, b < 256) :
    sgn t = (if 128 ≤ x then (lev t : Int) - (pw7 (j + 1) : Int) else (lev t : Int)) ∧ lev t < 72057594037927936 ∧ pw7 (j + 1) ≤ 72057594037927936 := by
  have h1 := lev_step t j x hx
  rw [← hl, List.take_length] at h1
  have h2 := lev_lt (t.take j) (fun b hb => ht b (List.mem_of_mem_take hb))
  rw [List.length_take, Nat.min_eq_left (by omega)] at h2
  have hxl := ht x (List.mem_of_getElem? hx)
  unfold sgn pw7
  rw [hl]
  generalize lev (t.take j) = u at *
  generalize lev t = v at *
  have hk : j = 0 ∨ j = 1 ∨ j = 2 ∨ j = 3 ∨ j = 4 ∨ j = 5 ∨ j = 6 := by omega
  rcases hk with rfl | rfl | rfl | rfl | rfl | rfl | rfl <;> simp only [Nat.reduceMul, Nat.reduceSub, Nat.reducePow, Int.reducePow, Nat.reduceAdd, Nat.reduceLeDiff, Nat.min_eq_left] at h1 h2 ⊢ <;> (refine ⟨?_, by omega, by decide⟩) <;> (split <;> split <;> omega)
theorem sgn_full (t : List Nat) (hl : t.length = 8) (ht : ∀ b ∈ t, b < 256) : wrap64 (lev t : Int) = sgn t := by
  have h2 := lev_lt t ht
  unfold sgn wrap64
  rw [hl] at h2 ⊢
  generalize lev t = v at *
  simp only [Nat.reduceMul, Nat.reduceSub, Nat.reducePow, Int.reducePow] at h2 ⊢
  split <;> omega

end Go.Proofs.YtfkklmklbmdlhaaDoor.Fld
