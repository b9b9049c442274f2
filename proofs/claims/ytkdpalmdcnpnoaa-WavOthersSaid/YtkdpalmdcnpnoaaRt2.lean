/- The document's Left, Value and Signed. Conditions: those that each lemma names. -/
import Derived.Test.YtkdpalmdcnpnoaaRef2
namespace Go.Proofs.Ytkdpalmdcnpnoaa.Fld
open Go.RowKit Gen

theorem lev_back (t : List Nat) (j x : Nat) (hx : t[j]? = some x) : lev (t.drop j) = x + 256 * lev (t.drop (j + 1)) := by
  have hjl : j < t.length := (List.getElem?_eq_some_iff.1 hx).1
  have hxe : t[j] = x := (List.getElem?_eq_some_iff.1 hx).2
  rw [List.drop_eq_getElem_cons hjl, hxe, lev]

set_option maxRecDepth 100000 in
set_option maxHeartbeats 800000 in
theorem rvalue_any {w : World} {a : Option Addr} {t : List Nat} {c : Nat} (hb : Byts w a t) (h8 : t.length ≤ 8) :
    Calls Try.prog 43 #[.slice a t.length c] w fun e w' => e = .returned (.int .u64 (lev t : Int)) ∧ w = w' := by
  have HB := hid hb
  clear hb
  go_enter Try.func43, Try.ntmps43
  go_wp2_with fail
  go_loop [3, 4] (fun v i => ∃ m : Nat, m ≤ t.length ∧ i = .int .i64 ((m : Int) - 1) ∧ v = .int .u64 (lev (t.drop m) : Int)) (fun _ i => (intOf i + 1).toNat)
  case atStart => exact ⟨t.length, Nat.le_refl _, rfl, by rw [List.drop_length]; rfl⟩
  case round =>
    obtain ⟨m, hm, rfl, rfl⟩ := hrel
    cases m with
    | zero =>
      go_wp2_with fail
      go_ret
      exact ⟨rfl, rfl⟩
    | succ j =>
      have hjl : j < t.length := hm
      obtain ⟨x, hx⟩ : ∃ x, t[j]? = some x := ⟨_, List.getElem?_eq_getElem hjl⟩
      obtain ⟨b, off, rfl, hcell⟩ := HB.out.at_ j x hx
      have hxl : x < 256 := HB.out.lt x (List.mem_of_getElem? hx)
      have hlv := lev_back t j x hx
      have hlt := lev_lt (t.drop (j + 1)) (fun b hb => HB.out.lt b (List.mem_of_mem_drop hb))
      have hp : 2 ^ (8 * (t.drop (j + 1)).length) ≤ 2 ^ 56 := Nat.pow_le_pow_right (by decide) (by rw [List.length_drop]; omega)
      have hlt2 : lev (t.drop (j + 1)) < 72057594037927936 := by omega
      have H := hid hlv
      have e1 : IntKind.u64.wrap (256 * (lev (t.drop (j + 1)) : Int)) = 256 * (lev (t.drop (j + 1)) : Int) := IntWalk.u64_in _ ⟨by omega, by omega⟩
      have e2 : IntKind.u64.wrap (256 * (lev (t.drop (j + 1)) : Int) + (x : Int)) = 256 * (lev (t.drop (j + 1)) : Int) + (x : Int) := IntWalk.u64_in _ ⟨by omega, by omega⟩
      clear hx hlv hlt hp
      rw [show (((j + 1 : Nat) : Int) - 1) = (j : Int) from by omega]
      have hj0 : (0 : Int) ≤ (j : Int) := by omega
      go_wp2_with fail
      go_round
      case rel => exact ⟨j, by omega, by go_num, congrArg (Value.int .u64) (by rw [H.out]; omega)⟩
      case measure => simp [intOf]

theorem sgn_high (t : List Nat) (j x : Nat) (hl : t.length = j + 1) (hx : t[j]? = some x) (hj : j ≤ 6) (ht : ∀ b ∈ t, b < 256) :
    sgn t = (if 128 ≤ x then (lev t : Int) - (pw7 (j + 1) : Int) else (lev t : Int)) ∧ lev t < 72057594037927936 ∧ pw7 (j + 1) ≤ 72057594037927936 := by
  have h1 := lev_step t j x hx
  rw [← hl, List.take_length] at h1
  have h2 := lev_lt (t.take j) (fun b hb => ht b (List.mem_of_mem_take hb))
  rw [List.length_take, Nat.min_eq_left (by omega)] at h2
  have hxl := ht x (List.mem_of_getElem? hx)
  unfold sgn pw7
  rw [hl]
  generalize lev (t.take j) = u at *
  generalize lev t = v at *
  have hk : j = 0 ∨ j = 1 ∨ j = 2 ∨ j = 3 ∨ j = 4 ∨ j = 5 ∨ j = 6 := by omega
  rcases hk with rfl | rfl | rfl | rfl | rfl | rfl | rfl <;> simp only [Nat.reduceMul, Nat.reduceSub, Nat.reducePow, Int.reducePow, Nat.reduceAdd, Nat.reduceLeDiff, Nat.min_eq_left] at h1 h2 ⊢ <;> (refine ⟨?_, by omega, by decide⟩) <;> (split <;> split <;> omega)
theorem sgn_full (t : List Nat) (hl : t.length = 8) (ht : ∀ b ∈ t, b < 256) : wrap64 (lev t : Int) = sgn t := by
  have h2 := lev_lt t ht
  unfold sgn wrap64
  rw [hl] at h2 ⊢
  generalize lev t = v at *
  simp only [Nat.reduceMul, Nat.reduceSub, Nat.reducePow, Int.reducePow] at h2 ⊢
  split <;> omega

set_option maxRecDepth 100000 in
set_option maxHeartbeats 800000 in
theorem rsigned_any {w : World} {a : Option Addr} {t : List Nat} {c : Nat} (hb : Byts w a t) (h8 : t.length ≤ 8) :
    Calls Try.prog 76 #[.slice a t.length c] w fun e w' => e = .returned (.int .i64 (sgn t)) ∧ w = w' := by
  have HB := hid hb
  clear hb
  by_cases hl8 : t.length = 8
  · have hs := hid (sgn_full t hl8 HB.out.lt)
    have hz : ((t.length : Int) == 8) = true := by rw [hl8]; rfl
    have H8 := hid hl8
    clear hl8
    go_enter Try.func76, Try.ntmps76
    go_wp2_with fail
    refine (rvalue_any HB.out h8).mono ?_
    rintro e w1 ⟨rfl, rfl⟩
    go_wp2_with fail
    go_ret
    exact ⟨by rw [← hs.out]; rfl, rfl⟩
  · have hz : ((t.length : Int) == 8) = false := by rw [beq_eq_false_iff_ne]; omega
    cases hl : t.length with
    | zero =>
      have ht0 : t = [] := List.eq_nil_of_length_eq_zero hl
      subst ht0
      clear hz hl8 hl
      have hv := rvalue_any (c := c) HB.out h8
      have hlv : lev [] = 0 := rfl
      rw [hlv] at hv
      go_enter Try.func76, Try.ntmps76
      go_wp2_with fail
      refine hv.mono ?_
      rintro e w1 ⟨rfl, rfl⟩
      go_wp2_with fail
      go_ret
      exact ⟨by show _ = Ending.returned (.int .i64 (sgn [])); rw [show sgn [] = 0 from rfl]; rfl, rfl⟩
    | succ j =>
      have hjl : j < t.length := by omega
      obtain ⟨x, hx⟩ : ∃ x, t[j]? = some x := ⟨_, List.getElem?_eq_getElem hjl⟩
      obtain ⟨b, off, rfl, hcell⟩ := HB.out.at_ j x hx
      obtain ⟨hs, hv1, hp1⟩ := sgn_high t j x hl hx (by omega) HB.out.lt
      have hv := rvalue_any (c := c) HB.out h8
      rw [hl] at hv hz
      have HS := hid hs
      have HV := hid hv
      have hxl : x < 256 := HB.out.lt x (List.mem_of_getElem? hx)
      have hvi : (lev t : Int) ≤ 9223372036854775807 := by omega
      have hpi : (pw7 (j + 1) : Int) ≤ 9223372036854775807 := by omega
      have hj8 : j + 1 ≤ 8 := by omega
      have hjj : ((j + 1 : Nat) : Int) - 1 = (j : Int) := by omega
      have hpw := power_any (j + 1)
      have HPW := hid hpw
      clear hx hs hv hpw hl hl8
      generalize lev t = v at *
      generalize pw7 (j + 1) = p at *
      by_cases hge : 128 ≤ x
      · have hge1 : (128 : Int) ≤ (x : Int) := by omega
        go_enter Try.func76, Try.ntmps76
        go_wp2_with fail
        refine HV.out.mono ?_
        rintro e w1 ⟨rfl, rfl⟩
        go_wp2_with fail
        refine (HPW.out _).mono ?_
        rintro e w1 ⟨rfl, rfl⟩
        go_wp2_with fail
        go_ret
        exact ⟨by rw [HS.out, if_pos hge]; rfl, rfl⟩
      · have hge1 : ¬ (128 : Int) ≤ (x : Int) := by omega
        go_enter Try.func76, Try.ntmps76
        go_wp2_with fail
        refine HV.out.mono ?_
        rintro e w1 ⟨rfl, rfl⟩
        go_wp2_with fail
        go_ret
        exact ⟨by rw [HS.out, if_neg hge]; rfl, rfl⟩
end Go.Proofs.Ytkdpalmdcnpnoaa.Fld
