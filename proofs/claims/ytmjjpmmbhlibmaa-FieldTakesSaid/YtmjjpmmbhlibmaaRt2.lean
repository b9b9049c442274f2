/- The document's Left, Value and Signed. Conditions: those that each lemma names. -/
import Derived.Test.YtmjjpmmbhlibmaaRt
namespace Go.Proofs.Ytmjjpmmbhlibmaa.Fld
open Go.RowKit Gen

/-- 256 to a number up to 7. -/
def pw7 (n : Nat) : Nat := 256 ^ (min n 7)
theorem power_any (n : Nat) (w : World) : Calls Try.prog 44 #[.int .i64 (n : Int)] w fun e w' => e = .returned (.int .u64 (pw7 n : Int)) ∧ w = w' := by
  go_enter Try.func44, Try.ntmps44
  go_wp2_with fail
  go_loop [3, 4] (fun p i => ∃ k : Nat, k ≤ min n 7 ∧ i = .int .i64 k ∧ p = .int .u64 ((256 ^ k : Nat) : Int)) (fun _ i => 7 - (intOf i).toNat)
  case atStart => exact ⟨0, Nat.zero_le _, rfl, rfl⟩
  case round =>
    obtain ⟨k, hk, rfl, rfl⟩ := hrel
    have hp : 256 ^ k ≤ 256 ^ 7 := Nat.pow_le_pow_right (by decide) (by omega)
    have hs : 256 * 256 ^ k = 256 ^ (k + 1) := by rw [Nat.pow_succ, Nat.mul_comm]
    by_cases hlt : k < min n 7
    · have h1 : (k : Int) < (n : Int) := by omega
      have h2 : (k : Int) < 7 := by omega
      have HS := hid hs
      clear hs
      have hp2 : 256 ^ k ≤ 281474976710656 := Nat.le_trans (Nat.pow_le_pow_right (by decide) (show k ≤ 6 by omega)) (by decide)
      generalize 256 ^ k = p at *
      go_wp2_with fail
      go_round
      case rel => exact ⟨k + 1, by omega, by go_num, congrArg (Value.int .u64) (by rw [← HS.out]; omega)⟩
      case measure => simp [intOf]; omega
    · obtain rfl : k = min n 7 := by omega
      have HS := hid hs
      clear hs
      by_cases hn : n ≤ 7
      · have h1 : ¬ ((min n 7 : Nat) : Int) < (n : Int) := by omega
        generalize hpe : 256 ^ min n 7 = p at *
        have HPE := hid hpe
        clear hpe
        go_wp2_with fail
        go_ret
        exact ⟨by show Ending.returned (.int .u64 (p : Int)) = _; unfold pw7; rw [HPE.out], rfl⟩
      · have h1 : ((min n 7 : Nat) : Int) < (n : Int) := by omega
        have h2 : ¬ ((min n 7 : Nat) : Int) < 7 := by omega
        generalize hpe : 256 ^ min n 7 = p at *
        have HPE := hid hpe
        clear hpe
        go_wp2_with fail
        go_ret
        exact ⟨by show Ending.returned (.int .u64 (p : Int)) = _; unfold pw7; rw [HPE.out], rfl⟩

theorem rleft_any {w : World} {r cap : Nat} {a : Option Addr} {L : List Nat} {s : TS} (h : RtS w r a cap L s) (hlen : L.length ≤ 549755813888) :
    Calls Try.prog 18 #[.pointer (some ⟨r, 0, none⟩)] w fun e w' => e = .returned (.int .i64 (s.l.length : Int)) ∧ ∃ m, w' = w.drewN m := by
  obtain ⟨hA, hl⟩ := h
  have c0 := hA.c0; have c1 := hA.c1; have c2 := hA.c2
  have hle := hA.le
  have HL := hid hl
  clear hA hl
  by_cases hF : s.F = 0
  · have t0 : ((s.F : Int) != 0) = false := by rw [hF]; rfl
    have hll : (s.l.length : Int) = (L.length : Int) - (s.pos : Int) := by rw [HL.out, if_pos hF, List.length_drop]; omega
    have hb1 : -9223372036854775808 ≤ (L.length : Int) - (s.pos : Int) := by omega
    have hb2 : (L.length : Int) - (s.pos : Int) ≤ 9223372036854775807 := by omega
    have HX := hid hll
    clear hll hF
    go_enter Try.func18, Try.ntmps18
    go_wp2_with fail
    go_quiet (fail)
    go_wp2_with fail
    go_ret
    exact ⟨by rw [HX.out]; rfl, _, rfl⟩
  · have t0 : ((s.F : Int) != 0) = true := by rw [bne_iff_ne]; omega
    have hll : s.l.length = 0 := by rw [HL.out, if_neg hF]; rfl
    have HX := hid hll
    clear hll hF
    go_enter Try.func18, Try.ntmps18
    go_wp2_with fail
    go_ret
    exact ⟨by rw [HX.out]; rfl, 0, rfl⟩

theorem lev_back (t : List Nat) (j x : Nat) (hx : t[j]? = some x) : lev (t.drop j) = x + 256 * lev (t.drop (j + 1)) := by
  have hjl : j < t.length := (List.getElem?_eq_some_iff.1 hx).1
  have hxe : t[j] = x := (List.getElem?_eq_some_iff.1 hx).2
  rw [List.drop_eq_getElem_cons hjl, hxe, lev]

set_option maxRecDepth 100000 in
set_option maxHeartbeats 800000 in
theorem rvalue_any {w : World} {a : Option Addr} {t : List Nat} {c : Nat} (hb : Byts w a t) (h8 : t.length ≤ 8) :
    Calls Try.prog 32 #[.slice a t.length c] w fun e w' => e = .returned (.int .u64 (lev t : Int)) ∧ w = w' := by
  have HB := hid hb
  clear hb
  go_enter Try.func32, Try.ntmps32
  go_wp2_with fail
  go_loop [3, 4] (fun v i => ∃ m : Nat, m ≤ t.length ∧ i = .int .i64 ((m : Int) - 1) ∧ v = .int .u64 (lev (t.drop m) : Int)) (fun _ i => (intOf i + 1).toNat)
  case atStart => exact ⟨t.length, Nat.le_refl _, rfl, by rw [List.drop_length]; rfl⟩
  case round =>
    obtain ⟨m, hm, rfl, rfl⟩ := hrel
    cases m with
    | zero =>
      go_wp2_with fail
      go_ret
      exact ⟨rfl, rfl⟩
    | succ j =>
      have hjl : j < t.length := hm
      obtain ⟨x, hx⟩ : ∃ x, t[j]? = some x := ⟨_, List.getElem?_eq_getElem hjl⟩
      obtain ⟨b, off, rfl, hcell⟩ := HB.out.at_ j x hx
      have hxl : x < 256 := HB.out.lt x (List.mem_of_getElem? hx)
      have hlv := lev_back t j x hx
      have hlt := lev_lt (t.drop (j + 1)) (fun b hb => HB.out.lt b (List.mem_of_mem_drop hb))
      have hp : 2 ^ (8 * (t.drop (j + 1)).length) ≤ 2 ^ 56 := Nat.pow_le_pow_right (by decide) (by rw [List.length_drop]; omega)
      have hlt2 : lev (t.drop (j + 1)) < 72057594037927936 := by omega
      have H := hid hlv
      have e1 : IntKind.u64.wrap (256 * (lev (t.drop (j + 1)) : Int)) = 256 * (lev (t.drop (j + 1)) : Int) := IntWalk.u64_in _ ⟨by omega, by omega⟩
      have e2 : IntKind.u64.wrap (256 * (lev (t.drop (j + 1)) : Int) + (x : Int)) = 256 * (lev (t.drop (j + 1)) : Int) + (x : Int) := IntWalk.u64_in _ ⟨by omega, by omega⟩
      clear hx hlv hlt hp
      rw [show (((j + 1 : Nat) : Int) - 1) = (j : Int) from by omega]
      have hj0 : (0 : Int) ≤ (j : Int) := by omega
      go_wp2_with fail
      go_round
      case rel => exact ⟨j, by omega, by go_num, congrArg (Value.int .u64) (by rw [H.out]; omega)⟩
      case measure => simp [intOf]

theorem sgn_high (t : List Nat) (j x : Nat) (hl : t.length = j + 1) (hx : t[j]? = some x) (hj : j ≤ 6) (ht : ∀ b ∈ t, b < 256) :
    sgn t = (if 128 ≤ x then (lev t : Int) - (pw7 (j + 1) : Int) else (lev t : Int)) ∧ lev t < 72057594037927936 ∧ pw7 (j + 1) ≤ 72057594037927936 := by
  have h1 := lev_step t j x hx
  rw [← hl, List.take_length] at h1
  have h2 := lev_lt (t.take j) (fun b hb => ht b (List.mem_of_mem_take hb))
  rw [List.length_take, Nat.min_eq_left (by omega)] at h2
  have hxl := ht x (List.mem_of_getElem? hx)
  unfold sgn pw7
  rw [hl]
  generalize lev (t.take j) = u at *
  generalize lev t = v at *
  have hk : j = 0 ∨ j = 1 ∨ j = 2 ∨ j = 3 ∨ j = 4 ∨ j = 5 ∨ j = 6 := by omega
  rcases hk with rfl | rfl | rfl | rfl | rfl | rfl | rfl <;> simp only [Nat.reduceMul, Nat.reduceSub, Nat.reducePow, Int.reducePow, Nat.reduceAdd, Nat.reduceLeDiff, Nat.min_eq_left] at h1 h2 ⊢ <;> (refine ⟨?_, by omega, by decide⟩) <;> (split <;> split <;> omega)
theorem sgn_full (t : List Nat) (hl : t.length = 8) (ht : ∀ b ∈ t, b < 256) : wrap64 (lev t : Int) = sgn t := by
  have h2 := lev_lt t ht
  unfold sgn wrap64
  rw [hl] at h2 ⊢
  generalize lev t = v at *
  simp only [Nat.reduceMul, Nat.reduceSub, Nat.reducePow, Int.reducePow] at h2 ⊢
  split <;> omega

set_option maxRecDepth 100000 in
set_option maxHeartbeats 800000 in
theorem rsigned_any {w : World} {a : Option Addr} {t : List Nat} {c : Nat} (hb : Byts w a t) (h8 : t.length ≤ 8) :
    Calls Try.prog 34 #[.slice a t.length c] w fun e w' => e = .returned (.int .i64 (sgn t)) ∧ w = w' := by
  have HB := hid hb
  clear hb
  by_cases hl8 : t.length = 8
  · have hs := hid (sgn_full t hl8 HB.out.lt)
    have hz : ((t.length : Int) == 8) = true := by rw [hl8]; rfl
    have H8 := hid hl8
    clear hl8
    go_enter Try.func34, Try.ntmps34
    go_wp2_with fail
    refine (rvalue_any HB.out h8).mono ?_
    rintro e w1 ⟨rfl, rfl⟩
    go_wp2_with fail
    go_ret
    exact ⟨by rw [← hs.out]; rfl, rfl⟩
  · have hz : ((t.length : Int) == 8) = false := by rw [beq_eq_false_iff_ne]; omega
    cases hl : t.length with
    | zero =>
      have ht0 : t = [] := List.eq_nil_of_length_eq_zero hl
      subst ht0
      clear hz hl8 hl
      have hv := rvalue_any (c := c) HB.out h8
      have hlv : lev [] = 0 := rfl
      rw [hlv] at hv
      go_enter Try.func34, Try.ntmps34
      go_wp2_with fail
      refine hv.mono ?_
      rintro e w1 ⟨rfl, rfl⟩
      go_wp2_with fail
      go_ret
      exact ⟨by show _ = Ending.returned (.int .i64 (sgn [])); rw [show sgn [] = 0 from rfl]; rfl, rfl⟩
    | succ j =>
      have hjl : j < t.length := by omega
      obtain ⟨x, hx⟩ : ∃ x, t[j]? = some x := ⟨_, List.getElem?_eq_getElem hjl⟩
      obtain ⟨b, off, rfl, hcell⟩ := HB.out.at_ j x hx
      obtain ⟨hs, hv1, hp1⟩ := sgn_high t j x hl hx (by omega) HB.out.lt
      have hv := rvalue_any (c := c) HB.out h8
      rw [hl] at hv hz
      have HS := hid hs
      have HV := hid hv
      have hxl : x < 256 := HB.out.lt x (List.mem_of_getElem? hx)
      have hvi : (lev t : Int) ≤ 9223372036854775807 := by omega
      have hpi : (pw7 (j + 1) : Int) ≤ 9223372036854775807 := by omega
      have hj8 : j + 1 ≤ 8 := by omega
      have hjj : ((j + 1 : Nat) : Int) - 1 = (j : Int) := by omega
      have hpw := power_any (j + 1)
      have HPW := hid hpw
      clear hx hs hv hpw hl hl8
      generalize lev t = v at *
      generalize pw7 (j + 1) = p at *
      by_cases hge : 128 ≤ x
      · have hge1 : (128 : Int) ≤ (x : Int) := by omega
        go_enter Try.func34, Try.ntmps34
        go_wp2_with fail
        refine HV.out.mono ?_
        rintro e w1 ⟨rfl, rfl⟩
        go_wp2_with fail
        refine (HPW.out _).mono ?_
        rintro e w1 ⟨rfl, rfl⟩
        go_wp2_with fail
        go_ret
        exact ⟨by rw [HS.out, if_pos hge]; rfl, rfl⟩
      · have hge1 : ¬ (128 : Int) ≤ (x : Int) := by omega
        go_enter Try.func34, Try.ntmps34
        go_wp2_with fail
        refine HV.out.mono ?_
        rintro e w1 ⟨rfl, rfl⟩
        go_wp2_with fail
        go_ret
        exact ⟨by rw [HS.out, if_neg hge]; rfl, rfl⟩
end Go.Proofs.Ytmjjpmmbhlibmaa.Fld
