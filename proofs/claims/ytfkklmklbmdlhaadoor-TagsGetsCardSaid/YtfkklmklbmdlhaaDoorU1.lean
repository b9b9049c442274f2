/- Few tags; the same tags: both sides. Conditions: none for few ones, but the slice's own length; for the others at most 2^40 tags. -/
import Derived.Test.YtfkklmklbmdlhaaDoorT7
namespace Go.Proofs.YtfkklmklbmdlhaaDoor.Tg
open Go.RowKit Gen

/-- A tag is short. -/
def Sh (t : Tag) : Prop := t.k.size ≤ 100 ∧ t.v.size ≤ 1500
instance (t : Tag) : Decidable (Sh t) := by unfold Sh; exact inferInstance
/-- Tags are few, and short. -/
def Fw (T : Nat → Tag) (len : Nat) : Prop := (∀ i, i < min len 100 → Sh (T i)) ∧ len ≤ 70
instance (T : Nat → Tag) (len : Nat) : Decidable (Fw T len) := by unfold Fw; exact inferInstance
theorem Fw.sz {T : Nat → Tag} {len : Nat} (h : Fw T len) : Sz T len := ⟨by have := h.2; omega, fun i hi => by have := (h.1 i (by have := h.2; omega)).1; omega, fun i hi => by have := (h.1 i (by have := h.2; omega)).2; omega⟩
theorem Fw.sh {T : Nat → Tag} {len : Nat} (h : Fw T len) (i : Nat) (hi : i < len) : Sh (T i) := h.1 i (by have := h.2; omega)

theorem few_any (w : World) {a : Option Addr} {len b off : Nat} {T : Nat → Tag} (h : Tb w a len b off T) (hm : len ≤ 9223372036854775807) (cap : Nat) :
    Calls Tryd.prog 9 #[.slice a len cap] w fun e w' => e = .returned (.bool (decide (Fw T len))) ∧ Below w.heap.size w w' := by
  obtain ⟨D, hD⟩ : ∃ D, D = decide (Fw T len) := ⟨_, rfl⟩
  rw [← hD]
  have HD0 := hid hD
  have H := hid h
  clear h hD
  go_enter Tryd.func9, Tryd.ntmps9
  go_wp2_with fail
  go_loopg [3] 100 (fun g i wr => ∃ k : Nat, k ≤ len ∧ k ≤ 100 ∧ g = 100 - k ∧ i = .int .i64 k ∧ (∀ i, i < k → Sh (T i)) ∧ Below w.heap.size w wr)
  case atStart => exact ⟨0, Nat.zero_le _, Nat.zero_le _, rfl, rfl, fun j hj => absurd hj (Nat.not_lt_zero _), Below.refl _ _⟩
  case round =>
    obtain ⟨k, hk, hk1, hg, rfl, hall, hb⟩ := hrel
    have HG := hid hg
    have HA := hid hall
    have HB := hid hb
    clear hg hall hb
    by_cases hlt : k < len
    · have hlt2 : (k : Int) < (len : Int) := by omega
      by_cases hlh : k < 100
      · have hlh2 : (k : Int) < 100 := by omega
        obtain rfl := H.out.addr (by omega)
        have ck := (H.out.keep HB.out).k k hlt
        have cv := (H.out.keep HB.out).v k hlt
        have HNO := hid fun (h : ¬ Sh (T k)) => HD0.out.trans (decide_eq_false (fun hF : Fw T len => h (hF.1 k (by omega))))
        have HYES := hid fun (h : Sh (T k)) => (fun i hi => by
          by_cases e : i = k
          · exact e ▸ h
          · exact HA.out i (by omega) : ∀ i, i < k + 1 → Sh (T i))
        generalize T k = t at *
        by_cases h1 : 100 < t.k.size
        · have e1 : (100 : Int) < (t.k.size : Int) := by omega
          have HD := hid (HNO.out (by unfold Sh; omega))
          clear h1
          go_wp2_with fail
          go_ret
          exact ⟨by rw [HD.out]; rfl, HB.out⟩
        have e1 : ¬ (100 : Int) < (t.k.size : Int) := by omega
        by_cases h2 : 1500 < t.v.size
        · have e2 : (1500 : Int) < (t.v.size : Int) := by omega
          have HD := hid (HNO.out (by unfold Sh; omega))
          clear h1 h2
          go_wp2_with fail
          go_ret
          exact ⟨by rw [HD.out]; rfl, HB.out⟩
        have e2 : ¬ (1500 : Int) < (t.v.size : Int) := by omega
        have HD := hid (HYES.out (by unfold Sh; omega))
        clear h1 h2
        go_wp2_with fail
        go_roundg (100 - (k + 1))
        case measure => rw [HG.out]; omega
        case rel => exact ⟨k + 1, by omega, by omega, rfl, by go_num, HD.out, HB.out⟩
      · have hlh2 : ¬ (k : Int) < 100 := by omega
        have HD := hid (HD0.out.trans (decide_eq_false (fun h : Fw T len => absurd h.2 (by omega))))
        have e1 : ¬ (len : Int) ≤ 70 := by omega
        go_wp2_with fail
        go_ret
        exact ⟨by rw [HD.out]; rfl, HB.out⟩
    · have hge : ¬ (k : Int) < (len : Int) := by omega
      obtain rfl : k = len := by omega
      by_cases h7 : k ≤ 70
      · have e1 : (k : Int) ≤ 70 := by omega
        have HD := hid (HD0.out.trans (decide_eq_true (⟨fun i hi => HA.out i (by omega), h7⟩ : Fw T k)))
        go_wp2_with fail
        go_ret
        exact ⟨by rw [HD.out]; rfl, HB.out⟩
      · have e1 : ¬ (k : Int) ≤ 70 := by omega
        have HD := hid (HD0.out.trans (decide_eq_false (fun h : Fw T k => h7 h.2)))
        go_wp2_with fail
        go_ret
        exact ⟨by rw [HD.out]; rfl, HB.out⟩

theorem bel_drew {w W : World} {B : Nat} (h : Below B w W) (n : Nat) : Below B w (W.drewN n) := ⟨h.os, h.tape, h.output, h.size, h.block⟩
/-- The same tags. -/
def Eqs (T U : Nat → Tag) (len lenU : Nat) : Prop := len = lenU ∧ ∀ i, i < len → T i = U i
instance (T U : Nat → Tag) (len lenU : Nat) : Decidable (Eqs T U len lenU) := by unfold Eqs; exact inferInstance
theorem Eqs.refl (T : Nat → Tag) (len : Nat) : Eqs T T len len := ⟨rfl, fun _ _ => rfl⟩
set_option maxHeartbeats 1000000 in
theorem equal_any (w : World) {a : Option Addr} {len b off : Nat} {T : Nat → Tag} (h : Tb w a len b off T) {a' : Option Addr} {len' b' off' : Nat} {U : Nat → Tag} (h' : Tb w a' len' b' off' U) (hm : len ≤ 1099511627776) (cap cap' : Nat) :
    Calls Tryd.prog 36 #[.slice a len cap, .slice a' len' cap'] w fun e w' => e = .returned (.bool (decide (Eqs T U len len'))) ∧ Below w.heap.size w w' := by
  obtain ⟨D, hD⟩ : ∃ D, D = decide (Eqs T U len len') := ⟨_, rfl⟩
  rw [← hD]
  have HD0 := hid hD
  have H := hid h
  have H' := hid h'
  clear h h' hD
  by_cases hl : len = len'
  · subst hl
    have e0 : ((len : Int) != (len : Int)) = false := by simp
    go_enter Tryd.func36, Tryd.ntmps36
    go_wp2_with fail
    go_loopg [13] len (fun g i wr => ∃ k : Nat, k ≤ len ∧ g = len - k ∧ i = .int .i64 k ∧ (∀ i, i < k → T i = U i) ∧ Below w.heap.size w wr)
    case atStart => exact ⟨0, Nat.zero_le _, rfl, rfl, fun j hj => absurd hj (Nat.not_lt_zero _), Below.refl _ _⟩
    case round =>
      obtain ⟨k, hk, hg, rfl, hall, hb⟩ := hrel
      have HG := hid hg
      have HA := hid hall
      have HB := hid hb
      clear hg hall hb
      by_cases hlt : k < len
      · have hlt2 : (k : Int) < (len : Int) := by omega
        obtain rfl := H.out.addr (by omega)
        obtain rfl := H'.out.addr (by omega)
        have ck := (H.out.keep HB.out).k k hlt
        have cv := (H.out.keep HB.out).v k hlt
        have ck' := (H'.out.keep HB.out).k k hlt
        have cv' := (H'.out.keep HB.out).v k hlt
        have HNO := hid fun (h : ¬ T k = U k) => HD0.out.trans (decide_eq_false (fun hF : Eqs T U len len => h (hF.2 k hlt)))
        have HYES := hid fun (h : T k = U k) => (fun i hi => by
          by_cases e : i = k
          · exact e ▸ h
          · exact HA.out i (by omega) : ∀ i, i < k + 1 → T i = U i)
        generalize T k = t at *
        generalize U k = u at *
        obtain ⟨tk, tv⟩ := t
        obtain ⟨uk, uv⟩ := u
        simp only [] at ck cv ck' cv'
        by_cases h1 : tk = uk
        · by_cases h2 : tv = uv
          · subst h1 h2
            have HD := hid (HYES.out rfl)
            have q1 : (tk.toList == tk.toList) = true := beq_self_eq_true _
            have q2 : (tv.toList == tv.toList) = true := beq_self_eq_true _
            go_wp2_with fail
            go_quiet (fail)
            go_wp2_with fail
            go_roundg (len - (k + 1))
            case measure => rw [HG.out]; omega
            case rel => exact ⟨k + 1, by omega, rfl, by go_num, HD.out, bel_drew HB.out _⟩
          · subst h1
            have HD := hid (HNO.out (by intro e; cases e; exact h2 rfl))
            have q1 : (tk.toList == tk.toList) = true := beq_self_eq_true _
            have q2 : (tv.toList == uv.toList) = false := by rw [beq_text, decide_eq_false h2]
            clear h2
            go_wp2_with fail
            go_quiet (fail)
            go_wp2_with fail
            go_ret
            exact ⟨by rw [HD.out]; rfl, bel_drew HB.out _⟩
        · have HD := hid (HNO.out (by intro e; cases e; exact h1 rfl))
          have q1 : (tk.toList == uk.toList) = false := by rw [beq_text, decide_eq_false h1]
          clear h1
          go_wp2_with fail
          go_quiet (fail)
          go_wp2_with fail
          go_ret
          exact ⟨by rw [HD.out]; rfl, bel_drew HB.out _⟩
      · have hge : ¬ (k : Int) < (len : Int) := by omega
        obtain rfl : k = len := by omega
        have HD := hid (HD0.out.trans (decide_eq_true (⟨rfl, HA.out⟩ : Eqs T U k k)))
        go_wp2_with fail
        go_ret
        exact ⟨by rw [HD.out]; rfl, HB.out⟩
  · have e0 : ((len : Int) != (len' : Int)) = true := by rw [bne_iff_ne]; omega
    have HD := hid (HD0.out.trans (decide_eq_false (fun h : Eqs T U len len' => hl h.1)))
    clear hl
    go_enter Tryd.func36, Tryd.ntmps36
    go_wp2_with fail
    go_ret
    exact ⟨by rw [HD.out]; rfl, Below.refl _ _⟩
set_option maxHeartbeats 1000000 in
theorem rsame_any (w : World) {a : Option Addr} {len b off : Nat} {T : Nat → Tag} (h : Tb w a len b off T) {a' : Option Addr} {len' b' off' : Nat} {U : Nat → Tag} (h' : Tb w a' len' b' off' U) (hm : len ≤ 1099511627776) (cap cap' : Nat) :
    Calls Tryd.prog 14 #[.slice a len cap, .slice a' len' cap'] w fun e w' => e = .returned (.bool (decide (Eqs T U len len'))) ∧ Below w.heap.size w w' := by
  obtain ⟨D, hD⟩ : ∃ D, D = decide (Eqs T U len len') := ⟨_, rfl⟩
  rw [← hD]
  have HD0 := hid hD
  have H := hid h
  have H' := hid h'
  clear h h' hD
  by_cases hl : len = len'
  · subst hl
    have e0 : ((len : Int) != (len : Int)) = false := by simp
    go_enter Tryd.func14, Tryd.ntmps14
    go_wp2_with fail
    go_loopg [5] len (fun g i wr => ∃ k : Nat, k ≤ len ∧ g = len - k ∧ i = .int .i64 k ∧ (∀ i, i < k → T i = U i) ∧ Below w.heap.size w wr)
    case atStart => exact ⟨0, Nat.zero_le _, rfl, rfl, fun j hj => absurd hj (Nat.not_lt_zero _), Below.refl _ _⟩
    case round =>
      obtain ⟨k, hk, hg, rfl, hall, hb⟩ := hrel
      have HG := hid hg
      have HA := hid hall
      have HB := hid hb
      clear hg hall hb
      by_cases hlt : k < len
      · have hlt2 : (k : Int) < (len : Int) := by omega
        obtain rfl := H.out.addr (by omega)
        obtain rfl := H'.out.addr (by omega)
        have ck := (H.out.keep HB.out).k k hlt
        have cv := (H.out.keep HB.out).v k hlt
        have ck' := (H'.out.keep HB.out).k k hlt
        have cv' := (H'.out.keep HB.out).v k hlt
        have HNO := hid fun (h : ¬ T k = U k) => HD0.out.trans (decide_eq_false (fun hF : Eqs T U len len => h (hF.2 k hlt)))
        have HYES := hid fun (h : T k = U k) => (fun i hi => by
          by_cases e : i = k
          · exact e ▸ h
          · exact HA.out i (by omega) : ∀ i, i < k + 1 → T i = U i)
        generalize T k = t at *
        generalize U k = u at *
        obtain ⟨tk, tv⟩ := t
        obtain ⟨uk, uv⟩ := u
        simp only [] at ck cv ck' cv'
        by_cases h1 : tk = uk
        · by_cases h2 : tv = uv
          · subst h1 h2
            have HD := hid (HYES.out rfl)
            have q1 : (tk.toList == tk.toList) = true := beq_self_eq_true _
            have q2 : (tv.toList == tv.toList) = true := beq_self_eq_true _
            go_wp2_with fail
            go_quiet (fail)
            go_wp2_with fail
            go_roundg (len - (k + 1))
            case measure => rw [HG.out]; omega
            case rel => exact ⟨k + 1, by omega, rfl, by go_num, HD.out, bel_drew HB.out _⟩
          · subst h1
            have HD := hid (HNO.out (by intro e; cases e; exact h2 rfl))
            have q1 : (tk.toList == tk.toList) = true := beq_self_eq_true _
            have q2 : (tv.toList == uv.toList) = false := by rw [beq_text, decide_eq_false h2]
            clear h2
            go_wp2_with fail
            go_quiet (fail)
            go_wp2_with fail
            go_ret
            exact ⟨by rw [HD.out]; rfl, bel_drew HB.out _⟩
        · have HD := hid (HNO.out (by intro e; cases e; exact h1 rfl))
          have q1 : (tk.toList == uk.toList) = false := by rw [beq_text, decide_eq_false h1]
          clear h1
          go_wp2_with fail
          go_quiet (fail)
          go_wp2_with fail
          go_ret
          exact ⟨by rw [HD.out]; rfl, bel_drew HB.out _⟩
      · have hge : ¬ (k : Int) < (len : Int) := by omega
        obtain rfl : k = len := by omega
        have HD := hid (HD0.out.trans (decide_eq_true (⟨rfl, HA.out⟩ : Eqs T U k k)))
        go_wp2_with fail
        go_ret
        exact ⟨by rw [HD.out]; rfl, HB.out⟩
  · have e0 : ((len : Int) != (len' : Int)) = true := by rw [bne_iff_ne]; omega
    have HD := hid (HD0.out.trans (decide_eq_false (fun h : Eqs T U len len' => hl h.1)))
    clear hl
    go_enter Tryd.func14, Tryd.ntmps14
    go_wp2_with fail
    go_ret
    exact ⟨by rw [HD.out]; rfl, Below.refl _ _⟩
theorem same_any (w : World) {a : Option Addr} {len b off : Nat} {T : Nat → Tag} (h : Tb w a len b off T) {a' : Option Addr} {len' b' off' : Nat} {U : Nat → Tag} (h' : Tb w a' len' b' off' U) (hm : len ≤ 1099511627776) (cap cap' : Nat) :
    Calls Tryd.prog 13 #[.slice a len cap, .slice a' len' cap'] w fun e w' => e = .returned (.bool (decide (Eqs T U len len'))) ∧ Below w.heap.size w w' := by
  have HE := hid (equal_any w h h' hm cap cap')
  generalize decide (Eqs T U len len') = D at *
  clear h h'
  go_enter Tryd.func13, Tryd.ntmps13
  go_wp2_with fail
  refine HE.out.mono ?_
  rintro e w1 ⟨rfl, hb⟩
  have HB := hid hb
  clear hb
  go_wp2_with fail
  go_ret
  exact ⟨rfl, HB.out⟩
end Go.Proofs.YtfkklmklbmdlhaaDoor.Tg
