/- Which texts are keys, and values: both sides; the first tag whose key is alike, as the document says it. Conditions: texts of at most 2^40 bytes; for values the two tables of unicode/utf8. -/
import Derived.Test.YtfkklmklbmdlhaaDoorT7
import Derived.Test.YtfkklmklbmdlhaaDoorT4
namespace Go.Proofs.YtfkklmklbmdlhaaDoor.Tg
open Go.RowKit Gen

/-- A byte of a key. -/
def Kb (x : Nat) : Prop := 32 ≤ x ∧ x ≤ 125 ∧ x ≠ 61
instance (x : Nat) : Decidable (Kb x) := by unfold Kb; exact inferInstance
/-- A text is a key. -/
def Ky (s : ByteArray) : Prop := (∀ i, i < s.size → Kb (bt s i)) ∧ 1 ≤ s.size ∧ s.size ≤ 32
instance (s : ByteArray) : Decidable (Ky s) := by unfold Ky; exact inferInstance

theorem rkey_any (s : ByteArray) (hs : s.size ≤ 1099511627776) (w : World) : Calls Tryd.prog 34 #[.string s] w fun e w' => e = .returned (.bool (decide (Ky s))) ∧ Below w.heap.size w w' := by
  obtain ⟨D, hD⟩ : ∃ D, D = decide (Ky s) := ⟨_, rfl⟩
  rw [← hD]
  have HD0 := hid hD
  clear hD
  go_enter Tryd.func34, Tryd.ntmps34
  go_wp2_with fail
  go_loopg [3] s.size (fun g i wr => ∃ k : Nat, k ≤ s.size ∧ g = s.size - k ∧ i = .int .i64 k ∧ (∀ i, i < k → Kb (bt s i)) ∧ Below w.heap.size w wr)
  case atStart => exact ⟨0, Nat.zero_le _, rfl, rfl, fun i hi => absurd hi (Nat.not_lt_zero _), Below.refl _ _⟩
  case round =>
    obtain ⟨k, hk, rfl, rfl, hall, hb⟩ := hrel
    have HA := hid hall
    have HB := hid hb
    clear hall hb
    by_cases hlt : k < s.size
    · have hlt2 : (k : Int) < (s.size : Int) := by omega
      have hix := run_at s k hlt
      have HNO := hid fun (h : ¬ Kb (bt s k)) => HD0.out.trans (decide_eq_false (fun hK : Ky s => h (hK.1 k hlt)))
      have HYES := hid fun (h : Kb (bt s k)) => (fun i hi => by
        by_cases e : i = k
        · exact e ▸ h
        · exact HA.out i (by omega) : ∀ i, i < k + 1 → Kb (bt s i))
      have hx := bt_lt s k
      generalize bt s k = x at *
      by_cases h1 : x < 32
      · have e1 : (x : Int) < 32 := by omega
        have HD := hid (HNO.out (by unfold Kb; omega))
        clear h1
        go_wp2_with fail
        go_ret
        exact ⟨by rw [HD.out]; rfl, HB.out⟩
      have e1 : ¬ (x : Int) < 32 := by omega
      by_cases h2 : 125 < x
      · have e2 : (125 : Int) < (x : Int) := by omega
        have HD := hid (HNO.out (by unfold Kb; omega))
        clear h1 h2
        go_wp2_with fail
        go_ret
        exact ⟨by rw [HD.out]; rfl, HB.out⟩
      have e2 : ¬ (125 : Int) < (x : Int) := by omega
      by_cases h3 : x = 61
      · have HD := hid (HNO.out (by unfold Kb; omega))
        have e3 : ((x : Int) == 61) = true := by rw [h3]; rfl
        clear h1 h2 h3
        go_wp2_with fail
        go_ret
        exact ⟨by rw [HD.out]; rfl, HB.out⟩
      have e3 : ((x : Int) == 61) = false := by rw [beq_eq_false_iff_ne]; omega
      have HD := hid (HYES.out (by unfold Kb; omega))
      clear h1 h2 h3
      go_wp2_with fail
      go_roundg (s.size - (k + 1))
      case measure => omega
      case rel => exact ⟨k + 1, by omega, rfl, by go_num, HD.out, HB.out⟩
    · have hge : ¬ (k : Int) < (s.size : Int) := by omega
      obtain rfl : k = s.size := by omega
      by_cases h1 : 1 ≤ s.size
      · by_cases h2 : s.size ≤ 32
        · have HD := hid (HD0.out.trans (decide_eq_true (⟨HA.out, h1, h2⟩ : Ky s)))
          have e1 : (1 : Int) ≤ (s.size : Int) := by omega
          have e2 : (s.size : Int) ≤ 32 := by omega
          go_wp2_with fail
          go_ret
          exact ⟨by rw [HD.out]; rfl, HB.out⟩
        · have HD := hid (HD0.out.trans (decide_eq_false (fun h : Ky s => h2 h.2.2)))
          have e1 : (1 : Int) ≤ (s.size : Int) := by omega
          have e2 : ¬ (s.size : Int) ≤ 32 := by omega
          go_wp2_with fail
          go_ret
          exact ⟨by rw [HD.out]; rfl, HB.out⟩
      · have HD := hid (HD0.out.trans (decide_eq_false (fun h : Ky s => h1 h.2.1)))
        have e1 : ¬ (1 : Int) ≤ (s.size : Int) := by omega
        go_wp2_with fail
        go_ret
        exact ⟨by rw [HD.out]; rfl, HB.out⟩

theorem ascii_bt (s : ByteArray) (p : Nat) (h : bt s p < 128) : Utf8.decode s p = (bt s p, 1) := by
  unfold bt at h ⊢
  rw [Lib.decode_at]
  unfold Lib.decodeN
  rw [if_pos h]
theorem high_bt (s : ByteArray) (p : Nat) (hp : p < s.size) (h : ¬ bt s p < 128) : 128 ≤ (Utf8.decode s p).1 := by
  have e : bt s p = (s[p]'hp).toNat := by
    unfold bt
    have := get_at s p hp
    rw [Nat.add_zero] at this
    rw [this]
  exact (decode_high s p hp (by omega)).1

theorem key_any (s : ByteArray) (hs : s.size ≤ 1099511627776) (w : World) : Calls Tryd.prog 30 #[.string s] w fun e w' => e = .returned (.bool (decide (Ky s))) ∧ Below w.heap.size w w' := by
  obtain ⟨D, hD⟩ : ∃ D, D = decide (Ky s) := ⟨_, rfl⟩
  rw [← hD]
  have HD0 := hid hD
  clear hD
  have HBA := fun n => (Below.refl w.heap.size w).alloc (Nat.le_refl _) (.stringIter s n)
  have HB := hid HBA
  clear HBA
  by_cases h1 : s.size < 1
  · have e1 : (s.size : Int) < 1 := by omega
    have HD := hid (HD0.out.trans (decide_eq_false (fun h : Ky s => absurd h.2.1 (by omega))))
    go_enter Tryd.func30, Tryd.ntmps30
    go_wp2_with fail
    go_ret
    exact ⟨by rw [HD.out]; rfl, Below.refl _ _⟩
  have e1 : ¬ (s.size : Int) < 1 := by omega
  by_cases h2 : 32 < s.size
  · have e2 : (32 : Int) < (s.size : Int) := by omega
    have HD := hid (HD0.out.trans (decide_eq_false (fun h : Ky s => absurd h.2.2 (by omega))))
    go_enter Tryd.func30, Tryd.ntmps30
    go_wp2_with fail
    go_ret
    exact ⟨by rw [HD.out]; rfl, Below.refl _ _⟩
  have e2 : ¬ (32 : Int) < (s.size : Int) := by omega
  have HZ := hid (show 1 ≤ s.size ∧ s.size ≤ 32 by omega)
  clear h1 h2
  go_enter Tryd.func30, Tryd.ntmps30
  go_wp2_with fail
  go_loopw [] (fun w' => ∃ p : Nat, w' = w.iter s p ∧ p ≤ s.size ∧ ∀ i, i < p → Kb (bt s i)) (fun w' => s.size - w'.iterPos w.heap.size)
  case atStart => exact ⟨0, rfl, Nat.zero_le _, fun i hi => absurd hi (Nat.not_lt_zero _)⟩
  case round =>
    obtain ⟨p, rfl, hps, hall⟩ := hrel
    have HA := hid hall
    clear hall
    by_cases hp : p < s.size
    · have HNO := hid fun (h : ¬ Kb (bt s p)) => HD0.out.trans (decide_eq_false (fun hK : Ky s => h (hK.1 p hp)))
      have HYES := hid fun (h : Kb (bt s p)) => (fun i hi => by
        by_cases e : i = p
        · exact e ▸ h
        · exact HA.out i (by omega) : ∀ i, i < p + 1 → Kb (bt s i))
      have hnx : ∀ ty, (Instr.next (.pointer (some ⟨w.heap.size, 0, none⟩)) true ty).run Tryd.prog (w.iter s p) = _ := fun ty => run_next_any w s p ty hp
      by_cases h128 : bt s p < 128
      · rw [ascii_bt s p h128] at hnx
        have hx := bt_lt s p
        generalize bt s p = x at *
        by_cases h1 : x < 32
        · have f1 : (x : Int) < 32 := by omega
          have HD := hid (HNO.out (by unfold Kb; omega))
          clear h1
          go_wp2_with fail
          go_ret
          exact ⟨by rw [HD.out]; rfl, HB.out _⟩
        have f1 : ¬ (x : Int) < 32 := by omega
        by_cases h2 : 125 < x
        · have f2 : (125 : Int) < (x : Int) := by omega
          have HD := hid (HNO.out (by unfold Kb; omega))
          clear h1 h2
          go_wp2_with fail
          go_ret
          exact ⟨by rw [HD.out]; rfl, HB.out _⟩
        have f2 : ¬ (125 : Int) < (x : Int) := by omega
        by_cases h3 : x = 61
        · have HD := hid (HNO.out (by unfold Kb; omega))
          have f3 : ((x : Int) == 61) = true := by rw [h3]; rfl
          clear h1 h2 h3
          go_wp2_with fail
          go_ret
          exact ⟨by rw [HD.out]; rfl, HB.out _⟩
        have f3 : ((x : Int) == 61) = false := by rw [beq_eq_false_iff_ne]; omega
        have HD := hid (HYES.out (by unfold Kb; omega))
        clear h1 h2 h3
        go_wp2_with fail
        go_roundw
        case rel => exact ⟨p + 1, rfl, by omega, HD.out⟩
        case measure =>
          simp
          omega
      · have hh := high_bt s p hp h128
        have hle := decode_le s p
        have HD := hid (HNO.out (by unfold Kb; omega))
        generalize Utf8.decode s p = d at *
        have f1 : ¬ (d.1 : Int) < 32 := by omega
        have f2 : (125 : Int) < (d.1 : Int) := by omega
        clear h128
        go_wp2_with fail
        go_ret
        exact ⟨by rw [HD.out]; rfl, HB.out _⟩
    · have hnx : ∀ ty, (Instr.next (.pointer (some ⟨w.heap.size, 0, none⟩)) true ty).run Tryd.prog (w.iter s p) = _ := fun ty => run_next_end w s p ty hp
      have HD := hid (HD0.out.trans (decide_eq_true (⟨fun i hi => HA.out i (by omega), HZ.out.1, HZ.out.2⟩ : Ky s)))
      go_wp2_with fail
      go_ret
      exact ⟨by rw [HD.out]; rfl, HB.out _⟩
end Go.Proofs.YtfkklmklbmdlhaaDoor.Tg
