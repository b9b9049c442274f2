/- How many letters a text has, and its first ones: both sides. Conditions: texts of at most 2^40 bytes. -/
import Derived.Test.YtfkklmklbmdlhaaDoorT4
namespace Go.Proofs.YtfkklmklbmdlhaaDoor.Tg
open Go.RowKit Gen

/-- How many letters a text has. -/
def cnt (s : ByteArray) : Nat := Lib.runeCount s
theorem cnt_from (s : ByteArray) : ∀ f k, Has s k → s.size ≤ stp s k + f → Ct s (k + Lib.runeCountFrom s f (stp s k))
  | 0, k, h, hf => by
    show Ct s (k + 0)
    exact ⟨h, by rw [Nat.add_zero]; omega⟩
  | f + 1, k, h, hf => by
    by_cases hp : stp s k < s.size
    · have hw := Lib.decode_width_pos s _ hp
      have e : Lib.runeCountFrom s (f + 1) (stp s k) = 1 + Lib.runeCountFrom s f (stp s (k + 1)) := by
        simp [Lib.runeCountFrom, hp, stp]
      have ih := cnt_from s f (k + 1) (h.next hp) (by show _ ≤ stp s k + _ + f; omega)
      rw [e, show k + (1 + Lib.runeCountFrom s f (stp s (k + 1))) = k + 1 + Lib.runeCountFrom s f (stp s (k + 1)) from by omega]
      exact ih
    · rw [Lib.runeCountFrom_end s _ _ hp, Nat.add_zero]
      exact ⟨h, by omega⟩
theorem ct_cnt (s : ByteArray) : Ct s (cnt s) := by
  have h := cnt_from s s.size 0 (fun i hi => absurd hi (Nat.not_lt_zero _)) (by omega)
  rw [Nat.zero_add] at h
  exact h
theorem cnt_le (s : ByteArray) : cnt s ≤ s.size := Lib.runeCount_le s
/-- How many a text's first letters are. -/
def fst (s : ByteArray) (n : Int) : Nat := min (cnt s) n.toNat
theorem has_fst (s : ByteArray) (n : Int) : Has s (fst s n) := (ct_cnt s).1.le (Nat.min_le_left _ _)
theorem fst_in {s : ByteArray} {n : Int} {k : Nat} (h : Has s k) (hk : k = n.toNat) : fst s n = k := by
  have h1 : k ≤ cnt s := by
    rcases Nat.lt_or_ge (cnt s) k with e | e
    · have := h _ e; have := (ct_cnt s).2; omega
    · exact e
  unfold fst; omega
theorem fst_end {s : ByteArray} {n : Int} {k : Nat} (h : Ct s k) (hk : k ≤ n.toNat) : fst s n = k := by
  have := h.eq (ct_cnt s)
  unfold fst; omega
theorem extract_all (s : ByteArray) : s.extract 0 s.size = s := by
  have h := Lib.extract_eq s 0 s.size
  rw [h, List.drop_zero, Nat.sub_zero, Lib.size_eq, List.take_length]
theorem ltr_width (s : ByteArray) (p : Nat) (hp : p < s.size) : (if (ltr s p).1 = 0 then 1 else (ltr s p).1) = (Utf8.decode s p).2 := by
  have hw := Lib.decode_width_pos s p hp
  rw [ltr_decode]
  by_cases h : (Utf8.decode s p).1 = 65533 ∧ (Utf8.decode s p).2 = 1
  · rw [if_pos h]; exact h.2.symm
  · rw [if_neg h]; simp only []; rw [if_neg (by omega)]

theorem letters_any (s : ByteArray) (hs : s.size ≤ 1099511627776) (w : World) :
    Calls Tryd.prog 28 #[.string s] w fun e w' => e = .returned (.int .i64 (cnt s : Int)) ∧ Below w.heap.size w w' := by
  go_enter Tryd.func28, Tryd.ntmps28
  go_wp2_with fail
  go_loopw [3] (fun n w' => ∃ k : Nat, w' = w.iter s (stp s k) ∧ n = .int .i64 k ∧ Has s k ∧ k ≤ s.size) (fun _ w' => s.size - w'.iterPos w.heap.size)
  case atStart => exact ⟨0, rfl, rfl, fun i hi => absurd hi (Nat.not_lt_zero _), Nat.zero_le _⟩
  case round =>
    obtain ⟨k, rfl, rfl, hk, hks⟩ := hrel
    have HK := hid hk
    by_cases hp : stp s k < s.size
    · have hnx : ∀ ty, (Instr.next (.pointer (some ⟨w.heap.size, 0, none⟩)) true ty).run Tryd.prog (w.iter s (stp s k)) = _ := fun ty => run_next_any w s (stp s k) ty hp
      have hwd := Lib.decode_width_pos s (stp s k) hp
      have HN := hid (hk.next hp)
      clear hk
      go_wp2_with fail
      go_roundw
      case rel => exact ⟨k + 1, rfl, by go_num, HN.out, Nat.le_trans HN.out.ge HN.out.stp_le⟩
      case measure =>
        simp
        omega
    · have hnx : ∀ ty, (Instr.next (.pointer (some ⟨w.heap.size, 0, none⟩)) true ty).run Tryd.prog (w.iter s (stp s k)) = _ := fun ty => run_next_end w s (stp s k) ty hp
      have HE := hid (show k = cnt s from Ct.eq ⟨hk, by omega⟩ (ct_cnt s))
      clear hk
      go_wp2_with fail
      go_ret
      exact ⟨by rw [← HE.out]; rfl, (Below.refl _ _).alloc (Nat.le_refl _) _⟩

theorem cut_any (s : ByteArray) (n : Int) (hn : -9223372036854775808 ≤ n ∧ n ≤ 9223372036854775807) (w : World) :
    Calls Tryd.prog 29 #[.string s, .int .i64 n] w fun e w' => e = .returned (.string (s.extract 0 (stp s (fst s n)))) ∧ Below w.heap.size w w' := by
  have HB := hid ((Below.refl w.heap.size w).alloc (Nat.le_refl _) (.stringIter s 0))
  go_enter Tryd.func29, Tryd.ntmps29
  go_wp2_with fail
  go_loopw [1] (fun v w' => ∃ k : Nat, w' = w.iter s (stp s k) ∧ v = .int .i64 (n - k) ∧ Has s k ∧ k ≤ n.toNat) (fun _ w' => s.size - w'.iterPos w.heap.size)
  case atStart => exact ⟨0, rfl, by simp, fun i hi => absurd hi (Nat.not_lt_zero _), Nat.zero_le _⟩
  case round =>
    obtain ⟨k, rfl, rfl, hk, hkn⟩ := hrel
    by_cases hp : stp s k < s.size
    · have hnx : ∀ ty, (Instr.next (.pointer (some ⟨w.heap.size, 0, none⟩)) true ty).run Tryd.prog (w.iter s (stp s k)) = _ := fun ty => run_next_any w s (stp s k) ty hp
      have hwd := Lib.decode_width_pos s (stp s k) hp
      by_cases h1 : n - k < 1
      · have HF := hid (fst_in (n := n) hk (by omega))
        have hps : (stp s k : Int) ≤ (s.size : Int) := by omega
        clear hk
        go_wp2_with fail
        go_ret
        exact ⟨by rw [HF.out]; rfl, (Below.refl _ _).alloc (Nat.le_refl _) _⟩
      · have HN := hid (hk.next hp)
        clear hk
        go_wp2_with fail
        go_roundw
        case rel => exact ⟨k + 1, rfl, by go_num, HN.out, by omega⟩
        case measure =>
          simp
          omega
    · have hnx : ∀ ty, (Instr.next (.pointer (some ⟨w.heap.size, 0, none⟩)) true ty).run Tryd.prog (w.iter s (stp s k)) = _ := fun ty => run_next_end w s (stp s k) ty hp
      have hc : Ct s k := ⟨hk, by omega⟩
      have HE := hid (fst_end hc hkn)
      have HW := hid hc.whole
      clear hk hc
      go_wp2_with fail
      go_ret
      exact ⟨by rw [HE.out, HW.out, extract_all]; rfl, (Below.refl _ _).alloc (Nat.le_refl _) _⟩

end Go.Proofs.YtfkklmklbmdlhaaDoor.Tg
