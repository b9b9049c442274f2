/- What must come of fixed calls, and TagsLetters' walk. Conditions: none of its own. -/
import Derived.Test.YtfkklmklbmdlhaaT5
import Derived.Test.YtfkklmklbmdlhaaT3
namespace Go.Proofs.Ytfkklmklbmdlhaa.Tg
open Go.RowKit Gen

theorem k_title : fold ⟨#[84, 105, 116, 108, 101]⟩ = ⟨#[116, 105, 116, 108, 101]⟩ := by decide +kernel
theorem k_two : cnt ⟨#[110, 195, 169]⟩ = 2 := by decide +kernel
theorem k_cut : (⟨#[110, 195, 169, 101]⟩ : ByteArray).extract 0 (stp ⟨#[110, 195, 169, 101]⟩ (fst ⟨#[110, 195, 169, 101]⟩ 2)) = ⟨#[110, 195, 169]⟩ := by decide +kernel
theorem known_true (w : World) : Calls Try.prog 4 #[] w fun e w' => e = .returned (.bool true) ∧ Below w.heap.size w w' := by
  have H1 := hid fun w => fold_any ⟨#[84, 105, 116, 108, 101]⟩ (by decide) w
  have H2 := hid fun w => letters_any ⟨#[110, 195, 169]⟩ (by decide) w
  have H3 := hid fun w => cut_any ⟨#[110, 195, 169, 101]⟩ 2 (by decide) w
  rw [k_title] at H1
  rw [k_two] at H2
  rw [k_cut] at H3
  go_enter Try.func4, Try.ntmps4
  go_wp2_with fail
  refine (H1.out _).mono ?_
  rintro e w1 ⟨rfl, hb1⟩
  have HB1 := hid hb1
  clear hb1
  go_wp2_with fail
  refine (H2.out _).mono ?_
  rintro e w2 ⟨rfl, hb2⟩
  have HB2 := hid (HB1.out.trans (hb2.mono HB1.out.size))
  clear hb2
  go_wp2_with fail
  refine (H3.out _).mono ?_
  rintro e w3 ⟨rfl, hb3⟩
  have HB3 := hid (HB2.out.trans (hb3.mono HB2.out.size))
  clear hb3
  go_wp2_with fail
  go_ret
  exact ⟨rfl, HB3.out⟩

set_option maxHeartbeats 1000000 in
theorem letters_walk (s : ByteArray) (n : Int) (hn : -9223372036854775808 ≤ n ∧ n ≤ 9223372036854775807) (w : World) :
    Calls Try.prog 3 #[.string s, .int .i64 n] w fun e w' => e = .returned (.bool true) ∧ Below w.heap.size w w' := by
  have HK := hid known_true
  by_cases h3 : 300 < s.size
  · have h3i : (300 : Int) < (s.size : Int) := by omega
    go_enter Try.func3, Try.ntmps3
    go_wp2_with fail
    refine (HK.out _).mono ?_
    rintro e w1 ⟨rfl, hb1⟩
    have HB1 := hid hb1
    clear hb1
    go_wp2_with fail
    go_ret
    exact ⟨rfl, HB1.out⟩
  have h3i : ¬ (300 : Int) < (s.size : Int) := by omega
  have H1 := hid fun w => rcut_any s 1000 (by omega) w
  have H2 := hid fun w => rcut_any s n (by omega) w
  have H3 := hid fun w => letters_any s (by omega) w
  have H4 := hid fun w => cut_any s n hn w
  have H6 := hid fun w => fold_any s (by omega) w
  have H7 := hid fun w => rfold_any s (by omega) w
  have hall : fst s 1000 = cnt s := by have := cnt_le s; unfold fst; omega
  have hcz : (s.extract 0 (stp s (fst s n))).size ≤ 1099511627776 := by
    rw [size_extract s _ (has_fst s n).stp_le]; have := (has_fst s n).stp_le; omega
  have H5 := hid fun w => letters_any (s.extract 0 (stp s (fst s n))) hcz w
  have hck : cnt (s.extract 0 (stp s (fst s n))) = fst s n := (ct_cnt _).eq (has_fst s n).cut
  rw [hck] at H5
  rw [hall] at H1
  clear hall hcz hck h3
  generalize s.extract 0 (stp s (cnt s)) = S1 at *
  generalize s.extract 0 (stp s (fst s n)) = S2 at *
  generalize fst s n = N2 at *
  generalize cnt s = N1 at *
  generalize fold s = F at *
  have hs2 : (S2.toList == S2.toList) = true := beq_self_eq_true _
  have hsf : (F.toList == F.toList) = true := beq_self_eq_true _
  go_enter Try.func3, Try.ntmps3
  go_wp2_with fail
  refine (H1.out _).mono ?_
  rintro e w1 ⟨rfl, hb1⟩
  have HB1 := hid hb1
  clear hb1
  go_wp2_with fail
  refine (H2.out _).mono ?_
  rintro e w2 ⟨rfl, hb2⟩
  have HB2 := hid (HB1.out.trans (hb2.mono HB1.out.size))
  clear hb2
  go_wp2_with fail
  refine (H3.out _).mono ?_
  rintro e w3 ⟨rfl, hb3⟩
  have HB3 := hid (HB2.out.trans (hb3.mono HB2.out.size))
  clear hb3
  go_wp2_with fail
  refine (H4.out _).mono ?_
  rintro e w4 ⟨rfl, hb4⟩
  have HB4 := hid (HB3.out.trans (hb4.mono HB3.out.size))
  clear hb4
  go_wp2_with fail
  refine (H5.out _).mono ?_
  rintro e w5 ⟨rfl, hb5⟩
  have HB5 := hid (HB4.out.trans (hb5.mono HB4.out.size))
  clear hb5
  go_wp2_with fail
  refine (H6.out _).mono ?_
  rintro e w6 ⟨rfl, hb6⟩
  have HB6 := hid (HB5.out.trans (hb6.mono HB5.out.size))
  clear hb6
  go_wp2_with fail
  refine (H7.out _).mono ?_
  rintro e w7 ⟨rfl, hb7⟩
  have HB7 := hid (HB6.out.trans (hb7.mono HB6.out.size))
  clear hb7
  go_wp2_with fail
  refine (HK.out _).mono ?_
  rintro e w8 ⟨rfl, hb8⟩
  have HB8 := hid (HB7.out.trans (hb8.mono HB7.out.size))
  clear hb8
  go_wp2_with fail
  go_ret
  exact ⟨rfl, HB8.out⟩
end Go.Proofs.Ytfkklmklbmdlhaa.Tg
