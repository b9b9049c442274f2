/- What must come of fixed calls. Conditions: none of its own. -/
import Derived.Test.YtfkklmklbmdlhaaDoorT5
import Derived.Test.YtfkklmklbmdlhaaDoorT3
namespace Go.Proofs.YtfkklmklbmdlhaaDoor.Tg
open Go.RowKit Gen

theorem k_title : fold ⟨#[84, 105, 116, 108, 101]⟩ = ⟨#[116, 105, 116, 108, 101]⟩ := by decide +kernel
theorem k_two : cnt ⟨#[110, 195, 169]⟩ = 2 := by decide +kernel
theorem k_cut : (⟨#[110, 195, 169, 101]⟩ : ByteArray).extract 0 (stp ⟨#[110, 195, 169, 101]⟩ (fst ⟨#[110, 195, 169, 101]⟩ 2)) = ⟨#[110, 195, 169]⟩ := by decide +kernel
theorem known_true (w : World) : Calls Tryd.prog 10 #[] w fun e w' => e = .returned (.bool true) ∧ Below w.heap.size w w' := by
  have H1 := hid fun w => fold_any ⟨#[84, 105, 116, 108, 101]⟩ (by decide) w
  have H2 := hid fun w => letters_any ⟨#[110, 195, 169]⟩ (by decide) w
  have H3 := hid fun w => cut_any ⟨#[110, 195, 169, 101]⟩ 2 (by decide) w
  rw [k_title] at H1
  rw [k_two] at H2
  rw [k_cut] at H3
  go_enter Tryd.func10, Tryd.ntmps10
  go_wp2_with fail
  refine (H1.out _).mono ?_
  rintro e w1 ⟨rfl, hb1⟩
  have HB1 := hid hb1
  clear hb1
  go_wp2_with fail
  refine (H2.out _).mono ?_
  rintro e w2 ⟨rfl, hb2⟩
  have HB2 := hid (HB1.out.trans (hb2.mono HB1.out.size))
  clear hb2
  go_wp2_with fail
  refine (H3.out _).mono ?_
  rintro e w3 ⟨rfl, hb3⟩
  have HB3 := hid (HB2.out.trans (hb3.mono HB2.out.size))
  clear hb3
  go_wp2_with fail
  go_ret
  exact ⟨rfl, HB3.out⟩

end Go.Proofs.YtfkklmklbmdlhaaDoor.Tg
