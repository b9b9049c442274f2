/- TagsCheck's walk: what is wrong with any tags, and where. Conditions: the memory's own form, and the two tables of unicode/utf8. -/
import Derived.Test.YtfkklmklbmdlhaaDoorU2
import Derived.Test.YtfkklmklbmdlhaaDoorTk
namespace Go.Proofs.YtfkklmklbmdlhaaDoor.Tg
open Go.RowKit Gen

set_option maxHeartbeats 2000000 in
theorem check_walk (w : World) (hT : Tabs w) {a : Option Addr} {len b off : Nat} {T : Nat → Tag} (h : Tb w a len b off T) {a' : Option Addr} {len' b' off' : Nat} {U : Nat → Tag} (h' : Tb w a' len' b' off' U) (hm : len ≤ 9223372036854775807) (hm' : len' ≤ 9223372036854775807) {cap cap' : Nat} (hc : len ≤ cap) :
    Calls Tryd.prog 3 #[.slice a len cap, .slice a' len' cap'] w fun e w' => e = .returned (.bool true) ∧ Below w.heap.size w w' := by
  have HK := hid known_true
  have HF1 := hid (few_any w h hm cap)
  have HF2 := hid fun (w' : World) (hb : Below w.heap.size w w') => few_any w' (h'.keep hb) hm' cap'
  by_cases f1 : Fw T len
  · rw [decide_eq_true f1] at HF1
    by_cases f2 : Fw U len'
    · rw [decide_eq_true f2] at HF2
      have H1 := hid fun (w' : World) (hb : Below w.heap.size w w') => check_any w' (hT.keep hb) (h.keep hb) f1.sz hc
      have H2 := hid fun (w' : World) (hb : Below w.heap.size w w') => rcheck_any w' (h.keep hb) f1.sz hc
      have H3 := hid fun (w' : World) (hb : Below w.heap.size w w') => same_any w' (h.keep hb) (h'.keep hb) f1.sz.n cap cap'
      have H4 := hid fun (w' : World) (hb : Below w.heap.size w w') => rsame_any w' (h.keep hb) (h'.keep hb) f1.sz.n cap cap'
      have h5 := fun (w' : World) (hb : Below w.heap.size w w') => same_any w' (h.keep hb) (h.keep hb) f1.sz.n cap cap
      rw [decide_eq_true (Eqs.refl T len)] at h5
      have H5 := hid h5
      clear h h' hT hm hm' f1 f2 hc h5
      generalize chk T len = C at *
      generalize decide (Eqs T U len len') = D at *
      have c1 : (C.1 == C.1) = true := beq_self_eq_true _
      have c2 : (C.2 == C.2) = true := beq_self_eq_true _
      have c3 : (D == D) = true := beq_self_eq_true _
      go_enter Tryd.func3, Tryd.ntmps3
      go_wp2_with fail
      refine HF1.out.mono ?_
      rintro e w1 ⟨rfl, hb1⟩
      have HB1 := hid hb1
      clear hb1
      go_wp2_with fail
      refine (HF2.out _ HB1.out).mono ?_
      rintro e w2 ⟨rfl, hb2⟩
      have HB2 := hid (HB1.out.trans (hb2.mono HB1.out.size))
      clear hb2
      go_wp2_with fail
      refine (H1.out _ HB2.out).mono ?_
      rintro e w3 ⟨rfl, hb3⟩
      have HB3 := hid (HB2.out.trans (hb3.mono HB2.out.size))
      clear hb3
      go_wp2_with fail
      refine (H2.out _ HB3.out).mono ?_
      rintro e w4 ⟨rfl, hb4⟩
      have HB4 := hid (HB3.out.trans (hb4.mono HB3.out.size))
      clear hb4
      go_wp2_with fail
      refine (H3.out _ HB4.out).mono ?_
      rintro e w5 ⟨rfl, hb5⟩
      have HB5 := hid (HB4.out.trans (hb5.mono HB4.out.size))
      clear hb5
      go_wp2_with fail
      refine (H4.out _ HB5.out).mono ?_
      rintro e w6 ⟨rfl, hb6⟩
      have HB6 := hid (HB5.out.trans (hb6.mono HB5.out.size))
      clear hb6
      go_wp2_with fail
      refine (H5.out _ HB6.out).mono ?_
      rintro e w7 ⟨rfl, hb7⟩
      have HB7 := hid (HB6.out.trans (hb7.mono HB6.out.size))
      clear hb7
      go_wp2_with fail
      refine (HK.out _).mono ?_
      rintro e w8 ⟨rfl, hb8⟩
      have HB8 := hid (HB7.out.trans (hb8.mono HB7.out.size))
      clear hb8
      go_wp2_with fail
      go_ret
      exact ⟨rfl, HB8.out⟩
    · rw [decide_eq_false f2] at HF2
      clear h h' hT hm hm' f1 f2 hc
      go_enter Tryd.func3, Tryd.ntmps3
      go_wp2_with fail
      refine HF1.out.mono ?_
      rintro e w1 ⟨rfl, hb1⟩
      have HB1 := hid hb1
      clear hb1
      go_wp2_with fail
      refine (HF2.out _ HB1.out).mono ?_
      rintro e w2 ⟨rfl, hb2⟩
      have HB2 := hid (HB1.out.trans (hb2.mono HB1.out.size))
      clear hb2
      go_wp2_with fail
      refine (HK.out _).mono ?_
      rintro e w8 ⟨rfl, hb8⟩
      have HB8 := hid (HB2.out.trans (hb8.mono HB2.out.size))
      clear hb8
      go_wp2_with fail
      go_ret
      exact ⟨rfl, HB8.out⟩
  · rw [decide_eq_false f1] at HF1
    clear h h' hT hm hm' f1 hc
    go_enter Tryd.func3, Tryd.ntmps3
    go_wp2_with fail
    refine HF1.out.mono ?_
    rintro e w1 ⟨rfl, hb1⟩
    have HB1 := hid hb1
    clear hb1
    go_wp2_with fail
    refine (HK.out _).mono ?_
    rintro e w8 ⟨rfl, hb8⟩
    have HB8 := hid (HB1.out.trans (hb8.mono HB1.out.size))
    clear hb8
    go_wp2_with fail
    go_ret
    exact ⟨rfl, HB8.out⟩
end Go.Proofs.YtfkklmklbmdlhaaDoor.Tg
