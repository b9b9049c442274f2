/- TagsSet's walk: any tag is set among any, and those of any key are dropped. Conditions: the memory's own form, and the two tables of unicode/utf8. -/
import Derived.Test.YtfkklmklbmdlhaaDoorU9
import Derived.Test.YtfkklmklbmdlhaaDoorU7
import Derived.Test.YtfkklmklbmdlhaaDoorTk
namespace Go.Proofs.YtfkklmklbmdlhaaDoor.Tg
open Go.RowKit Gen

set_option maxRecDepth 20000 in
set_option maxHeartbeats 4000000 in
theorem set_walk (w : World) (hT : Tabs w) {a : Option Addr} {len b off : Nat} {T : Nat → Tag} (h : Tb w a len b off T) (hm : len ≤ 9223372036854775807) {cap : Nat} (hn : a = none → len = 0 ∧ cap = 0) (t : Tag) (key : ByteArray) :
    Calls Tryd.prog 4 #[.slice a len cap, .agg #[.string t.k, .string t.v], .string key] w fun e w' => e = .returned (.bool true) ∧ Below w.heap.size w w' := by
  have HK := hid known_true
  have HB0 := hid (bel_new w (.cells #[.string t.k, .string t.v] 30))
  have hs0 : (w.alloc (.cells #[.string t.k, .string t.v] 30)).cell? ⟨w.heap.size, 0, none⟩ = some (.string t.k) := by simp
  have hs1 : (w.alloc (.cells #[.string t.k, .string t.v] 30)).cell? ⟨w.heap.size, 1, none⟩ = some (.string t.v) := by simp
  have HS0 := hid fun (w' : World) (hb : Below (w.alloc (.cells #[.string t.k, .string t.v] 30)).heap.size (w.alloc (.cells #[.string t.k, .string t.v] 30)) w') => (World.cell?_of_block (a := ⟨w.heap.size, 0, none⟩) (hb.block w.heap.size (World.block_lt_of_cell? _ _ hs0))).trans hs0
  have HS1 := hid fun (w' : World) (hb : Below (w.alloc (.cells #[.string t.k, .string t.v] 30)).heap.size (w.alloc (.cells #[.string t.k, .string t.v] 30)) w') => (World.cell?_of_block (a := ⟨w.heap.size, 1, none⟩) (hb.block w.heap.size (World.block_lt_of_cell? _ _ hs1))).trans hs1
  have HTB := hid (h.keep HB0.out)
  have HTA := hid (hT.keep HB0.out)
  have HFEW := hid (few_any _ HTB.out hm cap)
  have HSZ := hid HB0.out.size
  clear hs0 hs1 h hT
  by_cases hbad : Fw T len ∧ ¬ 100 < t.k.size ∧ ¬ 1500 < t.v.size ∧ ¬ 100 < key.size
  · obtain ⟨hf, hk, hv, hky⟩ := hbad
    rw [decide_eq_true hf] at HFEW
    have hzz := hf.sz
    have hl : len ≤ 1073741824 := by have := hf.2; omega
    have hk9 : t.k.size ≤ 1099511627776 := by omega
    have hv9 : t.v.size ≤ 1099511627776 := by omega
    have hy9 : key.size ≤ 1099511627776 := by omega
    have H1 := hid fun (w' : World) (hb : Below (w.alloc (.cells #[.string t.k, .string t.v] 30)).heap.size (w.alloc (.cells #[.string t.k, .string t.v] 30)) w') => set_any w' (HTA.out.keep hb) (HTB.out.keep hb) hn hl hzz t hk9 hv9
    have H2 := hid fun (w' : World) (hb : Below (w.alloc (.cells #[.string t.k, .string t.v] 30)).heap.size (w.alloc (.cells #[.string t.k, .string t.v] 30)) w') => rset_any w' (HTB.out.keep hb) hn hl hzz t hk9 hv9
    have H3 := hid fun (w' : World) (hb : Below (w.alloc (.cells #[.string t.k, .string t.v] 30)).heap.size (w.alloc (.cells #[.string t.k, .string t.v] 30)) w') => drop_any w' (HTB.out.keep hb) hn hl hzz key hy9
    have H4 := hid fun (w' : World) (hb : Below (w.alloc (.cells #[.string t.k, .string t.v] 30)).heap.size (w.alloc (.cells #[.string t.k, .string t.v] 30)) w') => rdrop_any w' (HTB.out.keep hb) hl hzz key hy9 cap
    have H5 := hid fun (w' : World) (hb : Below (w.alloc (.cells #[.string t.k, .string t.v] 30)).heap.size (w.alloc (.cells #[.string t.k, .string t.v] 30)) w') => find_any w' (HTB.out.keep hb) hzz key hy9 cap
    have H6 := hid fun (w' : World) (hb : Below (w.alloc (.cells #[.string t.k, .string t.v] 30)).heap.size (w.alloc (.cells #[.string t.k, .string t.v] 30)) w') => rat_any key hy9 w' (HTB.out.keep hb) hzz cap
    have hml : (okT (stt T len t)).length ≤ 1099511627776 := by
      have hsl : (stt T len t).length ≤ len + 1 := by
        unfold stt; split
        · rw [List.length_append, lst_len]; exact Nat.le_refl _
        · rw [List.length_set, lst_len]; omega
      unfold okT; split
      · omega
      · simp
    have HML := hid hml
    have HNL := hid (show (flt (fold key) (lst T len)).length ≤ 1099511627776 by have := flt_le (fold key) (lst T len); rw [lst_len] at this; omega)
    have hFX := hid (fx_cases (lk T (fold key)) len)
    have hki : ¬ (100 : Int) < (t.k.size : Int) := by omega
    have hvi : ¬ (1500 : Int) < (t.v.size : Int) := by omega
    have hyi : ¬ (100 : Int) < (key.size : Int) := by omega
    clear hf hk hv hky hzz hk9 hv9 hy9 hml hl hm hn
    generalize hFF : fx (lk T (fold key)) len = F at *
    clear hFF
    generalize flt (fold key) (lst T len) = N at *
    generalize hMM : stt T len t = M at *
    clear hMM
    have hs0 := HS0.out _ (Below.refl _ _)
    have hs1 := HS1.out _ (Below.refl _ _)
    have HBR := hid (Below.refl (w.alloc (.cells #[.string t.k, .string t.v] 30)).heap.size (w.alloc (.cells #[.string t.k, .string t.v] 30)))
    go_enter Tryd.func4, Tryd.ntmps4
    go_wp2_with fail
    change Calls _ _ _ (w.alloc (.cells #[.string t.k, .string t.v] 30)) _
    generalize w.alloc (.cells #[.string t.k, .string t.v] 30) = W0 at *
    refine HFEW.out.mono ?_
    rintro e w1 ⟨rfl, hb1⟩
    have HB1 := hid hb1
    clear hs0 hs1 hb1
    have hs0 := HS0.out _ HB1.out
    have hs1 := HS1.out _ HB1.out
    go_wp2_with fail
    refine (H1.out _ HB1.out).mono ?_
    rintro e w2 ⟨ao2, c2, rfl, ho2, hb2⟩
    have HB2 := hid (HB1.out.trans (hb2.mono HB1.out.size))
    have HO2 := hid ho2
    clear hs0 hs1 hb2 ho2
    have hs0 := HS0.out _ HB2.out
    have hs1 := HS1.out _ HB2.out
    go_wp2_with fail
    refine (H2.out _ HB2.out).mono ?_
    rintro e w3 ⟨ao3, c3, rfl, ho3, hb3⟩
    have HB3 := hid (HB2.out.trans (hb3.mono HB2.out.size))
    obtain ⟨q2, t2, _, _⟩ := (HO2.out.keep hb3).tb
    obtain ⟨q3, t3, _, _⟩ := ho3.tb
    have hsm := rsame_any w3 t2 t3 HML.out c2 c3
    rw [decide_eq_true (Eqs.refl _ _)] at hsm
    have HSM := hid hsm
    have hcc : ((chk (gt M) M.length).2 != (chk (gt M) M.length).2) = false := by simp
    clear hs0 hs1 hb3 ho3 t2 t3 hsm
    generalize (chk (gt M) M.length).2 = C at *
    go_wp2_with fail
    refine HSM.out.mono ?_
    rintro e w4 ⟨rfl, hb4⟩
    have HB4 := hid (HB3.out.trans (hb4.mono HB3.out.size))
    clear hb4
    go_wp2_with fail
    refine (H3.out _ HB4.out).mono ?_
    rintro e w5 ⟨ao5, c5, q5, o5, rfl, t5, hb5⟩
    have HB5 := hid (HB4.out.trans (hb5.mono HB4.out.size))
    have HT5 := hid t5
    clear hb5 t5
    go_wp2_with fail
    refine (H4.out _ HB5.out).mono ?_
    rintro e w6 ⟨ao6, c6, q6, o6, rfl, t6, hb6⟩
    have HB6 := hid (HB5.out.trans (hb6.mono HB5.out.size))
    have hsm := rsame_any w6 (HT5.out.keep hb6) t6 HNL.out c5 c6
    rw [decide_eq_true (Eqs.refl _ _)] at hsm
    have HSM2 := hid hsm
    clear hb6 t6 hsm
    go_wp2_with fail
    refine HSM2.out.mono ?_
    rintro e w7 ⟨rfl, hb7⟩
    have HB7 := hid (HB6.out.trans (hb7.mono HB6.out.size))
    clear hb7
    go_wp2_with fail
    refine (H5.out _ HB7.out).mono ?_
    rintro e w8 ⟨rfl, hb8⟩
    have HB8 := hid (HB7.out.trans (hb8.mono HB7.out.size))
    clear hb8
    go_wp2_with fail
    refine (H6.out _ HB8.out).mono ?_
    rintro e w9 ⟨rfl, hb9⟩
    have HB9 := hid (HB8.out.trans (hb9.mono HB8.out.size))
    clear hb9
    rcases hFX.out with ⟨hfx, _⟩ | ⟨k, hfx, hkl, _, _⟩
    · subst hfx
      have hv : valAt T (-1) = ⟨#[]⟩ := rfl
      rw [hv]
      have hbb : ((⟨#[]⟩ : ByteArray).toList == (⟨#[]⟩ : ByteArray).toList) = true := beq_self_eq_true _
      clear hv
      go_wp2_with fail
      refine (HK.out _).mono ?_
      rintro e wk ⟨rfl, hbk⟩
      have HBK := hid (HB9.out.trans (hbk.mono HB9.out.size))
      clear hbk
      go_wp2_with fail
      go_ret
      exact ⟨rfl, HB0.out.trans (HBK.out.mono HSZ.out)⟩
    · subst hfx
      have hlow : ¬ (k : Int) < 0 := by omega
      have hv : valAt T (k : Int) = (T k).v := by unfold valAt; rw [if_neg hlow]; rfl
      rw [hv]
      obtain rfl := HTB.out.addr (by omega)
      have cv := (HTB.out.keep HB9.out).v k hkl
      have hbb : ((T k).v.toList == (T k).v.toList) = true := beq_self_eq_true _
      have hkl2 : (k : Int) < (len : Int) := by omega
      have h0k : (0 : Int) ≤ (k : Int) := by omega
      clear hv
      go_wp2_with fail
      refine (HK.out _).mono ?_
      rintro e wk ⟨rfl, hbk⟩
      have HBK := hid (HB9.out.trans (hbk.mono HB9.out.size))
      clear hbk
      go_wp2_with fail
      go_ret
      exact ⟨rfl, HB0.out.trans (HBK.out.mono HSZ.out)⟩
  · have hs0 := HS0.out _ (Below.refl _ _)
    have hs1 := HS1.out _ (Below.refl _ _)
    have HBAD := hid hbad
    clear hbad
    go_enter Tryd.func4, Tryd.ntmps4
    go_wp2_with fail
    change Calls _ _ _ (w.alloc (.cells #[.string t.k, .string t.v] 30)) _
    generalize w.alloc (.cells #[.string t.k, .string t.v] 30) = W0 at *
    refine HFEW.out.mono ?_
    rintro e w9 ⟨rfl, hb9⟩
    have HB9 := hid hb9
    clear hs0 hs1 hb9
    have hs0 := HS0.out _ HB9.out
    have hs1 := HS1.out _ HB9.out
    by_cases hf : Fw T len
    · rw [decide_eq_true hf]
      by_cases hk : 100 < t.k.size
      · have hki : (100 : Int) < (t.k.size : Int) := by omega
        clear hf hk
        go_wp2_with fail
        refine (HK.out _).mono ?_
        rintro e wk ⟨rfl, hbk⟩
        have HBK := hid (HB9.out.trans (hbk.mono HB9.out.size))
        clear hbk
        go_wp2_with fail
        go_ret
        exact ⟨rfl, HB0.out.trans (HBK.out.mono HSZ.out)⟩
      have hki : ¬ (100 : Int) < (t.k.size : Int) := by omega
      by_cases hv : 1500 < t.v.size
      · have hvi : (1500 : Int) < (t.v.size : Int) := by omega
        clear hf hk hv
        go_wp2_with fail
        refine (HK.out _).mono ?_
        rintro e wk ⟨rfl, hbk⟩
        have HBK := hid (HB9.out.trans (hbk.mono HB9.out.size))
        clear hbk
        go_wp2_with fail
        go_ret
        exact ⟨rfl, HB0.out.trans (HBK.out.mono HSZ.out)⟩
      have hvi : ¬ (1500 : Int) < (t.v.size : Int) := by omega
      have hyi : (100 : Int) < (key.size : Int) := by
        rcases Nat.lt_or_ge 100 key.size with e9 | e9
        · omega
        · exact absurd ⟨hf, hk, hv, by omega⟩ HBAD.out
      clear hf hk hv
      go_wp2_with fail
      refine (HK.out _).mono ?_
      rintro e wk ⟨rfl, hbk⟩
      have HBK := hid (HB9.out.trans (hbk.mono HB9.out.size))
      clear hbk
      go_wp2_with fail
      go_ret
      exact ⟨rfl, HB0.out.trans (HBK.out.mono HSZ.out)⟩
    · rw [decide_eq_false hf]
      clear hf
      go_wp2_with fail
      refine (HK.out _).mono ?_
      rintro e wk ⟨rfl, hbk⟩
      have HBK := hid (HB9.out.trans (hbk.mono HB9.out.size))
      clear hbk
      go_wp2_with fail
      go_ret
      exact ⟨rfl, HB0.out.trans (HBK.out.mono HSZ.out)⟩
end Go.Proofs.YtfkklmklbmdlhaaDoor.Tg
