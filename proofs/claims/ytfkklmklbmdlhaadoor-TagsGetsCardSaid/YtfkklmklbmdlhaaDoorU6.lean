/- Set of tags, and Find, of the program. Conditions: at most 2^30 tags, texts of at most 2^40 bytes, and the two tables of unicode/utf8. -/
import Derived.Test.YtfkklmklbmdlhaaDoorU5
namespace Go.Proofs.YtfkklmklbmdlhaaDoor.Tg
open Go.RowKit Gen

theorem own_mono {w : World} {base base' : Nat} {e size : Nat} {v : Value} {n : Nat} {xs : List Value} (h : w.ownsRow base e size v n xs) (hb : base' ≤ base) : w.ownsRow base' e size v n xs :=
  ⟨h.1, h.2.imp id fun ⟨g, cap, cur, h1, h2, h3⟩ => ⟨g, cap, cur, h1, Nat.le_trans hb h2, h3⟩⟩
set_option maxRecDepth 20000 in
set_option maxHeartbeats 2000000 in
theorem set_any (w : World) (hT : Tabs w) {a : Option Addr} {len b off : Nat} {T : Nat → Tag} (h : Tb w a len b off T) {cap : Nat} (hn : a = none → len = 0 ∧ cap = 0) (hl : len ≤ 1073741824) (hz : Sz T len) (t : Tag) (hk : t.k.size ≤ 1099511627776) (hv : t.v.size ≤ 1099511627776) :
    Calls Tryd.prog 15 #[.slice a len cap, .agg #[.string t.k, .string t.v]] w (SetP w (stt T len t)) := by
  obtain ⟨M, hM⟩ : ∃ M, M = stt T len t := ⟨_, rfl⟩
  rw [← hM]
  have HM := hid hM
  have HSA := hid (hz.app hk hv hl)
  have HSB := hid fun j => hz.put hk hv j
  have HLL := hid (lst_len T len)
  have HZ := hid hz
  clear hM
  have HB0 := hid (bel_new w (.cells #[.string t.k, .string t.v] 30))
  have hs0 : (w.alloc (.cells #[.string t.k, .string t.v] 30)).cell? ⟨w.heap.size, 0, none⟩ = some (.string t.k) := by simp
  have hs1 : (w.alloc (.cells #[.string t.k, .string t.v] 30)).cell? ⟨w.heap.size, 1, none⟩ = some (.string t.v) := by simp
  have hsz : w.heap.size ≤ (w.alloc (.cells #[.string t.k, .string t.v] 30)).heap.size := by simp
  have HS0 := hid fun (w' : World) (hb : Below (w.alloc (.cells #[.string t.k, .string t.v] 30)).heap.size (w.alloc (.cells #[.string t.k, .string t.v] 30)) w') => (World.cell?_of_block (a := ⟨w.heap.size, 0, none⟩) (hb.block w.heap.size (World.block_lt_of_cell? _ _ hs0))).trans hs0
  have HS1 := hid fun (w' : World) (hb : Below (w.alloc (.cells #[.string t.k, .string t.v] 30)).heap.size (w.alloc (.cells #[.string t.k, .string t.v] 30)) w') => (World.cell?_of_block (a := ⟨w.heap.size, 1, none⟩) (hb.block w.heap.size (World.block_lt_of_cell? _ _ hs1))).trans hs1
  have HSZ := hid hsz
  have HTB := hid (h.keep HB0.out)
  have HFA := hid (show flat (lst T len ++ [t]) = flat (lst T len) ++ [.string t.k, .string t.v] from flat_app _ _)
  have HFS := hid fun j => flat_set (lst T len) j t
  have HFL := hid (show (flat (lst T len)).length = len * 2 by rw [flat_len, lst_len])
  have HF1 := hid (flat_one (lst T len))
  have HT := hid hT
  have HAL := hid fun w' => alike_any t.k hk w'
  clear hT
  clear hs0 hs1 hsz h
  obtain ⟨i0, hi, hz0, hz1, hz2⟩ := info_parts Tryd.info30
  go_enter Tryd.func15, Tryd.ntmps15
  go_wp2_with fail
  change Calls _ _ _ (w.alloc (.cells #[.string t.k, .string t.v] 30)) _
  generalize w.alloc (.cells #[.string t.k, .string t.v] 30) = W0 at *
  refine (tclone_any W0 HTB.out hn hl).mono ?_
  rintro e w1 ⟨ao, cp, rfl, ho1, hb1⟩
  have HO1 := hid ho1
  have HB1 := hid hb1
  have hk1 := HS0.out _ hb1
  clear ho1 hb1
  go_wp2_with fail
  refine (HAL.out _).mono ?_
  rintro e w2 ⟨rfl, hq2, hb2⟩
  have HO2 := hid (HO1.out.keep hb2)
  have HB2 := hid (HB1.out.trans (hb2.mono HB1.out.size))
  obtain ⟨b2, tb2, hB2, hsh2⟩ := HO2.out.tb
  rw [HLL.out] at tb2 hB2
  have hix := index_any (fold t.k) w1.heap.size w2 hq2 tb2 (Sz.mk HZ.out.n (fun i hi => by rw [gt_lst T len i hi]; exact HZ.out.k i hi) (fun i hi => by rw [gt_lst T len i hi]; exact HZ.out.v i hi)) cp
  rw [lk_lst] at hix
  have HIX := hid hix
  clear hb2 hk1 hq2 tb2 hB2 hsh2 hix
  go_wp2_with fail
  refine HIX.out.mono ?_
  rintro e w3 ⟨rfl, hb3⟩
  have HO3 := hid (HO2.out.keep hb3)
  have HB3 := hid (HB2.out.trans (hb3.mono HB2.out.size))
  clear hb3 HIX HO1 HO2
  rcases fx_cases (lk T (fold t.k)) len with ⟨hfx, hno⟩ | ⟨k, hfx, hkl, _, _⟩
  · have hMa : M = lst T len ++ [t] := by rw [HM.out]; unfold stt; rw [hfx]; rfl
    have HMA := hid hMa
    have hlow : (-1 : Int) < 0 := by decide
    have hc0 := HS0.out _ HB3.out
    have hc1 := HS1.out _ HB3.out
    have hlm : (lst T len ++ [t]).length = len + 1 := by rw [List.length_append, lst_len]; rfl
    have HLM := hid hlm
    have ho3 : w3.ownsRow W0.heap.size 30 2 (.slice ao len cp) len (flat (lst T len)) := by have := HO3.out; unfold Ow at this; rw [HLL.out] at this; exact this
    have HO3b := hid (own_block (w' := w3.alloc (.cells #[.string t.k, .string t.v] 30)) ho3 (fun g hg => by
      rcases own_at ho3 with ⟨rfl, _, _⟩ | ⟨g', rfl, _, hlt, _⟩
      · simp [blk] at hg
      · have e9 : g' = g := by simpa [blk] using hg
        exact (bel_new w3 _).block g (e9 ▸ hlt)))
    have HNB := hid (World.news_of_block (w := w3.alloc (.cells #[.string t.k, .string t.v] 30)) (cs := #[.string t.k, .string t.v]) (t := 30) (fr := (0, 0)) (heap_alloc_new w3 _))
    have HSZ3 := hid HB3.out.size
    have HOB := hid fun (j : Nat) (hj : blk ao = some j) => (show W0.heap.size ≤ j by
      rcases own_at ho3 with ⟨rfl, _, _⟩ | ⟨g', rfl, hgB, _, _⟩
      · simp [blk] at hj
      · have e9 : g' = j := by simpa [blk] using hj
        omega)
    clear hMa hlm ho3 hno
    rw [hfx]
    clear hfx
    go_wp2_with (at_builtin; (refine (wpList_append_rows (w3.alloc (.cells #[.string t.k, .string t.v] 30)) (by rfl) _ _ _ (by rfl) W0.heap.size 30 i0 _ 2 32 Tryd.underlying22 hi hz0 hz1 hz2 rfl (by decide) ao len cp (flat (lst T len)) (by rfl) HO3b.out (some ⟨w3.heap.size, 0, none⟩) 1 1 [.string t.k, .string t.v] (by rfl) rfl (fun e => by cases e) (fun ad e => by cases e; exact HNB.out) (by simp [Value.oneCell']) (by unfold maxLen; omega) (by omega) (by have := HSZ3.out; simp; omega) ?_)))
    intro ao' cap' w4 hown4 hg4 hat4
    have ho4 : Ow w4 W0.heap.size ao' cap' M := by unfold Ow; rw [HMA.out, HLM.out, HFA.out]; exact hown4
    have hb4 : Below W0.heap.size W0 w4 := HB3.out.trans (((bel_new w3 _).mono HB3.out.size).trans ⟨hg4.os, hg4.tape, hg4.output, by have := hg4.size; have := HB3.out.size; simp at *; omega, fun j hj => hg4.block j (by have := HB3.out.size; simp; omega) (by
      intro e9
      have := HOB.out j e9.symm
      omega)⟩)
    have HO4 := hid ho4
    have HB4 := hid (HB0.out.trans (hb4.mono HSZ.out))
    have HLEN := hid (show M.length = len + 1 by rw [HMA.out, HLM.out])
    have HZM := hid (show Sz (gt M) M.length by rw [HMA.out]; exact HSA.out)
    clear hown4 hg4 hat4 ho4 hb4
    obtain ⟨b4, t4, _, _⟩ := HO4.out.tb
    have hck := check_any _ (HT.out.keep HB4.out) t4 HZM.out HO4.out.cap
    obtain ⟨C, hC⟩ : ∃ C, chk (gt M) M.length = C := ⟨_, rfl⟩
    rw [hC, HLEN.out] at hck
    have HCH := hid hck
    have HCC := hid hC
    clear t4 hck hC
    go_wp2_with fail
    refine HCH.out.mono ?_
    rintro e w9 ⟨rfl, hb9⟩
    have HB9 := hid (HB4.out.trans (hb9.mono HB4.out.size))
    have HO9 := hid (HO4.out.keep hb9)
    clear hb9
    by_cases h0 : C.2 = 0
    · have q0 : (C.2 != 0) = false := by rw [h0]; rfl
      have hfin := setp_ok (M := M) (by rw [HCC.out]; exact h0) (own_mono HO9.out HSZ.out) HB9.out
      rw [HLEN.out] at hfin
      have HFIN := hid hfin
      clear h0 hfin
      go_wp2_with fail
      go_ret2
      exact HFIN.out
    · have q0 : (C.2 != 0) = true := by rw [bne_iff_ne]; exact h0
      have HFIN := hid (setp_no (M := M) (c := C.2) (by rw [HCC.out]) h0 HB9.out)
      clear h0
      go_wp2_with fail
      go_ret2
      exact HFIN.out
  · have hMb : M = (lst T len).set k t := by rw [HM.out]; unfold stt; rw [hfx, if_neg (by omega)]; rfl
    have HMB := hid hMb
    have ho3 : w3.ownsRow W0.heap.size 30 2 (.slice ao len cp) len (flat (lst T len)) := by have := HO3.out; unfold Ow at this; rw [HLL.out] at this; exact this
    have hlow : ¬ (k : Int) < 0 := by omega
    have hkl2 : (k : Int) < (len : Int) := by omega
    have hc0 := HS0.out _ HB3.out
    have hc1 := HS1.out _ HB3.out
    rcases own_at ho3 with ⟨_, h0, _⟩ | ⟨g, rfl, hgB, hgl, _⟩
    · omega
    have s1 := ho3.stored (k * 2) (.string t.k)
    have s2 := s1.1.stored (k * 2 + 1) (.string t.v)
    have cA := ho3.cellAt (k * 2) (by omega)
    rw [(flat_k (lst T len) k (T k) (lst_at T len k hkl)).1] at cA
    have cB := ho3.cellAt (k * 2 + 1) (by omega)
    rw [(flat_k (lst T len) k (T k) (lst_at T len k hkl)).2] at cB
    have fA := ho3.frozenAt (k * 2)
    have fB := ho3.frozenAt (k * 2 + 1)
    have HLEN := hid (show M.length = len by rw [hMb, List.length_set, HLL.out])
    have HO4 := hid (show Ow ((w3.setCell ⟨g, k * 2, none⟩ (.string t.k)).setCell ⟨g, k * 2 + 1, none⟩ (.string t.v)) W0.heap.size (some ⟨g, 0, none⟩) cp M by
      unfold Ow
      rw [HLEN.out, hMb, HFS.out k]
      exact s2.1)
    have HB4 := hid (HB0.out.trans (((HB3.out.setCell (p := ⟨g, k * 2, none⟩) hgB (.string t.k)).setCell (p := ⟨g, k * 2 + 1, none⟩) hgB (.string t.v)).mono HSZ.out))
    have HZM := hid (show Sz (gt M) M.length by rw [hMb]; exact HSB.out k)
    clear hMb ho3 s1 s2 hgB
    rw [hfx]
    clear hfx
    obtain ⟨b4, t4, _, _⟩ := HO4.out.tb
    have hck := check_any _ (HT.out.keep HB4.out) t4 HZM.out HO4.out.cap
    obtain ⟨C, hC⟩ : ∃ C, chk (gt M) M.length = C := ⟨_, rfl⟩
    rw [hC, HLEN.out] at hck
    have HCH := hid hck
    have HCC := hid hC
    clear t4 hck hC
    go_wp2_with fail
    refine HCH.out.mono ?_
    rintro e w9 ⟨rfl, hb9⟩
    have HB9 := hid (HB4.out.trans (hb9.mono HB4.out.size))
    have HO9 := hid (HO4.out.keep hb9)
    clear hb9
    by_cases h0 : C.2 = 0
    · have q0 : (C.2 != 0) = false := by rw [h0]; rfl
      have hfin := setp_ok (M := M) (by rw [HCC.out]; exact h0) (own_mono HO9.out HSZ.out) HB9.out
      rw [HLEN.out] at hfin
      have HFIN := hid hfin
      clear h0 hfin
      go_wp2_with fail
      go_ret2
      exact HFIN.out
    · have q0 : (C.2 != 0) = true := by rw [bne_iff_ne]; exact h0
      have HFIN := hid (setp_no (M := M) (c := C.2) (by rw [HCC.out]) h0 HB9.out)
      clear h0
      go_wp2_with fail
      go_ret2
      exact HFIN.out
/-- A tag's value at a place; none: nothing. -/
def valAt (T : Nat → Tag) (f : Int) : ByteArray := if f < 0 then ⟨#[]⟩ else (T f.toNat).v
theorem find_any (w : World) {a : Option Addr} {len b off : Nat} {T : Nat → Tag} (h : Tb w a len b off T) (hz : Sz T len) (key : ByteArray) (hk : key.size ≤ 1099511627776) (cap : Nat) :
    Calls Tryd.prog 19 #[.slice a len cap, .string key] w fun e w' => e = .returned (.tuple #[.string (valAt T (fx (lk T (fold key)) len)), .bool (decide (0 ≤ fx (lk T (fold key)) len))]) ∧ Below w.heap.size w w' := by
  obtain ⟨F, hF⟩ : ∃ F, F = fx (lk T (fold key)) len := ⟨_, rfl⟩
  rw [← hF]
  have HF := hid hF
  have H := hid h
  have HAL := hid fun w' => alike_any key hk w'
  have HIX := hid fun (w' : World) (q : Nat) (hq : w'.cell? ⟨q, 0, none⟩ = some (.string (fold key))) (hb : Below w.heap.size w w') => index_any (fold key) q w' hq (h.keep hb) hz cap
  rw [← hF] at HIX
  have hn := hz.n
  clear hF h hz
  go_enter Tryd.func19, Tryd.ntmps19
  go_wp2_with fail
  refine (HAL.out _).mono ?_
  rintro e w2 ⟨rfl, hq2, hb2⟩
  have HIX2 := hid (HIX.out _ _ hq2 hb2)
  have HB2 := hid hb2
  clear hq2 hb2
  go_wp2_with fail
  refine HIX2.out.mono ?_
  rintro e w3 ⟨rfl, hb3⟩
  have HB3 := hid (HB2.out.trans (hb3.mono HB2.out.size))
  clear hb3
  rcases fx_cases (lk T (fold key)) len with ⟨hfx, _⟩ | ⟨k, hfx, hkl, _, _⟩
  · rw [← HF.out] at hfx
    subst hfx
    go_wp2_with fail
    go_ret2
    exact ⟨rfl, HB3.out⟩
  · rw [← HF.out] at hfx
    subst hfx
    obtain rfl := H.out.addr (by omega)
    have cv := (H.out.keep HB3.out).v k hkl
    have hlow : ¬ (k : Int) < 0 := by omega
    have hkl2 : (k : Int) < (len : Int) := by omega
    have HV := hid (show valAt T (k : Int) = (T k).v from by unfold valAt; rw [if_neg hlow]; rfl)
    go_wp2_with fail
    go_ret2
    exact ⟨by rw [HV.out, decide_eq_true (show (0 : Int) ≤ (k : Int) by omega)]; rfl, HB3.out⟩
end Go.Proofs.YtfkklmklbmdlhaaDoor.Tg
