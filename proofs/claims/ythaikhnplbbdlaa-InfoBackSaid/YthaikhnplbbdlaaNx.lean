/- InfoBack's walk: what is put is got, and the other way round. Conditions: the memory's own form. -/
import Derived.Test.YthaikhnplbbdlaaNq
import Derived.Test.YthaikhnplbbdlaaNw
import Derived.Deep.RegionWith
namespace Go.Proofs.Ythaikhnplbbdlaa.Inf
open Go.RowKit Gen Fld
open Crc hiding hid

set_option maxHeartbeats 4000000 in
theorem back_walk (w : World) (i : If) {b : Option Addr} {q : List Nat} {m mc : Nat} (hm : q.length = m) (hq : Byts w b q) (hc : m ≤ mc) (hqn : b = none → m = 0 ∧ mc = 0) :
    Calls Try.prog 5 #[iv i, .slice b m mc] w fun e w' => e = .returned (.bool true) ∧ Below w.heap.size w w' := by
  have HK := hid known_true
  have HBX := hid (Bx.new w i)
  have HB0 := hid (below_new w (.cells (ivl i) 25))
  have HQY := hid hq
  have HQN := hid hqn
  have HQL := hid hm
  obtain ⟨i0, hi, hz0, hz1, hz2⟩ := info_parts Try.info5
  change Calls Try.prog 5 #[.agg #[.int .i64 i.k, .int .i64 i.f.ch, .int .i64 i.f.bits, .int .i64 i.f.rate, .int .i64 i.bk, .int .i64 i.sh], .slice b m mc] w _
  by_cases h3 : 300 < m
  · have h3i : (300 : Int) < (m : Int) := by omega
    have HF := hid fun (w' : World) (hb : Below (w.alloc (.cells (ivl i) 25)).heap.size (w.alloc (.cells (ivl i) 25)) w') => HB0.out.trans (hb.mono HB0.out.size)
    clear hq hqn h3
    go_enter Try.func5, Try.ntmps5
    go_wp2_with fail
    refine (HK.out _).mono ?_
    rintro e w1 ⟨rfl, hb1⟩
    have hfin := HF.out _ hb1
    clear hb1
    go_wp2_with fail
    go_ret
    exact ⟨rfl, hfin⟩
  have h3i : ¬ (300 : Int) < (m : Int) := by omega
  have HGB := hid fun (w' : World) (g : Nat) (ht : Tab w' g) (hb' : Byts w' b q) => get_any (cap := mc) ht hb' (by omega) (by omega)
  have HGA := hid fun (w' : World) (g : Nat) (a' : Option Addr) (c' : Nat) (ht : Tab w' g) (hr : Rt i) (hb' : Byts w' a' (iby i ++ q)) (hc' : 19 + m ≤ c') => get_any (cap := c') ht hb' (by rw [List.length_append, iby_len, hm]; exact hc') (by rw [List.length_append, iby_len, hm]; omega)
  rw [hm] at HGB
  rw [show (iby i ++ q).length = 19 + m from by rw [List.length_append, iby_len, hm]] at HGA
  unfold InfP at HGB HGA
  have HIG := hid (iby_get hq.lt)
  have HGX := hid (show getI q = if getE q = 0 then inl q else iz from rfl)
  clear hq hqn hm
  by_cases hr : Rt i
  · have HPT := hid fun (w' : World) (g : Nat) (ht : Tab w' g) => (show Calls Try.prog 9 #[.pointer (some ⟨g, 0, none⟩), .agg #[.int .i64 i.k, .int .i64 i.f.ch, .int .i64 i.f.bits, .int .i64 i.f.rate, .int .i64 i.bk, .int .i64 i.sh]] w' _ from put_ok ht i hr)
    rw [(get_iby i hr q).1, (get_iby i hr q).2] at HGA
    have HGT := hid fun (w' : World) (g : Nat) (a' : Option Addr) (c' : Nat) (ht : Tab w' g) => HGA.out w' g a' c' ht hr
    have HSL := hid (iby_len i)
    clear hr HGA
    generalize iby i = T at *
    go_enter Try.func5, Try.ntmps5
    go_wp2_with fail
    change Calls _ _ _ (w.alloc (.cells (ivl i) 25)) _
    generalize w.alloc (.cells (ivl i) 25) = W at *
    refine (make_any _).mono ?_
    rintro e w1 ⟨rfl, ht1, hb1⟩
    have hx1 := HBX.out.below hb1 HBX.out.lt
    have HX1 := hid hx1
    have c0 := hx1.c0; have c1 := hx1.c1; have c2 := hx1.c2; have c3 := hx1.c3; have c4 := hx1.c4; have c5 := hx1.c5
    have HB1 := hid (HB0.out.trans (hb1.mono HB0.out.size))
    have HT1 := hid ht1
    clear ht1 hb1 hx1 HBX
    go_wp2_with fail
    refine (HPT.out _ _ HT1.out).mono ?_
    rintro e w2 ⟨ao, c, rfl, hl2⟩
    have HB2 := hid (HB1.out.trans (hl2.bel.mono HB1.out.size))
    have HX2 := hid (HX1.out.below hl2.bel HX1.out.lt)
    have HT2 := hid (HT1.out.keep (hl2.bel.block _ HT1.out.lt))
    have HY2 := hid hl2.byts
    have HN2 := hid hl2.nil
    rw [HSL.out] at HN2
    rw [HSL.out]
    clear hl2 c0 c1 c2 c3 c4 c5 HX1 HT1 HB1
    go_wp2_with (at_builtin; (refine (wpList_append_list w2 (by rfl) _ _ _ (by rfl) w2.heap.size 5 i0 _ 1 Try.underlying26 hi hz0 hz1 hz2 rfl none 0 0 [] (by rfl) (World.ownsRow_nil _ _ _ _) ao 19 c (bl T) (by rfl) ((bl_len _).trans HSL.out) HN2.out HY2.out.cells (bl_one _) (by unfold maxLen; omega) (by omega) (Nat.le_refl _) ?_)))
    intro a3 k3 w3 ho3 hg3 hat3
    have hb3 : Below w2.heap.size w2 w3 := ⟨hg3.os, hg3.tape, hg3.output, hg3.size, fun k hk => hg3.block k hk (by simp [blk])⟩
    have ho3' : w3.ownsRow w2.heap.size 5 1 (.slice a3 19 k3) 19 (bl T) := by simpa using ho3
    have HO3 := hid ho3'
    have HB3 := hid hb3
    have HQ3 := hid (HQY.out.keep (HB2.out.trans (hb3.mono HB2.out.size)))
    have hs3 := hb3.size
    clear ho3 hg3 hat3 hb3 ho3'
    go_wp2_with (at_builtin; (refine (wpList_append_list w3 (by rfl) _ _ _ (by rfl) w2.heap.size 5 i0 _ 1 Try.underlying26 hi hz0 hz1 hz2 rfl a3 19 k3 (bl T) (by rfl) HO3.out b m mc (bl q) (by rfl) ((bl_len _).trans HQL.out) HQN.out HQ3.out.cells (bl_one _) (by unfold maxLen; omega) (by omega) hs3 ?_)))
    intro a4 k4 w4 ho4 hg4 hat4
    have hb4 : Below w2.heap.size w2 w4 := HB3.out.trans ⟨hg4.os, hg4.tape, hg4.output, hg4.size, fun k hk => hg4.block k (Nat.lt_of_lt_of_le hk hs3) (fun e => by have := HO3.out.lt k (by rw [ownBlock_slice]; exact e.symm); omega)⟩
    rw [← bl_app] at ho4
    have hy4 : Byts w4 a4 (T ++ q) := own_byts ho4 (app_lt HY2.out.lt HQY.out.lt)
    have hc4 : 19 + m ≤ k4 := own_cap ho4
    have HB4 := hid (HB2.out.trans (hb4.mono HB2.out.size))
    have HX4 := hid (HX2.out.below hb4 HX2.out.lt)
    have HT4 := hid (HT2.out.keep (hb4.block _ HT2.out.lt))
    have HG4 := hid (HGT.out w4 _ a4 k4 HT4.out hy4 hc4)
    clear ho4 hg4 hat4 hb4 hy4 hc4 HO3 HB3 HQ3 hs3 HB2 HX2 HT2 HY2 HN2
    go_wp2_with fail
    refine HG4.out.mono ?_
    rintro e w5 ⟨rfl, hb5⟩
    rw [show iv i = .agg #[.int .i64 i.k, .int .i64 i.f.ch, .int .i64 i.f.bits, .int .i64 i.f.rate, .int .i64 i.bk, .int .i64 i.sh] from rfl]
    have hbn := below_new w5 (.cells #[.int .i64 i.k, .int .i64 i.f.ch, .int .i64 i.f.bits, .int .i64 i.f.rate, .int .i64 i.bk, .int .i64 i.sh] 25)
    have hb6 := (HB4.out.trans (hb5.mono HB4.out.size))
    have HB6 := hid (hb6.trans (hbn.mono hb6.size))
    have hx6 := (HX4.out.below hb5 HX4.out.lt)
    have hx6' := hx6.below hbn hx6.lt
    have ht6 := (HT4.out.keep (hb5.block _ HT4.out.lt))
    have HT6 := hid (ht6.keep (hbn.block _ ht6.lt))
    have HY6 := hid (HQY.out.keep HB6.out)
    have c0 := hx6'.c0; have c1 := hx6'.c1; have c2 := hx6'.c2; have c3 := hx6'.c3; have c4 := hx6'.c4; have c5 := hx6'.c5
    clear hb5 hbn hb6 hx6 hx6' ht6 HB4 HX4 HT4 HG4
    go_wp2_with fail
    change Calls _ _ _ (w5.alloc (.cells #[.int .i64 i.k, .int .i64 i.f.ch, .int .i64 i.f.bits, .int .i64 i.f.rate, .int .i64 i.bk, .int .i64 i.sh] 25)) _
    generalize w5.alloc (.cells #[.int .i64 i.k, .int .i64 i.f.ch, .int .i64 i.f.bits, .int .i64 i.f.rate, .int .i64 i.bk, .int .i64 i.sh] 25) = V at *
    clear c0 c1 c2 c3 c4 c5
    refine (HGB.out V _ HT6.out HY6.out).mono ?_
    rintro e v1 ⟨rfl, hb1⟩
    have HB7 := hid (HB6.out.trans (hb1.mono HB6.out.size))
    have HT7 := hid (HT6.out.keep (hb1.block _ HT6.out.lt))
    clear hb1
    by_cases hx : getE q = 0
    · obtain ⟨hrt, h19, hib⟩ := HIG.out hx
      rw [HGX.out, hx, if_pos rfl]
      have HP2 := hid fun (w' : World) (g : Nat) (ht : Tab w' g) => (show Calls Try.prog 9 #[.pointer (some ⟨g, 0, none⟩), .agg #[.int .i64 (inl q).k, .int .i64 (inl q).f.ch, .int .i64 (inl q).f.bits, .int .i64 (inl q).f.rate, .int .i64 (inl q).bk, .int .i64 (inl q).sh]] w' _ from put_ok ht (inl q) hrt)
      rw [hib] at HP2
      have h19m : 19 ≤ m := by rw [← HQL.out]; exact h19
      have h19c : 19 ≤ mc := by omega
      have HL19 := hid (show (q.take 19).length = 19 from by rw [List.length_take]; omega)
      clear hrt h19 hib hx
      rw [show iv (inl q) = .agg #[.int .i64 (inl q).k, .int .i64 (inl q).f.ch, .int .i64 (inl q).f.bits, .int .i64 (inl q).f.rate, .int .i64 (inl q).bk, .int .i64 (inl q).sh] from rfl]
      generalize inl q = h at *
      have hbn := below_new v1 (.cells #[.int .i64 h.k, .int .i64 h.f.ch, .int .i64 h.f.bits, .int .i64 h.f.rate, .int .i64 h.bk, .int .i64 h.sh] 25)
      have HT8 := hid (HT7.out.keep (hbn.block _ HT7.out.lt))
      have HB8 := hid (HB7.out.trans (hbn.mono HB7.out.size))
      clear hbn
      go_wp2_with fail
      refine (HP2.out _ _ HT8.out).mono ?_
      rintro e v3 ⟨a3, k3, rfl, hl3⟩
      have HB9 := hid (HB8.out.trans (hl3.bel.mono HB8.out.size))
      have HY9 := hid (HQY.out.keep HB9.out)
      have HD9 := hid hl3.byts
      rw [HL19.out]
      clear hl3
      have bd3 : Below v3.heap.size v3 v3.drew := ⟨rfl, rfl, rfl, Nat.le_refl _, fun _ _ => rfl⟩
      have b3 := HB9.out.trans (bd3.mono HB9.out.size)
      have cv3 := (HD9.out.keep bd3).conv k3
      have dv3 := ((HY9.out.keep bd3).take 19).conv mc
      rw [HL19.out] at cv3 dv3
      go_wp2_with fail
      go_region_with (first
        | (go_at_call 13; (with_reducible refine (HK.out _).mono ?_); rintro e w5 ⟨rfl, hb5⟩; have b5 := b3.trans (hb5.mono b3.size)))
      all_goals
        have hfin := b5
        clear b3 b5 cv3 dv3 hb5 bd3
        go_wp2_with fail
        go_ret
        exact ⟨rfl, hfin⟩
    · rw [HGX.out, if_neg hx]
      have hne : (getE q != 0) = true := by rw [bne_iff_ne]; exact hx
      generalize getE q = x at *
      rw [show iv iz = .agg #[.int .i64 0, .int .i64 0, .int .i64 0, .int .i64 0, .int .i64 0, .int .i64 0] from rfl]
      have hbn := below_new v1 (.cells #[.int .i64 0, .int .i64 0, .int .i64 0, .int .i64 0, .int .i64 0, .int .i64 0] 25)
      have HB8 := hid (HB7.out.trans (hbn.mono HB7.out.size))
      clear hbn
      go_wp2_with fail
      refine (HK.out _).mono ?_
      rintro e v2 ⟨rfl, hb2⟩
      have hfin := HB8.out.trans (hb2.mono HB8.out.size)
      clear hb2
      go_wp2_with fail
      go_ret
      exact ⟨rfl, hfin⟩
  · have HPT := hid fun (w' : World) (g : Nat) (_ : Tab w' g) => (show Calls Try.prog 9 #[.pointer (some ⟨g, 0, none⟩), .agg #[.int .i64 i.k, .int .i64 i.f.ch, .int .i64 i.f.bits, .int .i64 i.f.rate, .int .i64 i.bk, .int .i64 i.sh]] w' _ from put_bad (w := w') (g := g) i hr)
    clear hr HGA
    go_enter Try.func5, Try.ntmps5
    go_wp2_with fail
    change Calls _ _ _ (w.alloc (.cells (ivl i) 25)) _
    generalize w.alloc (.cells (ivl i) 25) = W at *
    refine (make_any _).mono ?_
    rintro e w1 ⟨rfl, ht1, hb1⟩
    have hx1 := HBX.out.below hb1 HBX.out.lt
    have HX1 := hid hx1
    have c0 := hx1.c0; have c1 := hx1.c1; have c2 := hx1.c2; have c3 := hx1.c3; have c4 := hx1.c4; have c5 := hx1.c5
    have HB1 := hid (HB0.out.trans (hb1.mono HB0.out.size))
    have HT1 := hid ht1
    clear ht1 hb1 hx1 HBX
    go_wp2_with fail
    refine (HPT.out _ _ HT1.out).mono ?_
    rintro e V ⟨ao, c, rfl, hl2⟩
    have HB6 := hid (HB1.out.trans (hl2.bel.mono HB1.out.size))
    have HT6 := hid (HT1.out.keep (hl2.bel.block _ HT1.out.lt))
    have HY6 := hid (HQY.out.keep HB6.out)
    clear hl2 c0 c1 c2 c3 c4 c5 HX1 HT1 HB1
    go_wp2_with fail
    refine (HGB.out V _ HT6.out HY6.out).mono ?_
    rintro e v1 ⟨rfl, hb1⟩
    have HB7 := hid (HB6.out.trans (hb1.mono HB6.out.size))
    have HT7 := hid (HT6.out.keep (hb1.block _ HT6.out.lt))
    clear hb1
    by_cases hx : getE q = 0
    · obtain ⟨hrt, h19, hib⟩ := HIG.out hx
      rw [HGX.out, hx, if_pos rfl]
      have HP2 := hid fun (w' : World) (g : Nat) (ht : Tab w' g) => (show Calls Try.prog 9 #[.pointer (some ⟨g, 0, none⟩), .agg #[.int .i64 (inl q).k, .int .i64 (inl q).f.ch, .int .i64 (inl q).f.bits, .int .i64 (inl q).f.rate, .int .i64 (inl q).bk, .int .i64 (inl q).sh]] w' _ from put_ok ht (inl q) hrt)
      rw [hib] at HP2
      have h19m : 19 ≤ m := by rw [← HQL.out]; exact h19
      have h19c : 19 ≤ mc := by omega
      have HL19 := hid (show (q.take 19).length = 19 from by rw [List.length_take]; omega)
      clear hrt h19 hib hx
      rw [show iv (inl q) = .agg #[.int .i64 (inl q).k, .int .i64 (inl q).f.ch, .int .i64 (inl q).f.bits, .int .i64 (inl q).f.rate, .int .i64 (inl q).bk, .int .i64 (inl q).sh] from rfl]
      generalize inl q = h at *
      have hbn := below_new v1 (.cells #[.int .i64 h.k, .int .i64 h.f.ch, .int .i64 h.f.bits, .int .i64 h.f.rate, .int .i64 h.bk, .int .i64 h.sh] 25)
      have HT8 := hid (HT7.out.keep (hbn.block _ HT7.out.lt))
      have HB8 := hid (HB7.out.trans (hbn.mono HB7.out.size))
      clear hbn
      go_wp2_with fail
      refine (HP2.out _ _ HT8.out).mono ?_
      rintro e v3 ⟨a3, k3, rfl, hl3⟩
      have HB9 := hid (HB8.out.trans (hl3.bel.mono HB8.out.size))
      have HY9 := hid (HQY.out.keep HB9.out)
      have HD9 := hid hl3.byts
      rw [HL19.out]
      clear hl3
      have bd3 : Below v3.heap.size v3 v3.drew := ⟨rfl, rfl, rfl, Nat.le_refl _, fun _ _ => rfl⟩
      have b3 := HB9.out.trans (bd3.mono HB9.out.size)
      have cv3 := (HD9.out.keep bd3).conv k3
      have dv3 := ((HY9.out.keep bd3).take 19).conv mc
      rw [HL19.out] at cv3 dv3
      go_wp2_with fail
      go_region_with (first
        | (go_at_call 13; (with_reducible refine (HK.out _).mono ?_); rintro e w5 ⟨rfl, hb5⟩; have b5 := b3.trans (hb5.mono b3.size)))
      all_goals
        have hfin := b5
        clear b3 b5 cv3 dv3 hb5 bd3
        go_wp2_with fail
        go_ret
        exact ⟨rfl, hfin⟩
    · rw [HGX.out, if_neg hx]
      have hne : (getE q != 0) = true := by rw [bne_iff_ne]; exact hx
      generalize getE q = x at *
      rw [show iv iz = .agg #[.int .i64 0, .int .i64 0, .int .i64 0, .int .i64 0, .int .i64 0, .int .i64 0] from rfl]
      have hbn := below_new v1 (.cells #[.int .i64 0, .int .i64 0, .int .i64 0, .int .i64 0, .int .i64 0, .int .i64 0] 25)
      have HB8 := hid (HB7.out.trans (hbn.mono HB7.out.size))
      clear hbn
      go_wp2_with fail
      refine (HK.out _).mono ?_
      rintro e v2 ⟨rfl, hb2⟩
      have hfin := HB8.out.trans (hb2.mono HB8.out.size)
      clear hb2
      go_wp2_with fail
      go_ret
      exact ⟨rfl, hfin⟩
end Go.Proofs.Ythaikhnplbbdlaa.Inf
