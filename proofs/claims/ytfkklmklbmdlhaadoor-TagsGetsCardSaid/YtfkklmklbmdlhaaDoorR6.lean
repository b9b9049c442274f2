/- TagsGets' walk: any bytes are read as the document's tags, or refused; what is read is laid as the bytes that it was. Conditions: the memory's own form, and the two tables of unicode/utf8. -/
import Derived.Test.YtfkklmklbmdlhaaDoorR5
import Derived.Test.YtfkklmklbmdlhaaDoorTk
namespace Go.Proofs.YtfkklmklbmdlhaaDoor.Tg
open Go.RowKit Gen Fld
open Crc hiding hid

theorem get_put {L : List Nat} (hb : ∀ x ∈ L, x < 256) (hl : L.length ≤ 549755813888) (h : gF L = 0) :
    (chk (gt (gL L)) (gL L).length).2 = 0 ∧ lay (gt (gL L)) (gL L).length = L.take (gP L) ∧ gP L ≤ L.length ∧ Sz (gt (gL L)) (gL L).length := by
  obtain ⟨h1, h2, h3, h4⟩ := get_back hb h
  have hg := gc_lt hb
  have hc : chk (gt (gL L)) (gL L).length = chk (gT L) (gc L) := by
    rw [h2, lst_len]
    exact chk_congr fun j hj => gt_lst _ _ j hj
  refine ⟨by rw [hc]; exact h1, ?_, h3, ?_⟩
  · unfold lay
    rw [hc, if_pos h1, lst_gt, h2, h4]
  · rw [h2, lst_len]
    exact ⟨by omega, fun i hi => by rw [gt_lst _ _ i hi]; exact (gT_sz L hl i).1, fun i hi => by rw [gt_lst _ _ i hi]; exact (gT_sz L hl i).2⟩

set_option maxRecDepth 20000 in
set_option maxHeartbeats 4000000 in
theorem gets_walk (w : World) (hT : Tabs w) {a : Option Addr} {n cap : Nat} {L : List Nat} (hL : L.length = n) (hb : Byts w a L) (hc : n ≤ cap) (hcm : cap ≤ 9223372036854775807) (hn : a = none → n = 0 ∧ cap = 0) :
    Calls Tryd.prog 7 #[.slice a n cap] w fun e w' => e = .returned (.bool true) ∧ Below w.heap.size w w' := by
  have HK := hid known_true
  by_cases hbig : 2000 < n
  · have hbi : (2000 : Int) < (n : Int) := by omega
    clear hT hL hb hc hcm hn hbig
    go_enter Tryd.func7, Tryd.ntmps7
    go_wp2_with fail
    refine (HK.out _).mono ?_
    rintro e w8 ⟨rfl, hb8⟩
    have HB8 := hid hb8
    clear hb8
    go_wp2_with fail
    go_ret
    exact ⟨rfl, HB8.out⟩
  · have hbi : ¬ (2000 : Int) < (n : Int) := by omega
    have HGT := hid fun (w' : World) (g : Nat) (ht : Tab w' g) (hw : Below w.heap.size w w') => (show Calls Tryd.prog 25 #[.pointer (some ⟨g, 0, none⟩), .slice a n cap] w' (GetP w' L) by
      have h9 := get_any ht (hT.keep hw) (hb.keep hw) (cap := cap) (by rw [hL]; exact hn) (by rw [hL]; exact hc) (by rw [hL]; omega)
      rw [hL] at h9
      exact h9)
    have HRG := hid fun (w' : World) (hw : Below w.heap.size w w') => rget_any hL (hb.keep hw) (fun e => (hn e).2) hc hcm (by omega)
    have HPB := hid fun h => get_put hb.lt (by omega) h
    have HGP := hid (show GetP = fun w b e w' => ∃ ao cap, e = .returned (.tuple #[.slice ao (gL b).length cap, .int .i64 (gP b : Int), .int .i64 (gF b)]) ∧ Ow w' w.heap.size ao cap (gL b) ∧ Below w.heap.size w w' from rfl)
    have hml : (gL L).length < 256 := by
      have h9 := gc_lt hb.lt
      unfold gL
      split
      · rw [lst_len]; exact h9
      · show 0 < 256; decide
    have HT := hid hT
    have HTK := hid fun (p : Nat) (hp : p ≤ n) (w' : World) (hw : Below w.heap.size w w') => (show (convert 40 9 (.slice a p cap)).run Tryd.prog w' = .ok (.string (tos (L.take p))) w' by
      have h9 := ((hb.keep hw).take p).conv cap
      rw [show (L.take p).length = p by rw [List.length_take, hL]; exact Nat.min_eq_left hp] at h9
      exact h9)
    have HTL := hid fun (p : Nat) (hp : p ≤ n) => (show (L.take p).length = p by rw [List.length_take, hL]; exact Nat.min_eq_left hp)
    have HGQ := hid fun (w' w'' : World) (e : Ending) (h : GetP w' L e w'') => (show ∃ ao cap, e = .returned (.tuple #[.slice ao (gL L).length cap, .int .i64 (gP L : Int), .int .i64 (gF L)]) ∧ Ow w'' w'.heap.size ao cap (gL L) ∧ Below w'.heap.size w' w'' from h)
    rw [hL] at HPB
    clear hT hb hcm hn hbig HGP
    generalize gL L = M at *
    generalize gP L = PP at *
    generalize gF L = F at *
    have q1 : (F != F) = false := bne_self_eq_false _
    have q2 : ((PP : Int) != (PP : Int)) = false := bne_self_eq_false _
    go_enter Tryd.func7, Tryd.ntmps7
    go_wp2_with fail
    refine (make_any _).mono ?_
    rintro e w2 ⟨rfl, ht2, hb2⟩
    have HB2 := hid hb2
    have HT2 := hid ht2
    clear hb2 ht2
    go_wp2_with fail
    refine (HGT.out _ _ HT2.out HB2.out).mono ?_
    intro e w3 h3
    obtain ⟨ao3, c3, rfl, ho3, hb3⟩ := HGQ.out _ _ _ h3
    have HB3 := hid (HB2.out.trans (hb3.mono HB2.out.size))
    have HT3 := hid (HT2.out.keep (hb3.block _ HT2.out.lt))
    have HO3 := hid ho3
    clear h3 ho3 hb3 HT2
    go_wp2_with fail
    refine (HRG.out _ HB3.out).mono ?_
    intro e w4 h4
    obtain ⟨ao4, c4, rfl, ho4, hb4⟩ := HGQ.out _ _ _ h4
    have HB4 := hid (HB3.out.trans (hb4.mono HB3.out.size))
    have HT4 := hid (HT3.out.keep (hb4.block _ HT3.out.lt))
    have HO4 := hid (HO3.out.keep hb4)
    obtain ⟨b4, t4, _, _⟩ := HO4.out.tb
    obtain ⟨b5, t5, _, _⟩ := Ow.tb ho4
    have hsa := rsame_any w4 t4 t5 (by omega) c3 c4
    rw [decide_eq_true (Eqs.refl (gt M) M.length)] at hsa
    have HSA := hid hsa
    clear h4 ho4 hb4 t4 t5 hsa HT3 HO3 HRG HGT HGQ
    go_wp2_with fail
    refine HSA.out.mono ?_
    rintro e w5 ⟨rfl, hb5⟩
    have HB5 := hid (HB4.out.trans (hb5.mono HB4.out.size))
    have HT5 := hid (HT4.out.keep (hb5.block _ HT4.out.lt))
    have HO5 := hid (HO4.out.keep hb5)
    clear hb5 HSA HT4 HO4
    by_cases hF : F = 0
    · obtain ⟨p1, p2, p3, p4⟩ := HPB.out hF
      have q0 : (F != 0) = false := by rw [hF]; rfl
      obtain ⟨b6, t6, _, _⟩ := HO5.out.tb
      have hpu := put_any HT5.out (HT.out.keep HB5.out) t6 p4 HO5.out.cap
      rw [p1, p2] at hpu
      have HPU := hid hpu
      have HPL := hid (HTL.out PP p3)
      have HTQ := hid (HTK.out PP p3)
      obtain ⟨A, hA⟩ : ∃ A, A = L.take PP := ⟨_, rfl⟩
      rw [← hA] at HPU HPL HTQ
      have hpn : (PP : Int) ≤ (n : Int) := by omega
      have hpc : (PP : Int) ≤ (cap : Int) := by omega
      clear p1 p2 p3 p4 hpu t6 hA HPB HTK HTL HO5 HT5 hF
      go_wp2_with fail
      refine HPU.out.mono ?_
      rintro e w7 ⟨ao7, c7, rfl, hnl⟩
      have HB7 := hid (HB5.out.trans (hnl.bel.mono HB5.out.size))
      have HN7 := hid hnl
      rw [HPL.out]
      have HCA := hid fun (w' : World) (hw : Below w7.heap.size w7 w') => (show (convert 40 9 (.slice ao7 PP c7)).run Tryd.prog w' = .ok (.string (tos A)) w' by
        have h9 := (HN7.out.byts.keep hw).conv c7
        rw [HPL.out] at h9
        exact h9)
      have kA := fun p : Kp w7 => HCA.out p.w' (below_of_fr p.h)
      have kB := fun p : Kp w7 => HTQ.out p.w' (HB7.out.trans ((below_of_fr p.h).mono HB7.out.size))
      have qs : ((tos A).toList == (tos A).toList) = true := beq_self_eq_true _
      clear hnl HPU
      go_wp2_with fail
      refine wp_region_quiet_kp (by kernel_rfl) (by kernel_rfl) ?_
      repeat (first | go_big_quiet_step ((go_at_call 10; exact kp_below (HK.out _))) | fail)
      refine wpQuiet_nil ?_
      intro _ hw'
      obtain ⟨⟨wq, hq⟩, hw''⟩ := hw'
      subst hw''
      have HBQ := hid (HB7.out.trans ((below_of_fr hq).mono HB7.out.size))
      clear hq kA kB
      go_wp2_with fail
      go_ret
      exact ⟨rfl, HBQ.out⟩
    · have q0 : (F != 0) = true := by rw [bne_iff_ne]; exact hF
      clear HPB hF
      go_wp2_with fail
      refine (HK.out _).mono ?_
      rintro e w8 ⟨rfl, hb8⟩
      have HB8 := hid (HB5.out.trans (hb8.mono HB5.out.size))
      clear hb8
      go_wp2_with fail
      go_ret
      exact ⟨rfl, HB8.out⟩
end Go.Proofs.YtfkklmklbmdlhaaDoor.Tg
