/- PartChooses' walk. No condition but the memory's own form. -/
import Derived.Test.YtjimamjhakainaaM37
import Derived.Test.YtjimamjhakainaaSYp
import Derived.Test.YtjimamjhakainaaM38
namespace Go.Proofs.Ytjimamjhakainaa.Part
open Go.RowKit Bit Rice Runs

theorem cods_snd (U : Nat → Nat) (k N L : Nat) : ∀ n, (cods U k N L n).2 = L + tot U k n
  | 0 => rfl
  | n + 1 => by
    have := cods_snd U k N L n
    show (cods U k N L n).2 + cost (U n) k = L + (tot U k n + cost (U n) k)
    omega
def plen (I : Nat → Int) (n : Nat) (x : Nat × Nat × Nat) : Prop := (pcw x I n (0, 0)).2 = x.2.2
theorem plen_1 (I : Nat → Int) (n q : Nat) : plen I n (1, q, 6 + tt I n q) := by
  show (cods (zs I) q (app (0, 0) q 6).1 (app (0, 0) q 6).2 n).2 = _
  rw [cods_snd]
  show 0 + 6 + tot (zs I) q n = 6 + tot (zs I) q n
  omega
theorem plen_2 (I : Nat → Int) (n q : Nat) (hq : q ≤ 30) (hn : n ≤ 1048576) (hz : allZ I n) : plen I n (2, q, 11 + cstI I (q : Nat) n) := by
  show (cfin I q (app (app (0, 0) 32 6) q 5) n).2 = 11 + cstI I (q : Nat) n
  have hc : cstI I (q : Nat) n = cst I (q : Nat) n := if_pos ⟨⟨by omega, by omega⟩, hz⟩
  have h1 := (cat_cfin I q hq n hn hz).1 (app (app (0, 0) 32 6) q 5)
  have h2 : cfin I q (app (app (0, 0) 32 6) q 5) n = app (app (app (0, 0) 32 6) q 5) (cfin I q (0, 0) n).1 (cfin I q (0, 0) n).2 := h1
  rw [hc, h2, ← cfin_cst]
  show 0 + 6 + 5 + (cfin I q (0, 0) n).2 = _
  omega
theorem plen_3 (I : Nat → Int) (n q : Nat) : plen I n (3, q, 12 + q * n) := by
  show (rawc I q (app (app (0, 0) 33 6) q 6) n).2 = _
  rw [rawc_len]
  show 0 + 6 + 6 + q * n = 12 + q * n
  omega
theorem plen_ite (I : Nat → Int) (n : Nat) (c : Prop) [Decidable c] (x y : Nat × Nat × Nat) (hx : plen I n x) (hy : plen I n y) : plen I n (if c then x else y) := by split <;> assumption
theorem wy_len (I : Nat → Int) (n : Nat) (hn : n ≤ 1048576) (hz : allZ I n) : plen I n (wy I n) := by
  have h0 : plen I n (0, 0, 6) := rfl
  have h1 := plen_1 I n (kr I n)
  have h2 := plen_2 I n (rbs I n 30) (rbs_le I n 30) hn hz
  have h3 := plen_3 I n (rw_ I n)
  unfold wy
  refine plen_ite I n _ _ _ h0 ?_
  dsimp only
  generalize (1, kr I n, 6 + tt I n (kr I n)) = z1 at *
  generalize (2, rbs I n 30, 11 + cstI I (rbs I n 30 : Nat) n) = z2 at *
  exact plen_ite I n _ _ _ h3 (plen_ite I n _ _ _ h2 h1)
set_option maxRecDepth 100000 in
set_option maxHeartbeats 4000000 in
theorem chooses_walk (w : World) (a : Option Addr) (len cap b off : Nat) (I : Nat → Int) (h : Is w a len cap b off I) :
    Calls Try.prog 3 #[.slice a len cap] w fun e w' => e = .returned (.bool true) ∧ Below w.heap.size w w' := by
  have HK := hid fun w' => known_true w'
  have H := hid h
  have hlt := h.lt
  have HLT := hid hlt
  clear hlt
  by_cases h60 : 60 < len
  · have h6 : (60 : Int) < (len : Int) := by omega
    clear h
    go_enter Try.func3, Try.ntmps3
    go_wp2_with fail
    refine (HK.out w).mono ?_
    rintro e w' ⟨rfl, hb⟩
    go_wp2_with fail
    go_ret
    exact ⟨rfl, hb⟩
  · have h6 : ¬ (60 : Int) < (len : Int) := by omega
    have HCH := hid (pchoose_any w a len cap b off I h)
    obtain ⟨⟨x1, x2, x3⟩, hx⟩ : ∃ x, wyc I len = x := ⟨_, rfl⟩
    rw [hx] at HCH
    have HX := hid hx
    clear h hx
    go_enter Try.func3, Try.ntmps3
    go_wp2_with fail
    refine HCH.out.mono ?_
    rintro e w1 ⟨rfl, hb1⟩
    obtain ⟨w2, hw2⟩ : ∃ w2, w1.alloc (.cells #[.int .i64 (x1 : Int), .int .i64 (x2 : Int)] 25) = w2 := ⟨_, rfl⟩
    have hb2 : Below w1.heap.size w1 w2 := by rw [← hw2]; exact (Below.refl w1.heap.size w1).alloc (Nat.le_refl _) _
    have hs2 : w2.heap.size = w1.heap.size + 1 := by rw [← hw2]; simp
    have hr2 : w2.rowIs w1.heap.size 25 2 (fun i => if i = 0 then .int .i64 (x1 : Int) else .int .i64 (x2 : Int)) := by
      rw [← hw2]; exact ⟨_, heap_alloc_new _ _, rfl, fun i hi => by rcases i with _ | _ | i <;> first | rfl | omega⟩
    have hbw : Below w.heap.size w w2 := hb1.trans (hb2.mono hb1.size)
    have y0 := hr2.cell (show 0 < 2 by decide)
    have y1 := hr2.cell (show 1 < 2 by decide)
    rw [if_pos rfl] at y0
    rw [if_neg (by decide)] at y1
    have his2 := H.out.below hbw HLT.out
    have HIS2 := hid his2
    have HBW := hid hbw
    have HMAY := hid (rmay_any w2 a len cap b off I his2)
    have HQ := hid (show w1.heap.size < w2.heap.size by omega)
    clear hb1 hb2 hs2 hr2 hbw his2
    go_wp2_with fail
    refine HMAY.out.mono ?_
    rintro e w' ⟨c, rfl, rfl, hc⟩
    by_cases hcd : cd I len
    · obtain rfl : c = true := hc.2 hcd
      have hxe : wy I len = (x1, x2, x3) := by rw [← HX.out]; exact (if_pos hcd).symm
      have HXE := hid hxe
      have HCD := hid hcd
      clear hc hxe hcd
      have hrc := rchoose_any w2 a len cap b off I HIS2.out (by have := HCD.out.1; omega) HCD.out.2
      rw [HXE.out] at hrc
      have HRC := hid hrc
      clear hrc
      go_wp2_with fail
      refine HRC.out.mono ?_
      rintro e w3 ⟨rfl, hb3⟩
      obtain ⟨w4, hw4⟩ : ∃ w4, w3.alloc (.cells #[.int .i64 (x1 : Int), .int .i64 (x2 : Int)] 29) = w4 := ⟨_, rfl⟩
      have hb4 : Below w2.heap.size w2 w4 := hb3.trans (by rw [← hw4]; exact (Below.refl _ w3).alloc hb3.size _)
      have hr4 : w4.rowIs w3.heap.size 29 2 (fun i => if i = 0 then .int .i64 (x1 : Int) else .int .i64 (x2 : Int)) := by
        rw [← hw4]; exact ⟨_, heap_alloc_new _ _, rfl, fun i hi => by rcases i with _ | _ | i <;> first | rfl | omega⟩
      have z0 := hr4.cell (show 0 < 2 by decide)
      have z1 := hr4.cell (show 1 < 2 by decide)
      rw [if_pos rfl] at z0
      rw [if_neg (by decide)] at z1
      have v0 := (hb4.cell (p := ⟨w1.heap.size, 0, none⟩) HQ.out).trans y0
      have v1 := (hb4.cell (p := ⟨w1.heap.size, 1, none⟩) HQ.out).trans y1
      have hcode := rcode_in w4 a len cap b off I (HIS2.out.below hb4 (fun hl => HIS2.out.lt hl)) (by have := HCD.out.1; omega) HCD.out.2
      have hpl : (pcw (wy I len) I len (0, 0)).2 = (wy I len).2.2 := wy_len I len (by omega) HCD.out.2
      rw [HXE.out] at hcode hpl
      have hpl2 : (pcw (x1, x2, x3) I len (0, 0)).2 = x3 := hpl
      rw [hpl2] at hcode
      have HCODE := hid hcode
      have HB4 := hid (HBW.out.trans (hb4.mono HBW.out.size))
      clear hb3 hb4 hr4 hcode hpl hpl2 y0 y1
      go_wp2_with fail
      refine HCODE.out.mono ?_
      rintro e w5 ⟨lo5, lcap5, rfl, hn5⟩
      have HB5 := hid (HB4.out.trans (hn5.below.mono HB4.out.size))
      clear hn5
      go_wp2_with fail
      refine (HK.out w5).mono ?_
      rintro e w6 ⟨rfl, hb6⟩
      have hfin := HB5.out.trans (hb6.mono HB5.out.size)
      clear hb6
      go_wp2_with fail
      go_ret
      exact ⟨rfl, hfin⟩
    · obtain rfl : c = false := by
        cases c
        · rfl
        · exact absurd (hc.1 rfl) hcd
      have hxe : (x1, x2, x3) = (0, 0, 0) := by rw [← HX.out]; exact if_neg hcd
      cases hxe
      clear hc hcd
      have y0 : w2.cell? ⟨w1.heap.size, 0, none⟩ = some (.int .i64 0) := y0
      have y1 : w2.cell? ⟨w1.heap.size, 1, none⟩ = some (.int .i64 0) := y1
      go_wp2_with fail
      refine (HK.out w2).mono ?_
      rintro e w6 ⟨rfl, hb6⟩
      have hfin := HBW.out.trans (hb6.mono HBW.out.size)
      clear hb6
      go_wp2_with fail
      go_ret
      exact ⟨rfl, hfin⟩
end Go.Proofs.Ytjimamjhakainaa.Part
