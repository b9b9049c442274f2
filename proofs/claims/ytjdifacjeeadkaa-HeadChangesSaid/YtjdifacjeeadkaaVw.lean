/- HeadChanges' walk: with a byte of a block changed it is not opened. Conditions: the memory's own form. -/
import Derived.Test.YtjdifacjeeadkaaBk
namespace Go.Proofs.Ytjdifacjeeadkaa.Head
open Go.RowKit Gen Fld
open Crc hiding hid

theorem byts_set {w : World} {b off : Nat} {l : List Nat} (h : Byts w (some ⟨b, off, none⟩) l) {i v : Nat} (hi : i < l.length) (hv : v < 256) : Byts (w.setCell ⟨b, off + i, none⟩ (.int .u8 (v : Int))) (some ⟨b, off, none⟩) (l.set i v) := by
  refine ⟨fun x hx => ?_, fun j x hj => ⟨b, off, rfl, ?_⟩⟩
  · rcases List.mem_or_eq_of_mem_set hx with h1 | h1
    · exact h.lt x h1
    · omega
  · by_cases hij : j = i
    · subst hij
      rw [List.getElem?_set_self hi] at hj
      cases hj
      obtain ⟨b', off', e, hc⟩ := h.at_ j (l[j]) (List.getElem?_eq_getElem hi)
      cases e
      exact World.cell?_setCell_same _ _ _ (by rw [hc])
    · rw [List.getElem?_set_ne (Ne.symm hij)] at hj
      obtain ⟨b', off', e, hc⟩ := h.at_ j x hj
      cases e
      rw [World.cell?_setCell_other _ _ _ _ (by intro e; have e1 := congrArg Addr.off e; have e2 : off + i = off + j := e1; omega)]
      exact hc
theorem xor_ne (u y : Nat) (hy : y ≠ 0) : u ≠ u ^^^ y := fun e => hy (by
  have h1 : u ^^^ (u ^^^ y) = u ^^^ u := congrArg (u ^^^ ·) e.symm
  rw [← Nat.xor_assoc, Nat.xor_self, Nat.zero_xor] at h1
  exact h1)
theorem xor_lt8 {u y : Nat} (hu : u < 256) (hy : y < 256) : u ^^^ y < 256 := Nat.xor_lt_two_pow (n := 8) hu hy
theorem chg_far (w : World) (h : Hh) (a : Option Addr) (len cap : Nat) (at_ : Int) (y : Nat) (hn : 300 < len ∨ (len ≤ 300 ∧ y = 0)) :
    Calls Try.prog 8 #[hv h, .slice a len cap, .int .i64 at_, .int .u8 (y : Int)] w fun e w' => e = .returned (.bool true) ∧ Below w.heap.size w w' := by
  have HK := hid known_true
  have HB0 := hid (below_new w (.cells (hvl h) 24))
  change Calls Try.prog 8 #[.agg #[.int .i64 h.k, .int .i64 h.ix, .int .i64 h.ln, .int .i64 h.st, .int .i64 h.bd, .bool h.la, .int .u32 (h.lk : Int), .int .i64 h.sz], .slice a len cap, .int .i64 at_, .int .u8 (y : Int)] w _
  have hc : (300 : Int) < (len : Int) ∨ (¬ (300 : Int) < (len : Int) ∧ y = 0) := by omega
  clear hn
  rcases hc with h1 | ⟨h1, rfl⟩
  all_goals
    go_enter Try.func8, Try.ntmps8
    go_wp2_with fail
    refine (HK.out _).mono ?_
    rintro e w1 ⟨rfl, hb1⟩
    have hfin := HB0.out.trans (hb1.mono HB0.out.size)
    clear hb1
    go_wp2_with fail
    go_ret
    exact ⟨rfl, hfin⟩
set_option maxHeartbeats 1000000 in
theorem chg_bad (w : World) (h : Hh) (a : Option Addr) (len cap : Nat) (at_ : Int) (y : Nat) (hn : len ≤ 300) (hy : y ≠ 0) (hr : ¬ Rt (szd h len)) :
    Calls Try.prog 8 #[hv h, .slice a len cap, .int .i64 at_, .int .u8 (y : Int)] w fun e w' => e = .returned (.bool true) ∧ Below w.heap.size w w' := by
  have HK := hid known_true
  have hse : ∀ (w : World) (g : Nat), Calls Try.prog 20 #[.pointer (some ⟨g, 0, none⟩), .agg #[.int .i64 h.k, .int .i64 h.ix, .int .i64 h.ln, .int .i64 h.st, .int .i64 h.bd, .bool h.la, .int .u32 (h.lk : Int), .int .i64 h.sz], .slice a len cap] w (SealP w 0 32 []) := fun w g => seal_bad h a _ cap (by omega) hr
  have HSE := hid hse
  have HBX := hid (Bx.new w h)
  have HB0 := hid (below_new w (.cells (hvl h) 24))
  have h3 : ¬ (300 : Int) < (len : Int) := by omega
  have hy0 : ((y : Int) == 0) = false := by simpa using hy
  clear hse hr hy
  change Calls Try.prog 8 #[.agg #[.int .i64 h.k, .int .i64 h.ix, .int .i64 h.ln, .int .i64 h.st, .int .i64 h.bd, .bool h.la, .int .u32 (h.lk : Int), .int .i64 h.sz], .slice a len cap, .int .i64 at_, .int .u8 (y : Int)] w _
  go_enter Try.func8, Try.ntmps8
  go_wp2_with fail
  change Calls _ _ _ (w.alloc (.cells (hvl h) 24)) _
  generalize w.alloc (.cells (hvl h) 24) = W at *
  refine (make_any _).mono ?_
  rintro e w1 ⟨rfl, ht1, hb1⟩
  have hx1 := HBX.out.below hb1 HBX.out.lt
  have c0 := hx1.c0; have c1 := hx1.c1; have c2 := hx1.c2; have c3 := hx1.c3; have c4 := hx1.c4; have c5 := hx1.c5; have c6 := hx1.c6; have c7 := hx1.c7
  have HB1 := hid (HB0.out.trans (hb1.mono HB0.out.size))
  clear ht1 hb1 hx1 HBX HB0
  go_wp2_with fail
  refine (HSE.out _ _).mono ?_
  rintro e w2 ⟨ao, c, rfl, hl2⟩
  have HB2 := hid (HB1.out.trans (hl2.bel.mono HB1.out.size))
  clear hl2 c0 c1 c2 c3 c4 c5 c6 c7 HB1
  go_wp2_with fail
  refine (HK.out _).mono ?_
  rintro e w3 ⟨rfl, hb3⟩
  have hfin := HB2.out.trans (hb3.mono HB2.out.size)
  clear hb3
  go_wp2_with fail
  go_ret
  exact ⟨rfl, hfin⟩
set_option maxHeartbeats 1000000 in
theorem chg_out (w : World) (h : Hh) (hk : h.lk < 4294967296) {a : Option Addr} {p : List Nat} {len cap : Nat} (at_ : Int) (y : Nat) (hl : p.length = len) (hb : Byts w a p) (hnil : a = none → len = 0 ∧ cap = 0) (hn : len ≤ 300) (hy : y ≠ 0) (hr : Rt (szd h len)) (hat : at_ < 0 ∨ (¬ at_ < 0 ∧ (len : Int) + 36 ≤ at_)) :
    Calls Try.prog 8 #[hv h, .slice a len cap, .int .i64 at_, .int .u8 (y : Int)] w fun e w' => e = .returned (.bool true) ∧ Below w.heap.size w w' := by
  have HK := hid known_true
  have hse : ∀ (w : World) (g : Nat), Tab w g → Byts w a p → Calls Try.prog 20 #[.pointer (some ⟨g, 0, none⟩), .agg #[.int .i64 h.k, .int .i64 h.ix, .int .i64 h.ln, .int .i64 h.st, .int .i64 h.bd, .bool h.la, .int .u32 (h.lk : Int), .int .i64 h.sz], .slice a len cap] w (SealP w (cs (blo h p)) 0 (smd (blo h p))) := fun w g ht hp => by
    subst hl; exact seal_ok ht h hp hnil (by omega) hr hk
  have hsl : (smd (blo h p)).length = len + 36 := by rw [smd_len, blo_len]; omega
  have HSE := hid hse
  have HSL := hid hsl
  have HBX := hid (Bx.new w h)
  have HB0 := hid (below_new w (.cells (hvl h) 24))
  have HBY := hid hb
  have h3 : ¬ (300 : Int) < (len : Int) := by omega
  have hy0 : ((y : Int) == 0) = false := by simpa using hy
  clear hse hsl hr hb hl hk hnil hy
  generalize smd (blo h p) = S at *
  generalize cs (blo h p) = s at *
  change Calls Try.prog 8 #[.agg #[.int .i64 h.k, .int .i64 h.ix, .int .i64 h.ln, .int .i64 h.st, .int .i64 h.bd, .bool h.la, .int .u32 (h.lk : Int), .int .i64 h.sz], .slice a len cap, .int .i64 at_, .int .u8 (y : Int)] w _
  rcases hat with h1 | ⟨h1, h2⟩
  all_goals
    go_enter Try.func8, Try.ntmps8
    go_wp2_with fail
    have HSZ := hid HBX.out.lt
    change Calls _ _ _ (w.alloc (.cells (hvl h) 24)) _
    generalize w.alloc (.cells (hvl h) 24) = W at *
    refine (make_any _).mono ?_
    rintro e w1 ⟨rfl, ht1, hb1⟩
    have hx1 := HBX.out.below hb1 HBX.out.lt
    have c0 := hx1.c0; have c1 := hx1.c1; have c2 := hx1.c2; have c3 := hx1.c3; have c4 := hx1.c4; have c5 := hx1.c5; have c6 := hx1.c6; have c7 := hx1.c7
    have HB1 := hid (HB0.out.trans (hb1.mono HB0.out.size))
    have HT1 := hid ht1
    clear ht1 hb1 hx1 HBX HB0
    go_wp2_with fail
    refine (HSE.out _ _ HT1.out (HBY.out.keep HB1.out)).mono ?_
    rintro e w2 ⟨ao, c, rfl, hl2⟩
    rw [HSL.out]
    have HB2 := hid (HB1.out.trans (hl2.bel.mono HB1.out.size))
    clear hl2 c0 c1 c2 c3 c4 c5 c6 c7 HB1 HT1
    go_wp2_with fail
    refine (HK.out _).mono ?_
    rintro e w3 ⟨rfl, hb3⟩
    have hfin := HB2.out.trans (hb3.mono HB2.out.size)
    clear hb3
    go_wp2_with fail
    go_ret
    exact ⟨rfl, hfin⟩
end Go.Proofs.Ytjdifacjeeadkaa.Head
