/- HeadBack's walk: what is sealed is opened as it was. Conditions: the memory's own form. -/
import Derived.Test.YtjdifacjeeadkaaSw
import Derived.Test.YtjdifacjeeadkaaIq
import Derived.Test.YtjdifacjeeadkaaCm
namespace Go.Proofs.Ytjdifacjeeadkaa.Head
open Go.RowKit Gen Fld
open Crc hiding hid

theorem Bx.setSz {w : World} {g : Nat} {h : Hh} (b : Bx w g h) (n : Nat) : Bx (w.setCell ⟨g, 7, none⟩ (.int .i64 (n : Int))) g (szd h n) := by
  refine ⟨?_⟩
  rw [heap_setCell_same w g 7 _ _ _ b.row]
  rfl
set_option maxHeartbeats 1000000 in
theorem back_bad (w : World) (h : Hh) (a b : Option Addr) (len cap m mc : Nat) (hn : len ≤ 300) (hm : m ≤ 300) (hr : ¬ Rt (szd h len)) :
    Calls Try.prog 7 #[hv h, .slice a len cap, .slice b m mc] w fun e w' => e = .returned (.bool true) ∧ Below w.heap.size w w' := by
  have HK := hid known_true
  have hse : ∀ (w : World) (g : Nat), Calls Try.prog 20 #[.pointer (some ⟨g, 0, none⟩), .agg #[.int .i64 h.k, .int .i64 h.ix, .int .i64 h.ln, .int .i64 h.st, .int .i64 h.bd, .bool h.la, .int .u32 (h.lk : Int), .int .i64 h.sz], .slice a len cap] w (SealP w 0 32 []) := fun w g => seal_bad h a _ cap (by omega) hr
  have HSE := hid hse
  have HBX := hid (Bx.new w h)
  have HB0 := hid (below_new w (.cells (hvl h) 24))
  have h3 : ¬ (300 : Int) < (len : Int) := by omega
  have h4 : ¬ (300 : Int) < (m : Int) := by omega
  clear hse hr
  change Calls Try.prog 7 #[.agg #[.int .i64 h.k, .int .i64 h.ix, .int .i64 h.ln, .int .i64 h.st, .int .i64 h.bd, .bool h.la, .int .u32 (h.lk : Int), .int .i64 h.sz], .slice a len cap, .slice b m mc] w _
  go_enter Try.func7, Try.ntmps7
  go_wp2_with fail
  change Calls _ _ _ (w.alloc (.cells (hvl h) 24)) _
  generalize w.alloc (.cells (hvl h) 24) = W at *
  refine (make_any _).mono ?_
  rintro e w1 ⟨rfl, ht1, hb1⟩
  have hx1 := HBX.out.below hb1 HBX.out.lt
  have c0 := hx1.c0; have c1 := hx1.c1; have c2 := hx1.c2; have c3 := hx1.c3; have c4 := hx1.c4; have c5 := hx1.c5; have c6 := hx1.c6; have c7 := hx1.c7
  have HB1 := hid (HB0.out.trans (hb1.mono HB0.out.size))
  clear ht1 hb1 hx1 HBX HB0
  go_wp2_with fail
  refine (HSE.out _ _).mono ?_
  rintro e w2 ⟨ao, c, rfl, hl2⟩
  have HB2 := hid (HB1.out.trans (hl2.bel.mono HB1.out.size))
  clear hl2 c0 c1 c2 c3 c4 c5 c6 c7 HB1
  go_wp2_with fail
  refine (HK.out _).mono ?_
  rintro e w3 ⟨rfl, hb3⟩
  have hfin := HB2.out.trans (hb3.mono HB2.out.size)
  clear hb3
  go_wp2_with fail
  go_ret
  exact ⟨rfl, hfin⟩
theorem blo_szd (h : Hh) (p : List Nat) : blo (szd h p.length) p = blo h p := rfl
theorem back_se2 (h : Hh) (hk : h.lk < 4294967296) {p : List Nat} {len : Nat} (hl : p.length = len) (hn : len ≤ 300) (hr : Rt (szd h len)) (w : World) (g : Nat) (a' : Option Addr) (c' : Nat) (ht : Tab w g) (hp : Byts w a' p) (hn' : a' = none → len = 0 ∧ c' = 0) :
    Calls Try.prog 20 #[.pointer (some ⟨g, 0, none⟩), .agg #[.int .i64 h.k, .int .i64 h.ix, .int .i64 h.ln, .int .i64 h.st, .int .i64 h.bd, .bool h.la, .int .u32 (h.lk : Int), .int .i64 (len : Int)], .slice a' len c'] w (SealP w (cs (blo h p)) 0 (smd (blo h p))) := by
  subst hl
  rw [← blo_szd h p]
  exact seal_ok ht (szd h p.length) hp hn' (by omega) hr hk
theorem back_op (h : Hh) (hk : h.lk < 4294967296) {p q : List Nat} {len m : Nat} (hl : p.length = len) (hpl : ∀ b ∈ p, b < 256) (hm : q.length = m) (hn : len ≤ 300) (hm3 : m ≤ 300) (hr : Rt (szd h len)) (w : World) (g : Nat) (a' : Option Addr) (c' N : Nat) (hN : N = len + 36 + m) (hc : N ≤ c') (ht : Tab w g) (hp : Byts w a' (smd (blo h p) ++ q)) :
    Calls Try.prog 22 #[.pointer (some ⟨g, 0, none⟩), .slice a' N c'] w (OpenP w (szd h len) p (cs (blo h p)) 0) := by
  subst hl
  have hlen : (smd (blo h p) ++ q).length = N := by rw [List.length_append, smd_len, blo_len]; omega
  obtain ⟨e1, e2, e3, e4⟩ := open_smd h p hpl hr hk q
  have := open_any (cap := c') ht hp (by omega) (by omega)
  rw [hlen, e1, e2, e3, e4] at this
  exact this
set_option maxHeartbeats 1000000 in
theorem back_ok (w : World) (h : Hh) (hk : h.lk < 4294967296) {a b : Option Addr} {p q : List Nat} {len cap m mc : Nat} (hl : p.length = len) (hb : Byts w a p) (hnil : a = none → len = 0 ∧ cap = 0) (hm : q.length = m) (hq : Byts w b q) (hqn : b = none → m = 0 ∧ mc = 0) (hn : len ≤ 300) (hm3 : m ≤ 300) (hr : Rt (szd h len)) :
    Calls Try.prog 7 #[hv h, .slice a len cap, .slice b m mc] w fun e w' => e = .returned (.bool true) ∧ Below w.heap.size w w' := by
  have HK := hid known_true
  have hse : ∀ (w : World) (g : Nat), Tab w g → Byts w a p → Calls Try.prog 20 #[.pointer (some ⟨g, 0, none⟩), .agg #[.int .i64 h.k, .int .i64 h.ix, .int .i64 h.ln, .int .i64 h.st, .int .i64 h.bd, .bool h.la, .int .u32 (h.lk : Int), .int .i64 h.sz], .slice a len cap] w (SealP w (cs (blo h p)) 0 (smd (blo h p))) := fun w g ht hp => by
    subst hl; exact seal_ok ht h hp hnil (by omega) hr hk
  have HSE2 := hid (fun (w : World) (g : Nat) (a' : Option Addr) (c' : Nat) => back_se2 h hk hl hn hr w g a' c')
  have HOP := hid (fun (w : World) (g : Nat) (a' : Option Addr) (c' N : Nat) => back_op h hk hl hb.lt hm hn hm3 hr w g a' c' N)
  have hlo : ∀ w, Calls Try.prog 14 #[.agg #[.int .i64 h.k, .int .i64 h.ix, .int .i64 h.ln, .int .i64 h.st, .int .i64 h.bd, .bool h.la, .int .u32 (h.lk : Int), .int .i64 (len : Int)]] w fun e w' => e = .returned (.int .i64 ((len : Int) + 36)) ∧ Below w.heap.size w w' := fun w => by
    have := long_any (szd h len) w
    rw [if_pos hr, show 36 + (szd h len).sz = (len : Int) + 36 from Int.add_comm _ _] at this
    exact this
  have hsl : (smd (blo h p)).length = len + 36 := by rw [smd_len, blo_len]; omega
  have HSE := hid hse
  have HLO := hid hlo
  have HSL := hid hsl
  have HBX := hid (Bx.new w h)
  have HB0 := hid (below_new w (.cells (hvl h) 24))
  have HBY := hid hb
  have HQY := hid hq
  have HQN := hid hqn
  have HQL := hid hm
  have HPL := hid hl
  have h3 : ¬ (300 : Int) < (len : Int) := by omega
  have h4 : ¬ (300 : Int) < (m : Int) := by omega
  obtain ⟨i0, hi, hz0, hz1, hz2⟩ := info_parts Try.info5
  clear hse hlo hsl hr hb hl hk hnil hq hqn hm
  generalize smd (blo h p) = S at *
  generalize cs (blo h p) = s at *
  change Calls Try.prog 7 #[.agg #[.int .i64 h.k, .int .i64 h.ix, .int .i64 h.ln, .int .i64 h.st, .int .i64 h.bd, .bool h.la, .int .u32 (h.lk : Int), .int .i64 h.sz], .slice a len cap, .slice b m mc] w _
  go_enter Try.func7, Try.ntmps7
  go_wp2_with fail
  change Calls _ _ _ (w.alloc (.cells (hvl h) 24)) _
  have HSZ := hid HBX.out.lt
  generalize w.alloc (.cells (hvl h) 24) = W at *
  refine (make_any _).mono ?_
  rintro e w1 ⟨rfl, ht1, hb1⟩
  have hx1 := HBX.out.below hb1 HBX.out.lt
  have HX1 := hid hx1
  have c0 := hx1.c0; have c1 := hx1.c1; have c2 := hx1.c2; have c3 := hx1.c3; have c4 := hx1.c4; have c5 := hx1.c5; have c6 := hx1.c6; have c7 := hx1.c7
  have HB1 := hid (HB0.out.trans (hb1.mono HB0.out.size))
  have HT1 := hid ht1
  have hs1 := hb1.size
  clear ht1 hb1 hx1 HBX
  go_wp2_with fail
  refine (HSE.out _ _ HT1.out (HBY.out.keep HB1.out)).mono ?_
  rintro e w2 ⟨ao, c, rfl, hl2⟩
  have HB2 := hid (HB1.out.trans (hl2.bel.mono HB1.out.size))
  have HX2 := hid (HX1.out.below hl2.bel HX1.out.lt)
  have HT2 := hid (HT1.out.keep (hl2.bel.block _ HT1.out.lt))
  have HY2 := hid hl2.byts
  have HN2 := hid hl2.nil
  have HFo := hid (fun (b : Nat) (off : Nat) (e : ao = some ⟨b, off, none⟩) => Nat.le_trans hs1 (hl2.own.lt b (by rw [ownBlock_slice, e]; rfl)).1)
  rw [HSL.out] at HN2
  rw [HSL.out]
  clear hl2 c0 c1 c2 c3 c4 c5 c6 c7 HX1 HT1 HB1
  go_wp2_with (at_builtin; (refine (wpList_append_list w2 (by rfl) _ _ _ (by rfl) w2.heap.size 5 i0 _ 1 Try.underlying25 hi hz0 hz1 hz2 rfl none 0 0 [] (by rfl) (World.ownsRow_nil _ _ _ _) ao (len + 36) c (bl S) (by rfl) ((bl_len _).trans HSL.out) HN2.out HY2.out.cells (bl_one _) (by unfold maxLen; omega) (by omega) (Nat.le_refl _) ?_)))
  intro a3 k3 w3 ho3 hg3 hat3
  have hb3 : Below w2.heap.size w2 w3 := ⟨hg3.os, hg3.tape, hg3.output, hg3.size, fun k hk => hg3.block k hk (by simp [blk])⟩
  have ho3' : w3.ownsRow w2.heap.size 5 1 (.slice a3 (len + 36) k3) (len + 36) (bl S) := by simpa using ho3
  have HO3 := hid ho3'
  have HB3 := hid hb3
  have HQ3 := hid (HQY.out.keep (HB2.out.trans (hb3.mono HB2.out.size)))
  have hs3 := hb3.size
  clear ho3 hg3 hat3 hb3 ho3'
  go_wp2_with (at_builtin; (refine (wpList_append_list w3 (by rfl) _ _ _ (by rfl) w2.heap.size 5 i0 _ 1 Try.underlying25 hi hz0 hz1 hz2 rfl a3 (len + 36) k3 (bl S) (by rfl) HO3.out b m mc (bl q) (by rfl) ((bl_len _).trans HQL.out) HQN.out HQ3.out.cells (bl_one _) (by unfold maxLen; omega) (by omega) hs3 ?_)))
  intro a4 k4 w4 ho4 hg4 hat4
  have hb4 : Below w2.heap.size w2 w4 := HB3.out.trans ⟨hg4.os, hg4.tape, hg4.output, hg4.size, fun k hk => hg4.block k (Nat.lt_of_lt_of_le hk hs3) (fun e => by have := HO3.out.lt k (by rw [ownBlock_slice]; exact e.symm); omega)⟩
  rw [← bl_app] at ho4
  have hy4 : Byts w4 a4 (S ++ q) := own_byts ho4 (fun x hx => by
    rcases List.mem_append.1 hx with hx | hx
    · exact HY2.out.lt x hx
    · exact HQY.out.lt x hx)
  have hc4 : len + 36 + m ≤ k4 := own_cap ho4
  have HOP4 := hid (HOP.out w4 _ a4 k4 (len + 36 + m) rfl hc4 (HT2.out.keep (hb4.block _ HT2.out.lt)) hy4)
  have HB4 := hid (HB2.out.trans (hb4.mono HB2.out.size))
  have HX4 := hid (HX2.out.below hb4 HX2.out.lt)
  have HT4 := hid (HT2.out.keep (hb4.block _ HT2.out.lt))
  have HY4 := hid (HY2.out.keep hb4)
  clear ho4 hg4 hat4 hb4 hy4 hc4 HO3 HB3 HQ3 hs3 HB2 HX2 HT2 HY2 HN2
  go_wp2_with fail
  refine HOP4.out.mono ?_
  rintro e w5 ⟨a5, k5, rfl, hl5⟩
  rw [show hv (szd h len) = .agg #[.int .i64 h.k, .int .i64 h.ix, .int .i64 h.ln, .int .i64 h.st, .int .i64 h.bd, .bool h.la, .int .u32 (h.lk : Int), .int .i64 (len : Int)] from rfl]
  have hbn := below_new w5 (.cells #[.int .i64 h.k, .int .i64 h.ix, .int .i64 h.ln, .int .i64 h.st, .int .i64 h.bd, .bool h.la, .int .u32 (h.lk : Int), .int .i64 (len : Int)] 24)
  have HB6 := hid ((HB4.out.trans (hl5.bel.mono HB4.out.size)).trans (hbn.mono (HB4.out.trans (hl5.bel.mono HB4.out.size)).size))
  have hx6 := (HX4.out.below hl5.bel HX4.out.lt)
  have HX6 := hid (hx6.below hbn hx6.lt)
  have ht6 := (HT4.out.keep (hl5.bel.block _ HT4.out.lt))
  have HT6 := hid (ht6.keep (hbn.block _ ht6.lt))
  have HG6 := hid (show Bx (w5.alloc (.cells #[.int .i64 h.k, .int .i64 h.ix, .int .i64 h.ln, .int .i64 h.st, .int .i64 h.bd, .bool h.la, .int .u32 (h.lk : Int), .int .i64 (len : Int)] 24)) w5.heap.size (szd h len) from Bx.new w5 (szd h len))
  have HP6 := hid (hl5.byts.keep hbn)
  have HS6 := hid ((HY4.out.keep hl5.bel).keep hbn)
  have HN6 := hid hl5.nil
  have HF5 := hid (fun (b : Nat) (off : Nat) (e : a5 = some ⟨b, off, none⟩) => (hl5.own.lt b (by rw [ownBlock_slice, e]; rfl)).1)
  have HSZ5 := hid (show W.heap.size ≤ w4.heap.size ∧ w4.heap.size ≤ w5.heap.size from ⟨Nat.le_of_lt HT4.out.lt, hl5.bel.size⟩)
  rw [HPL.out] at HN6
  rw [HPL.out]
  have cv6 := HP6.out.conv k5
  rw [HPL.out] at cv6
  have dv6 := (HBY.out.keep HB6.out).conv cap
  rw [HPL.out] at dv6
  clear hl5 hbn hx6 ht6 HB4 HX4 HT4 HY4 HOP4
  go_wp2_with fail
  refine (HLO.out _).mono ?_
  rintro e w7 ⟨rfl, hb7⟩
  have HB7 := hid (HB6.out.trans (hb7.mono HB6.out.size))
  have hx7 := HX6.out.below hb7 HX6.out.lt
  have hg7 := HG6.out.below hb7 HG6.out.lt
  have ht7 := HT6.out.keep (hb7.block _ HT6.out.lt)
  have hp7 := HP6.out.keep hb7
  have hs7 := HS6.out.keep hb7
  have hne : w5.heap.size ≠ w.heap.size := by have := HSZ.out; have := HSZ5.out; omega
  have HX8 := hid (hx7.setSz len)
  have HG8 := hid (show Bx (w7.setCell ⟨w.heap.size, 7, none⟩ (.int .i64 (len : Int))) w5.heap.size (szd h len) from ⟨(heap_setCell_other _ _ _ _ hne).trans hg7.row⟩)
  have HT8 := hid (ht7.keep (heap_setCell_other w7 ⟨w.heap.size, 7, none⟩ W.heap.size (.int .i64 (len : Int)) (by have := HSZ.out; show W.heap.size ≠ w.heap.size; omega)))
  have HP8 := hid (hp7.stay (frq (q := w.heap.size) 7 (.int .i64 (len : Int))) (fun b off e => by have := HF5.out b off e; have := HSZ.out; have := HSZ5.out; omega))
  have HS8 := hid (hs7.stay (frq (q := w.heap.size) 7 (.int .i64 (len : Int))) (fun b off e => by have := HFo.out b off e; have := HSZ.out; omega))
  have HB8 := hid (HB7.out.setCell (p := ⟨w.heap.size, 7, none⟩) (Nat.le_refl _) (.int .i64 (len : Int)))
  have x7 := hx7.c7
  have z7 := hx7.fz 7
  have g0 := HG8.out.c0; have g1 := HG8.out.c1; have g2 := HG8.out.c2; have g3 := HG8.out.c3; have g4 := HG8.out.c4; have g5 := HG8.out.c5; have g6 := HG8.out.c6; have g7 : _ = some (Value.int .i64 (len : Int)) := HG8.out.c7
  clear hb7 hx7 hg7 ht7 hp7 hs7 cv6 dv6 HB6 HX6 HT6 HG6 HP6 HS6 hne HB7
  go_wp2_with fail
  generalize w7.setCell ⟨w.heap.size, 7, none⟩ (.int .i64 (len : Int)) = w8 at *
  refine (HSE2.out _ _ _ _ HT8.out HP8.out HN6.out).mono ?_
  rintro e w9 ⟨a9, k9, rfl, hl9⟩
  rw [HSL.out]
  have HB9 := hid (HB8.out.trans (hl9.bel.mono HB8.out.size))
  have hg9 := HG8.out.below hl9.bel HG8.out.lt
  have hx9 := HX8.out.below hl9.bel HX8.out.lt
  have cv9 := hl9.byts.conv k9
  have dv9 := (HS8.out.keep hl9.bel).conv c
  rw [HSL.out] at cv9 dv9
  have y0 := hg9.c0; have y1 := hg9.c1; have y2 := hg9.c2; have y3 := hg9.c3; have y4 := hg9.c4; have y5 := hg9.c5; have y6 := hg9.c6; have y7 : _ = some (Value.int .i64 (len : Int)) := hg9.c7
  have v0 := hx9.c0; have v1 := hx9.c1; have v2 := hx9.c2; have v3 := hx9.c3; have v4 := hx9.c4; have v5 := hx9.c5; have v6 := hx9.c6; have v7 : _ = some (Value.int .i64 (len : Int)) := hx9.c7
  simp only [szd] at y0 y1 y2 y3 y4 y5 y6 v0 v1 v2 v3 v4 v5 v6
  clear hl9 hg9 hx9 g0 g1 g2 g3 g4 g5 g6 g7 HX8 HG8 HT8 HP8 HS8 HB8 x7 z7
  go_wp2_with fail
  refine (HK.out _).mono ?_
  rintro e w10 ⟨rfl, hb10⟩
  have hfin := HB9.out.trans (hb10.mono HB9.out.size)
  clear hb10 cv9 dv9 y0 y1 y2 y3 y4 y5 y6 y7 v0 v1 v2 v3 v4 v5 v6 v7
  go_wp2_with fail
  go_ret
  exact ⟨rfl, hfin⟩
end Go.Proofs.Ytjdifacjeeadkaa.Head
