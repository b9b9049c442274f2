/- HeadChanges' walk, where a byte is changed; and of anything. Conditions: the memory's own form. -/
import Derived.Test.YtjdifacjeeadkaaVw
namespace Go.Proofs.Ytjdifacjeeadkaa.Head
open Go.RowKit Gen Fld
open Crc hiding hid

set_option maxHeartbeats 2000000 in
theorem chg_ok (w : World) (h : Hh) (hk : h.lk < 4294967296) {a : Option Addr} {p : List Nat} {len cap : Nat} (i y : Nat) (hl : p.length = len) (hb : Byts w a p) (hnil : a = none → len = 0 ∧ cap = 0) (hn : len ≤ 300) (hy : y ≠ 0) (hy8 : y < 256) (hr : Rt (szd h len)) (hi : i < len + 36) :
    Calls Try.prog 8 #[hv h, .slice a len cap, .int .i64 (i : Int), .int .u8 (y : Int)] w fun e w' => e = .returned (.bool true) ∧ Below w.heap.size w w' := by
  have HK := hid known_true
  have hse : ∀ (w : World) (g : Nat), Tab w g → Byts w a p → Calls Try.prog 20 #[.pointer (some ⟨g, 0, none⟩), .agg #[.int .i64 h.k, .int .i64 h.ix, .int .i64 h.ln, .int .i64 h.st, .int .i64 h.bd, .bool h.la, .int .u32 (h.lk : Int), .int .i64 h.sz], .slice a len cap] w (SealP w (cs (blo h p)) 0 (smd (blo h p))) := fun w g ht hp => by
    subst hl; exact seal_ok ht h hp hnil (by omega) hr hk
  have hsl : (smd (blo h p)).length = len + 36 := by rw [smd_len, blo_len]; omega
  obtain ⟨u, hu⟩ : ∃ u, (smd (blo h p))[i]? = some u := ⟨_, List.getElem?_eq_getElem (by omega)⟩
  have hslt := smd_lt (blo_lt (h := h) (p := p) hb.lt)
  have hu8 : u < 256 := hslt u (List.mem_of_getElem? hu)
  have hch := change h p hb.lt (by rw [hl]; exact hr) hk i u (u ^^^ y) hu (xor_ne u y hy) (xor_lt8 hu8 hy8)
  have hsl2 : ((smd (blo h p)).set i (u ^^^ y)).length = len + 36 := by rw [List.length_set, hsl]
  have hopn : ∀ (w : World) (g : Nat) (a' : Option Addr) (c' : Nat), len + 36 ≤ c' → Tab w g → Byts w a' ((smd (blo h p)).set i (u ^^^ y)) → Calls Try.prog 22 #[.pointer (some ⟨g, 0, none⟩), .slice a' (len + 36) c'] w (OpenP w (opH ((smd (blo h p)).set i (u ^^^ y))) (opP ((smd (blo h p)).set i (u ^^^ y))) (opS ((smd (blo h p)).set i (u ^^^ y))) (opE ((smd (blo h p)).set i (u ^^^ y)))) := fun w g a' c' hc ht hp => by
    have := open_any (cap := c') ht hp (by omega) (by omega)
    rw [hsl2] at this
    exact this
  have hget : ∀ (w : World) (g : Nat) (a' : Option Addr) (c' : Nat), len + 36 ≤ c' → Tab w g → Byts w a' ((smd (blo h p)).set i (u ^^^ y)) → Calls Try.prog 18 #[.pointer (some ⟨g, 0, none⟩), .slice a' (len + 36) c'] w (HeadP w (getH ((smd (blo h p)).set i (u ^^^ y))) (getE ((smd (blo h p)).set i (u ^^^ y)))) := fun w g a' c' hc ht hp => by
    have := get_any (cap := c') ht hp (by omega) (by omega)
    rw [hsl2] at this
    exact this
  have hoe : (opE ((smd (blo h p)).set i (u ^^^ y)) != 0) = true := bne_iff_ne.2 hch.1
  have hgd : (getE ((smd (blo h p)).set i (u ^^^ y)) != 0) = decide ((i : Int) < 32) := by
    by_cases h32 : i < 32
    · rw [decide_eq_true (by omega)]; exact bne_iff_ne.2 (hch.2.2 h32)
    · rw [decide_eq_false (by omega), hch.2.1 (by omega)]; rfl
  have HOPN := hid hopn
  have HGET := hid hget
  have HGD := hid hgd
  have HU := hid hu
  have HSLT := hid hslt
  have hxr : bits .xor .u8 (u : Int) (y : Int) = ((u ^^^ y : Nat) : Int) := xor8 u y hu8 hy8
  have hx8 := xor_lt8 hu8 hy8
  have HX8 := hid hx8
  have hi0 : ¬ (i : Int) < 0 := by omega
  have hi36 : ¬ (len : Int) + 36 ≤ (i : Int) := by omega
  have HSE := hid hse
  have HSL := hid hsl
  have HBX := hid (Bx.new w h)
  have HB0 := hid (below_new w (.cells (hvl h) 24))
  have HBY := hid hb
  have h3 : ¬ (300 : Int) < (len : Int) := by omega
  have hy0 : ((y : Int) == 0) = false := by simpa using hy
  obtain ⟨i0, hi5, hz0, hz1, hz2⟩ := info_parts Try.info5
  clear hse hsl hr hb hl hk hnil hy hch hsl2 hopn hget hgd hu hslt hx8 hu8 hy8
  generalize opE ((smd (blo h p)).set i (u ^^^ y)) = xo at *
  generalize opH ((smd (blo h p)).set i (u ^^^ y)) = ho at *
  generalize opP ((smd (blo h p)).set i (u ^^^ y)) = po at *
  generalize opS ((smd (blo h p)).set i (u ^^^ y)) = so at *
  generalize getE ((smd (blo h p)).set i (u ^^^ y)) = xg at *
  generalize getH ((smd (blo h p)).set i (u ^^^ y)) = hg at *
  generalize smd (blo h p) = S at *
  generalize cs (blo h p) = s at *
  change Calls Try.prog 8 #[.agg #[.int .i64 h.k, .int .i64 h.ix, .int .i64 h.ln, .int .i64 h.st, .int .i64 h.bd, .bool h.la, .int .u32 (h.lk : Int), .int .i64 h.sz], .slice a len cap, .int .i64 (i : Int), .int .u8 (y : Int)] w _
  go_enter Try.func8, Try.ntmps8
  go_wp2_with fail
  have HSZ := hid HBX.out.lt
  change Calls _ _ _ (w.alloc (.cells (hvl h) 24)) _
  generalize w.alloc (.cells (hvl h) 24) = W at *
  refine (make_any _).mono ?_
  rintro e w1 ⟨rfl, ht1, hb1⟩
  have hx1 := HBX.out.below hb1 HBX.out.lt
  have c0 := hx1.c0; have c1 := hx1.c1; have c2 := hx1.c2; have c3 := hx1.c3; have c4 := hx1.c4; have c5 := hx1.c5; have c6 := hx1.c6; have c7 := hx1.c7
  have HB1 := hid (HB0.out.trans (hb1.mono HB0.out.size))
  have HT1 := hid ht1
  clear ht1 hb1 hx1 HBX HB0
  go_wp2_with fail
  refine (HSE.out _ _ HT1.out (HBY.out.keep HB1.out)).mono ?_
  rintro e w2 ⟨ao, c, rfl, hl2⟩
  rw [HSL.out]
  have HB2 := hid (HB1.out.trans (hl2.bel.mono HB1.out.size))
  have HT2 := hid (HT1.out.keep (hl2.bel.block _ HT1.out.lt))
  have HY2 := hid hl2.byts
  have HN2 := hid hl2.nil
  rw [HSL.out] at HN2
  clear hl2 c0 c1 c2 c3 c4 c5 c6 c7 HT1 HB1
  go_wp2_with (at_builtin; (refine (wpList_append_list w2 (by rfl) _ _ _ (by rfl) w2.heap.size 5 i0 _ 1 Try.underlying25 hi5 hz0 hz1 hz2 rfl none 0 0 [] (by rfl) (World.ownsRow_nil _ _ _ _) ao (len + 36) c (bl S) (by rfl) ((bl_len _).trans HSL.out) HN2.out HY2.out.cells (bl_one _) (by unfold maxLen; omega) (by omega) (Nat.le_refl _) ?_)))
  intro a3 k3 w3 ho3 hg3 hat3
  have hb3 : Below w2.heap.size w2 w3 := ⟨hg3.os, hg3.tape, hg3.output, hg3.size, fun k hk => hg3.block k hk (by simp [blk])⟩
  have ho3' : w3.ownsRow w2.heap.size 5 1 (.slice a3 (len + 36) k3) (len + 36) (bl S) := by simpa using ho3
  obtain ⟨g3, rfl⟩ : ∃ g, a3 = some ⟨g, 0, none⟩ := by
    rcases ownsRow_at ho3' with ⟨_, h1, _⟩ | h1
    · omega
    · exact h1
  have hc3 := own_cap ho3'
  have hb3c : w3.cell? ⟨g3, i, none⟩ = some (.int .u8 (u : Int)) := ownsRow_cell ho3' i _ (by rw [bl_at, HU.out]; rfl)
  have hf3 : w3.frozen? ⟨g3, i, none⟩ = false := ho3'.frozenAt i
  have hg3b := (ho3'.lt g3 rfl).1
  have hy3 := own_byts ho3' HSLT.out
  have hy4 := byts_set hy3 (i := i) (v := u ^^^ y) (by rw [HSL.out]; exact hi) HX8.out
  rw [Nat.zero_add] at hy4
  have hne : ∀ k, k < w2.heap.size → (w3.setCell ⟨g3, i, none⟩ (.int .u8 ((u ^^^ y : Nat) : Int))).heap[k]? = w2.heap[k]? := fun k hk => (heap_setCell_other _ _ _ _ (by show k ≠ g3; omega)).trans (hb3.block k hk)
  have hb4 : Below w2.heap.size w2 (w3.setCell ⟨g3, i, none⟩ (.int .u8 ((u ^^^ y : Nat) : Int))) := hb3.setCell (p := ⟨g3, i, none⟩) hg3b _
  have HY4 := hid hy4
  have HB4 := hid (HB2.out.trans (hb4.mono HB2.out.size))
  have HT4 := hid (HT2.out.keep (hb4.block _ HT2.out.lt))
  have HC3 := hid hc3
  clear ho3 hg3 hat3 hb3 ho3' hg3b hy3 hy4 hne hb4 HY2 HN2 HB2 HT2 hc3
  have hi36' : (i : Int) < (len : Int) + 36 := by omega
  have hiN : i < len + 36 := hi
  go_wp2_with fail
  generalize w3.setCell ⟨g3, i, none⟩ (.int .u8 ((u ^^^ y : Nat) : Int)) = w4 at *
  clear hb3c hf3
  refine (HOPN.out w4 _ _ _ HC3.out HT4.out HY4.out).mono ?_
  rintro e w5 ⟨a5, k5, rfl, hl5⟩
  rw [show hv ho = .agg #[.int .i64 ho.k, .int .i64 ho.ix, .int .i64 ho.ln, .int .i64 ho.st, .int .i64 ho.bd, .bool ho.la, .int .u32 (ho.lk : Int), .int .i64 ho.sz] from rfl]
  have hbn := below_new w5 (.cells #[.int .i64 ho.k, .int .i64 ho.ix, .int .i64 ho.ln, .int .i64 ho.st, .int .i64 ho.bd, .bool ho.la, .int .u32 (ho.lk : Int), .int .i64 ho.sz] 24)
  have HB6 := hid ((HB4.out.trans (hl5.bel.mono HB4.out.size)).trans (hbn.mono (HB4.out.trans (hl5.bel.mono HB4.out.size)).size))
  have ht5 := (HT4.out.keep (hl5.bel.block _ HT4.out.lt))
  have HT6 := hid (ht5.keep (hbn.block _ ht5.lt))
  have HY6 := hid ((HY4.out.keep hl5.bel).keep hbn)
  clear hl5 hbn ht5 HB4 HT4 HY4
  go_wp2_with fail
  refine (HGET.out _ _ _ _ HC3.out HT6.out HY6.out).mono ?_
  rintro e w7 ⟨rfl, hb7⟩
  rw [show hv hg = .agg #[.int .i64 hg.k, .int .i64 hg.ix, .int .i64 hg.ln, .int .i64 hg.st, .int .i64 hg.bd, .bool hg.la, .int .u32 (hg.lk : Int), .int .i64 hg.sz] from rfl]
  have hbn := below_new w7 (.cells #[.int .i64 hg.k, .int .i64 hg.ix, .int .i64 hg.ln, .int .i64 hg.st, .int .i64 hg.bd, .bool hg.la, .int .u32 (hg.lk : Int), .int .i64 hg.sz] 24)
  have HB8 := hid ((HB6.out.trans (hb7.mono HB6.out.size)).trans (hbn.mono (HB6.out.trans (hb7.mono HB6.out.size)).size))
  clear hb7 hbn HB6 HT6 HY6
  have hgd := HGD.out
  by_cases h32 : i < 32
  · have h32i : (i : Int) < 32 := by omega
    rw [decide_eq_true h32i] at hgd
    clear h32
    go_wp2_with fail
    refine (HK.out _).mono ?_
    rintro e w9 ⟨rfl, hb9⟩
    have hfin := HB8.out.trans (hb9.mono HB8.out.size)
    clear hb9
    go_wp2_with fail
    go_ret
    exact ⟨rfl, hfin⟩
  · have h32i : ¬ (i : Int) < 32 := by omega
    rw [decide_eq_false h32i] at hgd
    have HH := hid (decide_eq_false h32i)
    clear h32
    go_wp2_with fail
    refine (HK.out _).mono ?_
    rintro e w9 ⟨rfl, hb9⟩
    have hfin := HB8.out.trans (hb9.mono HB8.out.size)
    clear hb9
    go_wp2_with fail
    go_ret
    refine ⟨?_, hfin⟩
    show Ending.returned (.bool (!decide ((i : Int) < 32))) = _
    rw [HH.out]
    rfl
theorem chg_walk (w : World) (h : Hh) (hk : h.lk < 4294967296) {a : Option Addr} {p : List Nat} {len cap : Nat} (at_ : Int) (y : Nat) (hl : p.length = len) (hb : Byts w a p) (hnil : a = none → len = 0 ∧ cap = 0) (hy8 : y < 256) :
    Calls Try.prog 8 #[hv h, .slice a len cap, .int .i64 at_, .int .u8 (y : Int)] w fun e w' => e = .returned (.bool true) ∧ Below w.heap.size w w' := by
  by_cases h1 : 300 < len
  · exact chg_far w h a len cap at_ y (.inl h1)
  by_cases h2 : y = 0
  · exact chg_far w h a len cap at_ y (.inr ⟨by omega, h2⟩)
  by_cases hr : Rt (szd h len)
  · by_cases h3 : at_ < 0 ∨ (len : Int) + 36 ≤ at_
    · exact chg_out w h hk at_ y hl hb hnil (by omega) h2 hr (by omega)
    · obtain ⟨i, rfl⟩ := Int.eq_ofNat_of_zero_le (show 0 ≤ at_ by omega)
      exact chg_ok w h hk i y hl hb hnil (by omega) h2 hy8 hr (by omega)
  · exact chg_bad w h a len cap at_ y (by omega) h2 hr
end Go.Proofs.Ytjdifacjeeadkaa.Head
