/- PartBack's walk. No condition but the memory's own form. -/
import Derived.Test.YtjimamjhakainaaSWg
namespace Go.Proofs.Ytjimamjhakainaa.Part
open Go.RowKit Bit Rice Runs

theorem pst_behind {w W wr : World} {B p : Nat} {ao : Option Addr} {L : Nat} {r : Nat × Nat} (hW : Below w.heap.size w W) (hp : w.heap.size ≤ p) (hr : ∀ g, blk ao = some g → w.heap.size ≤ g) (h : Pst W B p 0 ao L r wr) : Below w.heap.size w wr := by
  obtain ⟨ao', cap', _, hq⟩ := h
  exact hW.trans (pushed_below hq hp hr hW.size)
theorem pcode_len (I : Nat → Int) (n : Nat) (hn : n ≤ 1048576) (hz : allZ I n) (r : Nat × Nat) : (pcode I n r).2 = r.2 + (wy I n).2.2 := by
  have h1 := (cat_pcw (wy I n) (wy_ok I n (gr_cd hz)) I n hn hz).1 r
  have h2 : (pcw (wy I n) I n (0, 0)).2 = (wy I n).2.2 := wy_len I n hn hz
  unfold pcode
  dsimp only at h1
  rw [h1]
  show r.2 + (pcw (wy I n) I n (0, 0)).2 = _
  rw [h2]
theorem pfs_csum {I : Nat → Int} {len : Nat} (hz : allZ I len) (hlen : len ≤ 65536) (p : Nat) : ∀ k, k ≤ 2 ^ p → (pfs I len p (app (0, 0) p 3) (List.range k)).2 = csum I len p k
  | 0, _ => rfl
  | k + 1, hk => by
    have h3 := bd_le len p (k + 1) hk
    have h4 : pn len p k ≤ len := by unfold pn; omega
    rw [List.range_succ, pfs_app, pcode_len _ _ (by omega) (allZ_part hz p k (by omega)), pfs_csum hz hlen p k (by omega)]
    rfl
theorem pfs_lcc {I : Nat → Int} {len : Nat} (hz : allZ I len) (hlen : len ≤ 65536) (p : Nat) (ho : ord len p) (hc : cd I len) : lcc I len (p : Int) = (pfs I len p (app (0, 0) p 3) (List.range (2 ^ p))).2 := by
  rw [lcc_ok hc ho, pfs_csum hz hlen p _ (Nat.le_refl _)]
  rfl

set_option maxRecDepth 100000 in
set_option maxHeartbeats 4000000 in
theorem pback_walk (w : World) (a : Option Addr) (len cap b off : Nat) (I : Nat → Int) (h : Is w a len cap b off I) (p : Int) :
    Calls Try.prog 7 #[.slice a len cap, .int .i64 p] w fun e w' => e = .returned (.bool true) ∧ Below w.heap.size w w' := by
  have HK := hid fun w' => known_true w'
  have H := hid h
  have hltb := h.lt
  have HLT := hid hltb
  clear hltb h
  by_cases h200 : 200 < len
  · have h6 : (200 : Int) < (len : Int) := by omega
    go_enter Try.func7, Try.ntmps7
    go_wp2_with fail
    refine (HK.out w).mono ?_
    rintro e w' ⟨rfl, hb⟩
    go_wp2_with fail
    go_ret
    exact ⟨rfl, hb⟩
  · have h6 : ¬ (200 : Int) < (len : Int) := by omega
    have hw0 := new_writer' w 44 _ (Nat.le_refl _)
    obtain ⟨W, hW⟩ : ∃ W, w.alloc (.cells #[.slice none 0 0, .int .u64 0, .int .i64 0] 44) = W := ⟨_, rfl⟩
    have hb0 : Below w.heap.size w W := by rw [← hW]; exact (Below.refl _ _).alloc (Nat.le_refl _) _
    rw [hW] at hw0
    have HW0 := hid hw0
    have HB0 := hid hb0
    have hisW := H.out.below hb0 HLT.out
    have HISW := hid hisW
    have hsep : 0 < len → b ≠ w.heap.size ∧ blk (none : Option Addr) ≠ some b := fun hl => ⟨by have := HLT.out hl; omega, by simp [blk]⟩
    have HSEP := hid hsep
    clear hw0 hb0 hisW hsep
    by_cases hz : allZ I len
    · by_cases ho : ord len p
      · obtain ⟨k, rfl⟩ : ∃ k : Nat, p = (k : Int) := ⟨p.toNat, by have := ho.1; omega⟩
        have hk6 : k ≤ 6 := by have := ho.2; unfold fin at this; omega
        have HPT := hid (pput_ok w.heap.size w.heap.size 0 a len cap b off I k ho none 0 0 0 W HW0.out HISW.out HSEP.out hz (by omega) (by decide))
        have hple := pfs_small hz (by omega) k (List.range (2 ^ k)) (app (0, 0) k 3) (fun i hi => List.mem_range.1 hi)
        rw [List.length_range] at hple
        have h64 : 2 ^ k ≤ 64 := Nat.pow_le_pow_right (n := 2) (by decide) hk6
        have hap : (app (0, 0) k 3).2 = 3 := rfl
        rw [hap] at hple
        have hlcc := pfs_lcc hz (by omega) k ho ⟨by omega, hz⟩
        have HCO := hid fun w' (hb : Below w.heap.size w w') => pcost_any w' a len cap b off I (H.out.below hb HLT.out) (by omega) (k : Int)
        rw [hlcc] at HCO
        have HGT := hid fun (w' : World) (q g0 : Nat) (hr : Rd w' q g0 _ _ (0, 0).2) => pget_any (r := (0, 0)) (I := I) rfl rfl (by omega) hr ho hz (by omega) (Pfx.refl (pfs I len k (app (0, 0) k 3) (List.range (2 ^ k))))
        clear hz ho hlcc
        generalize pfs I len k (app (0, 0) k 3) (List.range (2 ^ k)) = r at *
        generalize 2 ^ k = y at *
        obtain ⟨N, L⟩ := r
        simp only [] at hple HCO HGT
        go_enter Try.func7, Try.ntmps7
        go_wp2_with fail
        clear hW
        refine Calls.mono HPT.out ?_
        rintro e w1 ⟨rfl, hp1⟩
        have HB1 := hid (pst_behind HB0.out (Nat.le_refl _) (fun g hg => by simp [blk] at hg) hp1)
        obtain ⟨ao1, cap1, hw1, hpu1⟩ := hp1
        clear hpu1 HPT
        go_wp2_with fail
        refine (bytes_any hw1 (by omega)).mono ?_
        rintro e w2 ⟨rfl, b2, r2⟩
        have hw2 := WrN.upto hw1 b2
        have HB2 := hid (HB1.out.trans (b2.mono HB1.out.size))
        clear hw1 HB1 b2
        go_wp2_with fail
        refine (read_any w2 (some ⟨w1.heap.size, 0, none⟩) ((L + 7) / 8) ((L + 7) / 8) (pad N L) (by omega) (fun j hj => ⟨_, rfl, by rw [Addr.add_lit, Nat.zero_add]; exact r2.cell hj⟩) (fun a ha _ => by cases ha; exact r2.lt)).mono ?_
        rintro e w3 ⟨q, rfl, hq, b3, r3⟩
        have hw3 := WrN.upto hw2 b3
        have HB3 := hid (HB2.out.trans (b3.mono HB2.out.size))
        have hpq : w.heap.size < q := by have := HB2.out.size; omega
        have HAQ := hid (show ∀ g, blk ao1 = some g → g ≠ q from fun g hg => by have := (Wr.rlt hw2 g hg).2; omega)
        clear hw2 HB2 r2 b3
        go_wp2_with fail
        refine Calls.mono (HGT.out w3 q _ r3) ?_
        rintro e w4 ⟨gl, rfl, hgl, hrow, r4, f4⟩
        have hw4 := Wr.keep hw3 f4 (by omega) HAQ.out
        have HB4 := hid (HB3.out.trans ⟨f4.os, f4.tape, f4.output, f4.size, fun k hk => f4.block k (Nat.lt_of_lt_of_le hk HB3.out.size) (by omega)⟩ : Below w.heap.size w w4)
        have his4 := H.out.below HB4.out HLT.out
        have his5 : Is w4 (some ⟨gl, 0, none⟩) len len gl 0 I := ⟨fun _ => rfl, fun i hi => by rw [Nat.zero_add]; exact hrow.cell hi, H.out.ib, fun _ => hrow.lt, Nat.le_refl _, by have := H.out.hl; have := H.out.hc; omega⟩
        clear hrow hw3 r3 f4 HB3 HAQ hgl
        go_wp2_with fail
        refine (ints_any w4 a _ len cap len b off _ 0 I I his4 his5 (fun _ _ => rfl)).mono ?_
        rintro e w5 ⟨rfl, f5⟩
        have r5 := r4.keep f5 (fun x => x) (fun x => x)
        have hw5 := Wr.keep hw4 f5 (fun x => x) (fun _ _ x => x)
        have HB5 := hid (fr_below0 HB4.out f5)
        clear his4 his5 f5 r4 hw4 HB4
        go_wp2_with fail
        refine (rat_any r5).mono ?_
        rintro e w6 ⟨rfl, rfl⟩
        clear r5
        go_wp2_with fail
        refine (len_any hw5 (by omega)).mono ?_
        rintro e w6 ⟨rfl, nq, rfl⟩
        have hw6 := WrN.drewN hw5 nq
        have HB6 := hid (fr_below0 HB5.out ((Fr.refl _ _).drewN nq))
        clear hw5 HB5
        generalize w5.drewN nq = w6 at *
        go_wp2_with fail
        refine (len_any hw6 (by omega)).mono ?_
        rintro e w7 ⟨rfl, nq2, rfl⟩
        have HB7 := hid (fr_below0 HB6.out ((Fr.refl _ _).drewN nq2))
        clear hw6 HB6
        generalize w6.drewN nq2 = w7 at *
        go_wp2_with fail
        refine Calls.mono (HCO.out w7 HB7.out) ?_
        rintro e w8 ⟨rfl, b8⟩
        have HB8 := hid (HB7.out.trans (b8.mono HB7.out.size))
        clear b8 HB7
        go_wp2_with fail
        refine (HK.out _).mono ?_
        rintro e w9 ⟨rfl, b9⟩
        have hfin := HB8.out.trans (b9.mono HB8.out.size)
        clear b9
        go_wp2_with fail
        go_ret
        exact ⟨rfl, hfin⟩
      · have HPT := hid (pput_arg ⟨w.heap.size, 0, none⟩ a len cap b off I W HISW.out (by omega) hz p ho)
        clear hz ho
        go_enter Try.func7, Try.ntmps7
        go_wp2_with fail
        clear hW
        refine HPT.out.mono ?_
        rintro e w1 ⟨rfl, hb1⟩
        have HB1 := hid (HB0.out.trans (hb1.mono HB0.out.size))
        have hw1 : WrN w1 w.heap.size w.heap.size 0 none 0 0 0 := WrN.upto HW0.out hb1
        clear hb1
        go_wp2_with fail
        refine (len_any hw1 (by decide)).mono ?_
        rintro e w2 ⟨rfl, nq, rfl⟩
        have HB2 : RowKit.Hid (Below w.heap.size w (w1.drewN nq)) := hid (HB1.out.trans ⟨rfl, rfl, rfl, Nat.le_refl _, fun _ _ => rfl⟩)
        clear hw1 HB1
        generalize w1.drewN nq = w2 at *
        go_wp2_with fail
        refine (HK.out _).mono ?_
        rintro e w6 ⟨rfl, hb6⟩
        have hfin := HB2.out.trans (hb6.mono HB2.out.size)
        clear hb6
        go_wp2_with fail
        go_ret
        exact ⟨rfl, hfin⟩
    · have HPT := hid (pput_range ⟨w.heap.size, 0, none⟩ a len cap b off I W HISW.out (by omega) hz p)
      clear hz
      go_enter Try.func7, Try.ntmps7
      go_wp2_with fail
      clear hW
      refine HPT.out.mono ?_
      rintro e w1 ⟨rfl, hb1⟩
      have HB1 := hid (HB0.out.trans (hb1.mono HB0.out.size))
      have hw1 : WrN w1 w.heap.size w.heap.size 0 none 0 0 0 := WrN.upto HW0.out hb1
      clear hb1
      go_wp2_with fail
      refine (len_any hw1 (by decide)).mono ?_
      rintro e w2 ⟨rfl, nq, rfl⟩
      have HB2 : RowKit.Hid (Below w.heap.size w (w1.drewN nq)) := hid (HB1.out.trans ⟨rfl, rfl, rfl, Nat.le_refl _, fun _ _ => rfl⟩)
      clear hw1 HB1
      generalize w1.drewN nq = w2 at *
      go_wp2_with fail
      refine (HK.out _).mono ?_
      rintro e w6 ⟨rfl, hb6⟩
      have hfin := HB2.out.trans (hb6.mono HB2.out.size)
      clear hb6
      go_wp2_with fail
      go_ret
      exact ⟨rfl, hfin⟩
end Go.Proofs.Ytjimamjhakainaa.Part
