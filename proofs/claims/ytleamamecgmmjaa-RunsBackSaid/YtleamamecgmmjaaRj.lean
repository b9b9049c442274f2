/- A writer and a list of bits side by side; RunsGammas' walk. Conditions: those of the memory's own form alone. -/
import Derived.Test.YtleamamecgmmjaaRi
import Derived.Test.YtleamamecgmmjaaTr
import Derived.Test.YtleamamecgmmjaaRd2
namespace Go.Proofs.Ytleamamecgmmjaa.Runs
open Go.RowKit Bit Rice

theorem WrN.upto {w w' : World} {B p o : Nat} {ao : Option Addr} {cap N L : Nat} (h : WrN w B p o ao cap N L) (hb : Below w.heap.size w w') : WrN w' B p o ao cap N L := Wr.keep h (fr_of_below hb) (fun x => x) (fun _ _ x => x)
/-- A writer, the first block from w on, and a list of bits. -/
def Dw (w wr : World) (v : Value) (y c : Nat × Nat) : Prop := ∃ (wo : Option Addr) (wcap : Nat) (lo : Option Addr) (lcap : Nat), v = .slice lo c.2 lcap ∧
  WrN wr w.heap.size w.heap.size 0 wo wcap y.1 y.2 ∧ Lst wr w.heap.size lo lcap c.1 c.2 ∧ Below w.heap.size w wr
theorem Dw.below {w wr : World} {v : Value} {y c : Nat × Nat} (h : Dw w wr v y c) : Below w.heap.size w wr := by obtain ⟨_, _, _, _, _, _, _, hb⟩ := h; exact hb
theorem Dw.upto {w wr w' : World} {v : Value} {y c : Nat × Nat} (h : Dw w wr v y c) (hb : Below wr.heap.size wr w') : Dw w w' v y c := by
  obtain ⟨wo, wcap, lo, lcap, rfl, hw, hl, hb0⟩ := h
  exact ⟨wo, wcap, lo, lcap, rfl, WrN.upto hw hb, hl.upto hb, hb0.trans (hb.mono hb0.size)⟩
theorem Dw.drewN {w wr : World} {v : Value} {y c : Nat × Nat} (h : Dw w wr v y c) (n : Nat) : Dw w (wr.drewN n) v y c := h.upto ⟨rfl, rfl, rfl, Nat.le_refl _, fun _ _ => rfl⟩
theorem Dw.drew {w wr : World} {v : Value} {y c : Nat × Nat} (h : Dw w wr v y c) : Dw w wr.drew v y c := h.upto ⟨rfl, rfl, rfl, Nat.le_refl _, fun _ _ => rfl⟩
theorem dlen {w wr : World} {v : Value} {y c : Nat × Nat} (h : Dw w wr v y c) (hL : y.2 ≤ 7000000000000) : Calls Try.prog 13 #[.pointer (some ⟨w.heap.size, 0, none⟩)] wr fun e w' => e = .returned (.int .i64 (y.2 : Int)) ∧ Dw w w' v y c := by
  have h' := h
  obtain ⟨wo, wcap, lo, lcap, rfl, hw, _⟩ := h
  refine (len_any hw (by omega)).mono ?_
  rintro e w' ⟨rfl, nq, rfl⟩
  exact ⟨rfl, h'.drewN nq⟩
theorem dbytes {w wr : World} {v : Value} {y c : Nat × Nat} (h : Dw w wr v y c) (hL : y.2 ≤ 7000000000000) : Calls Try.prog 14 #[.pointer (some ⟨w.heap.size, 0, none⟩)] wr fun e w' =>
    e = .returned (.slice (some ⟨wr.heap.size, 0, none⟩) ((y.2 + 7) / 8) ((y.2 + 7) / 8)) ∧ Dw w w' v y c ∧ Row w' wr.heap.size y ∧ Below wr.heap.size wr w' := by
  have h' := h
  obtain ⟨wo, wcap, lo, lcap, rfl, hw, _⟩ := h
  refine (bytes_any hw (by omega)).mono ?_
  rintro e w' ⟨rfl, hb, hr⟩
  exact ⟨rfl, h'.upto hb, hr, hb⟩
theorem dbytes_l {w wr : World} {lo : Option Addr} {lcap L : Nat} {y c : Nat × Nat} (h : Dw w wr (.slice lo L lcap) y c) (hL : c.2 ≤ 1000000000000) : Calls Try.prog 15 #[.slice lo L lcap] wr fun e w' =>
    ∃ g, e = .returned (.slice (some ⟨g, 0, none⟩) ((c.2 + 7) / 8) ((c.2 + 7) / 8)) ∧ Dw w w' (.slice lo L lcap) y c ∧ Row w' g c ∧ Below wr.heap.size wr w' := by
  have h' := h
  obtain ⟨wo, wcap, lo1, lcap1, e, hw, hl, hb0⟩ := h
  cases e
  refine (rbytes_any wr w.heap.size lo lcap c.1 c.2 hl hb0.size (by omega)).mono ?_
  rintro e w' ⟨g, rfl, hb2, hr⟩
  exact ⟨g, rfl, h'.upto hb2, hr, hb2⟩
theorem dknown {w wr : World} {v : Value} {y c : Nat × Nat} (h : Dw w wr v y c) : Calls Try.prog 16 #[] wr fun e w' => e = .returned (.bool true) ∧ Dw w w' v y c := by
  refine (known_true wr).mono ?_
  rintro e w' ⟨rfl, hb⟩
  exact ⟨rfl, h.upto hb⟩

set_option maxHeartbeats 1600000 in
set_option maxRecDepth 100000 in
theorem gammas_walk (w : World) (v : Nat) (hv : v < 18446744073709551616) : Calls Try.prog 3 #[.int .u64 (v : Int)] w fun e w' => e = .returned (.bool true) ∧ Below w.heap.size w w' := by
  have hw0 := new_writer' w 26 _ (Nat.le_refl _)
  have hb0 : Below w.heap.size w (w.alloc (.cells #[.slice none 0 0, .int .u64 0, .int .i64 0] 26)) := (Below.refl _ _).alloc (Nat.le_refl _) _
  have HB0 := hid hb0
  have hgl := gl_le v
  have HGC := hid fun w => (gcost_any (v : Int) v rfl hv w).mono fun e w' (h : e = _ ∧ w = w') => And.intro h.1 (show Below w.heap.size w w' by rw [← h.2]; exact Below.refl _ _)
  have HRG := hid (rgamma_any v hv)
  clear hb0
  by_cases hh : hg v
  · have HOWN := hid (gamma_own hh)
    have hnz : 0 < gl v := by have := gl_ok hh; omega
    have hvg := gv_ok hh
    have HPG := hid fun W (hw : WrN W w.heap.size w.heap.size 0 none 0 0 0) => pgamma_ok w.heap.size w.heap.size 0 (v : Int) v rfl hh none 0 0 0 W hw (by decide)
    rw [hvg] at HRG
    clear hvg hh
    generalize gl v = c at *
    go_enter Try.func3, Try.ntmps3
    go_wp2_with fail
    refine Calls.mono (HPG.out _ hw0) ?_
    rintro e w1 ⟨rfl, ao1, cap1, h1, p1⟩
    have HB1 := hid (HB0.out.trans (pushed_below p1 (Nat.le_refl _) (fun g hg => by simp [blk] at hg) HB0.out.size))
    simp only [Nat.zero_mul, Nat.zero_add] at h1
    clear p1 hw0 HB0 HPG
    go_wp2_with fail
    refine Calls.mono (HRG.out w1) ?_
    rintro e w2 ⟨lo, lcap, rfl, hnw⟩
    have hs : Dw w w2 (.slice lo c lcap) (v, c) (v, c) := ⟨ao1, cap1, lo, lcap, rfl, WrN.upto h1 hnw.below, Lst.base_le hnw.lst HB1.out.size, HB1.out.trans (hnw.below.mono HB1.out.size)⟩
    clear h1 hnw HB1 HRG
    have HGCD := hid fun wr (h : Dw w wr (.slice lo c lcap) (v, c) (v, c)) => (HGC.out wr).mono fun e w' (hx : e = _ ∧ _) => And.intro hx.1 (h.upto hx.2)
    go_wp2_with fail
    go_cut [35] (fun u wx => u = .bool false ∧ Dw w wx (.slice lo c lcap) (v, c) (v, c))
    case first =>
      have hs6 := hs.drew
      clear hs
      go_region_with (first
        | (go_at_call 12; (with_reducible refine (HGCD.out _ ‹Dw w _ _ _ _›).mono ?_); rintro e w4 ⟨rfl, hs4⟩)
        | (go_at_call 13; (with_reducible refine (dlen ‹Dw w _ _ _ _› (by first | omega | (simp only []; omega))).mono ?_); rintro e w5 ⟨rfl, hs5⟩)
        | (go_at_call 14; (with_reducible refine (dbytes ‹Dw w _ _ _ _› (by first | omega | (simp only []; omega))).mono ?_); rintro e w9 ⟨rfl, hs9, hr9, hb9⟩; have hc9 := hr9.conv)
        | (go_at_call 15; (with_reducible refine (dbytes_l ‹Dw w _ _ _ _› (by first | omega | (simp only []; omega))).mono ?_); rintro e w8 ⟨g8, rfl, hs8, hr8, hb8⟩; have hc8 := hr8.conv; have hc7 := (hr9.upto hb8).conv))
      all_goals
        clear hc9 hc8 hc7 hr9 hr8 hb9 hb8 hs9 hs6 hs5 hs4
        go_wp2_with fail
        go_meet
        exact ⟨rfl, hs8⟩
    case rest =>
      obtain ⟨rfl, hs8⟩ := hcut
      clear hs
      obtain ⟨wo, wcap, lo', lcap', e9, h2, hl2, hb2⟩ := hs8
      cases e9
      have HB2 := hid hb2
      have g1 : ((c : Int) == 0) = false := beq_eq_false_iff_ne.2 (by omega)
      clear hl2 hb2
      generalize wc = w3 at *
      go_wp2_with fail
      refine (bytes_any h2 (by show c ≤ _; omega)).mono ?_
      rintro e w4 ⟨rfl, b4, r4⟩
      have HB4 := hid (HB2.out.trans (b4.mono HB2.out.size))
      clear h2 HB2 b4
      go_wp2_with fail
      refine (read_any w4 (some ⟨w3.heap.size, 0, none⟩) ((c + 7) / 8) ((c + 7) / 8) (pad v c) (by omega) (fun j hj => ⟨_, rfl, by rw [Addr.add_lit, Nat.zero_add]; exact r4.cell hj⟩) (fun a ha _ => by cases ha; exact r4.lt)).mono ?_
      rintro e w5 ⟨q, rfl, hq, b5, r5⟩
      have HB5 := hid (HB4.out.trans (b5.mono HB4.out.size))
      have hzq : w.heap.size ≤ q := by have := HB4.out.size; omega
      clear r4 b5 HB4
      go_wp2_with fail
      refine Calls.mono (ggamma_any r5 (Nat.zero_le _) (by omega)) ?_
      rintro e w6 ⟨rfl, r6, f6⟩
      rw [HOWN.out]
      have HB6 := hid (HB5.out.trans ⟨f6.os, f6.tape, f6.output, f6.size, fun k hk => f6.block k (Nat.lt_of_lt_of_le hk HB5.out.size) (by omega)⟩)
      clear r5 r6 f6 HB5 HOWN
      go_wp2_with fail
      refine (known_true _).mono ?_
      rintro e w7 ⟨rfl, b7⟩
      have hfin := HB6.out.trans (b7.mono HB6.out.size)
      clear b7
      go_wp2_with fail
      go_ret
      exact ⟨rfl, hfin⟩
  · have HPR := hid fun w => pgamma_range ⟨w.heap.size, 0, none⟩ v hh w
    have hc0 : gl v = 0 := gl_no hh
    have hv0 : gv v = 0 := if_neg hh
    have HPG := hid fun p W => pgamma_range p v hh W
    rw [hc0, hv0] at HRG
    rw [hc0] at HGC
    clear hc0 hv0 hh hgl
    go_enter Try.func3, Try.ntmps3
    go_wp2_with fail
    refine Calls.mono (HPG.out _ _) ?_
    rintro e w1 ⟨rfl, rfl⟩
    go_wp2_with fail
    refine Calls.mono (HRG.out _) ?_
    rintro e w2 ⟨lo, lcap, rfl, hnw⟩
    have hs : Dw w w2 (.slice lo 0 lcap) (0, 0) (0, 0) := ⟨none, 0, lo, lcap, rfl, WrN.upto hw0 hnw.below, Lst.base_le hnw.lst HB0.out.size, HB0.out.trans (hnw.below.mono HB0.out.size)⟩
    clear hw0 hnw HB0 HRG HPR HPG
    have HGCD := hid fun wr (h : Dw w wr (.slice lo 0 lcap) (0, 0) (0, 0)) => (HGC.out wr).mono fun e w' (hx : e = _ ∧ _) => And.intro hx.1 (h.upto hx.2)
    go_wp2_with fail
    go_cut [35] (fun u wx => u = .bool false ∧ Dw w wx (.slice lo 0 lcap) (0, 0) (0, 0))
    case first =>
      have hs6 := hs.drew
      clear hs
      go_region_with (first
        | (go_at_call 12; (with_reducible refine (HGCD.out _ ‹Dw w _ _ _ _›).mono ?_); rintro e w4 ⟨rfl, hs4⟩)
        | (go_at_call 13; (with_reducible refine (dlen ‹Dw w _ _ _ _› (by first | omega | (simp only []; omega))).mono ?_); rintro e w5 ⟨rfl, hs5⟩)
        | (go_at_call 14; (with_reducible refine (dbytes ‹Dw w _ _ _ _› (by first | omega | (simp only []; omega))).mono ?_); rintro e w9 ⟨rfl, hs9, hr9, hb9⟩; have hc9 := hr9.conv)
        | (go_at_call 15; (with_reducible refine (dbytes_l ‹Dw w _ _ _ _› (by first | omega | (simp only []; omega))).mono ?_); rintro e w8 ⟨g8, rfl, hs8, hr8, hb8⟩; have hc8 := hr8.conv; have hc7 := (hr9.upto hb8).conv))
      all_goals
        clear hc9 hc8 hc7 hr9 hr8 hb9 hb8 hs9 hs6 hs5 hs4
        go_wp2_with fail
        go_meet
        exact ⟨rfl, hs8⟩
    case rest =>
      obtain ⟨rfl, hs8⟩ := hcut
      clear hs
      have HB8 := hid hs8.below
      clear hs8
      go_wp2_with fail
      refine (known_true _).mono ?_
      rintro e w7 ⟨rfl, b7⟩
      have hfin := HB8.out.trans (b7.mono HB8.out.size)
      clear b7
      go_wp2_with fail
      go_ret
      exact ⟨rfl, hfin⟩
end Go.Proofs.Ytleamamecgmmjaa.Runs
