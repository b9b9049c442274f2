/- ShapeSilent's walk. Conditions: both lists lie in memory. -/
import Derived.Test.YtpgdllphnmimlaaHp
namespace Go.Proofs.Ytpgdllphnmimlaa.Shape
open Go.RowKit Gen

/-- The first samples, held. -/
def llist (X : Nat → Int) (j : Nat) : List Int := (List.range j).map fun i => ld (X i)
theorem ll_next (X : Nat → Int) (j : Nat) : llist X (j + 1) = llist X j ++ [ld (X j)] := by simp [llist, List.range_succ]
theorem ll_len (X : Nat → Int) (j : Nat) : (llist X j).length = j := by simp [llist]
theorem ll_at (X : Nat → Int) (j i : Nat) (h : i < j) : gd (llist X j) i = ld (X i) := by simp [gd, llist, h]
/-- The samples, held, in memory. -/
def Sl (w : World) (X : Nat → Int) (j : Nat) (lo : Option Addr) (cap : Nat) (wr : World) : Prop := wr.ownsRow w.heap.size 3 1 (.slice lo j cap) j (il (llist X j)) ∧ Below w.heap.size w wr
def SlRel (w : World) (X : Nat → Int) (j : Nat) (v : Value) (wr : World) : Prop := ∃ lo cap, v = .slice lo j cap ∧ Sl w X j lo cap wr
theorem Sl.row {w wr : World} {X : Nat → Int} {j : Nat} {lo : Option Addr} {cap : Nat} (h : Sl w X j lo cap wr) : Il wr w.heap.size lo cap (llist X j) := by
  unfold Il
  rw [ll_len]
  exact h.1
theorem Sl.isb {w wr : World} {X : Nat → Int} {j : Nat} {lo : Option Addr} {cap : Nat} (h : Sl w X j lo cap wr) (hj : j ≤ 9223372036854775807) : ∃ b, Isb wr lo j b 0 (fun i => ld (X i)) := by
  obtain ⟨b, h1, _⟩ := h.row.isb (by rw [ll_len]; exact hj)
  rw [ll_len] at h1
  exact ⟨b, isb_congr h1 fun i hi => ll_at X j i hi⟩
theorem Sl.alloc {w wr : World} {X : Nat → Int} {j : Nat} {lo : Option Addr} {cap : Nat} (h : Sl w X j lo cap wr) (o : Obj) : Sl w X j lo cap (wr.alloc o) :=
  ⟨ownsRow_block h.1 fun g hg => RowKit.Below.heap_alloc _ _ _ (World.ownsRow.lt h.1 g (by rw [ownBlock_slice]; exact hg)).2, h.2.alloc h.2.size _⟩
theorem Sl.app {w wr w4 : World} {X : Nat → Int} {j : Nat} {lo : Option Addr} {cap gg cap' : Nat} (h : Sl w X j lo cap wr)
    (hown : w4.ownsRow w.heap.size 3 1 (.slice (some ⟨gg, 0, none⟩) (j + 1) cap') (j + 1) (il (llist X j) ++ [.int .i64 (ld (X j))])) (hk : Kept wr w4 (blk lo) j gg) : Sl w X (j + 1) (some ⟨gg, 0, none⟩) cap' w4 := by
  refine ⟨?_, h.2.grown hk.grown h.2.size fun g hg => (World.ownsRow.lt h.1 g (by rw [ownBlock_slice]; exact hg)).1⟩
  rw [ll_next, il_app]
  exact hown
theorem tt0 (X Y : Nat → Int) (j : Nat) : tt 0 X Y j = ld (X j) := by
  have e : tt 0 X Y j = ld (X j) - (0 + 0 * mL (mlist 0 X Y j) 0 + 0 * mL (mlist 0 X Y j) 1 + 0 * mL (mlist 0 X Y j) 2) / 16 := rfl
  rw [e, Int.zero_mul, Int.zero_mul, Int.zero_mul]
  exact Int.sub_zero _
theorem tg0 (k : Nat) (x : Int) : tg k (fun _ => 0) x = ld x := by
  have e : tg k (fun _ => 0) x = ld x - (0 + wt k 0 * 0 + wt k 1 * 0 + wt k 2 * 0) / 16 := rfl
  rw [e, Int.mul_zero, Int.mul_zero, Int.mul_zero]
  exact Int.sub_zero _
theorem mis0 (x : Int) : mis (ld x) (ld x) = 0 := by
  unfold mis
  rw [ld_ld, Int.sub_self]
  rfl
theorem nx0 : nx (fun _ => 0) 0 = fun _ => 0 := by funext j; cases j <;> rfl
/-- A silent shaper. -/
theorem silent_target {w : World} {q k : Nat} {t : Int} (h : Shp w q k (fun _ => 0) t) (hk : k ≤ 3) (x : Int) :
    Calls Try.prog 15 #[.pointer (some ⟨q, 0, none⟩), .int .i64 (ld x)] w fun e w' => e = .returned (.int .i64 (ld x)) ∧ Shp w' q k (fun _ => 0) (ld x) ∧ Fr (fun b => b = q) w w' := by
  have := target_any h hk low0 (ld x)
  unfold TgPost at this
  rw [tg0, ld_ld] at this
  exact this
theorem silent_note {w : World} {q k : Nat} {x : Int} (h : Shp w q k (fun _ => 0) (ld x)) :
    Calls Try.prog 16 #[.pointer (some ⟨q, 0, none⟩), .int .i64 (ld x)] w fun e w' => e = .returned (.tuple #[]) ∧ Shp w' q k (fun _ => 0) (ld x) ∧ Fr (fun b => b = q) w w' := by
  have := note_any h (by have := ld_in x; omega) (ld x)
  unfold NtPost at this
  rw [mis0, nx0] at this
  exact this
/-- What stands in the second loop. -/
structure Sn (w wr : World) (q k : Nat) (t : Int) (lo : Option Addr) (n g : Nat) (X : Nat → Int) : Prop where
  s : Shp wr q k (fun _ => 0) t
  bel : Below w.heap.size w wr
  qw : w.heap.size ≤ q
  i : Isb wr lo n g 0 (fun i => ld (X i))
  ne : 0 < n → g ≠ q
theorem isb_fr {w w' : World} {a : Option Addr} {n b off q : Nat} {X : Nat → Int} (h : Isb w a n b off X) (hf : Fr (fun b => b = q) w w') (hq : 0 < n → b ≠ q) : Isb w' a n b off X :=
  ⟨h.addr, fun i hi => (hf.cell (p := ⟨b, _, none⟩) (h.lt (by omega)) (hq (by omega))).trans (h.c i hi), fun hl => Nat.lt_of_lt_of_le (h.lt hl) hf.size, h.hl⟩
theorem Sn.step {w wr w2 : World} {q k : Nat} {t u : Int} {lo : Option Addr} {n g : Nat} {X : Nat → Int} (h : Sn w wr q k t lo n g X) (hs : Shp w2 q k (fun _ => 0) u) (hf : Fr (fun b => b = q) wr w2) : Sn w w2 q k u lo n g X :=
  ⟨hs, bel_fr h.bel hf h.qw, h.qw, isb_fr h.i hf h.ne, h.ne⟩
set_option maxHeartbeats 3200000 in
theorem silent_walk (w : World) (x : Int) (a a' : Option Addr) (n n' cap cap' b off b' off' : Nat) (X Y : Nat → Int) (h : Isb w a n b off X) (h' : Isb w a' n' b' off' Y) :
    Calls Try.prog 6 #[.int .i64 x, .slice a n cap, .slice a' n' cap'] w fun e w' => e = .returned (.bool true) ∧ Below w.heap.size w w' := by
  have H := hid h
  have H' := hid h'
  clear h h'
  by_cases h1 : 200 < n
  · have h1' : (200 : Int) < (n : Int) := by omega
    go_enter Try.func6, Try.ntmps6
    go_wp2_with fail
    refine (known_true _).mono ?_
    rintro e w' ⟨rfl, hfin⟩
    go_wp2_with fail
    go_ret
    exact ⟨rfl, hfin⟩
  have h1' : ¬ (200 : Int) < (n : Int) := by omega
  have hp : SlRel w X 0 (.slice none 0 0) w := ⟨none, 0, rfl, World.ownsRow_nil _ _ _ _, Below.refl _ _⟩
  have HP := hid hp
  clear hp
  obtain ⟨i0, hi, hz0, hz1, hz2⟩ := info_parts Try.info3
  go_enter Try.func6, Try.ntmps6
  go_wp2_with fail
  go_loopg [7, 8] n (fun gh v i wr => ∃ (j : Nat), j ≤ n ∧ gh = n - j ∧ i = .int .i64 j ∧ SlRel w X j v wr)
  case atStart => exact ⟨0, Nat.zero_le _, rfl, rfl, HP.out⟩
  case round =>
    obtain ⟨j, hj, hg, rfl, lo, lcap, rfl, hsl⟩ := hrel
    have HG := hid hg
    have HS := hid hsl
    clear hg hsl HP
    by_cases hlt : j < n
    · have hlt2 : (j : Int) < (n : Int) := by omega
      obtain rfl := H.out.addr (by omega)
      have ck := (H.out.below HS.out.2 H.out.lt).c j hlt
      have HLO := hid fun w => loud_any (X j) w
      have HSA := hid (HS.out.alloc (.cells #[.int .i64 (ld (X j))] 3))
      have HAP := hid fun (w4 : World) gg cap' ho hk => HSA.out.app (w4 := w4) (gg := gg) (cap' := cap') ho hk
      have hown := HSA.out.1
      generalize ld (X j) = u at *
      generalize X j = y at *
      go_wp2_with fail
      refine (HLO.out _).mono ?_
      rintro e w2 ⟨rfl, rfl⟩
      have hcell : (wr.alloc (.cells #[.int .i64 u] 3)).cell? ⟨wr.heap.size, 0, none⟩ = some (.int .i64 u) := by simp
      have hBs := HSA.out.2.size
      clear ck
      go_wp2_with (at_builtin; go_must (refine wpList_append_one rfl (.tmp 25) (.tmp 31) 26 rfl w.heap.size 3 i0 (.int .i64 0) 8 Try.underlying26 hi hz0 hz1 hz2 rfl lo j lcap (il (llist X j)) rfl hown ⟨wr.heap.size, 0, none⟩ 1 (.int .i64 u) rfl hcell rfl (by unfold maxLen; omega) (by omega) hBs ?_))
      intro gg cap1 w4 hown4 hkept
      have HS4 := hid (HAP.out _ _ _ hown4 hkept)
      clear hown4 hkept hcell hown hBs
      go_wp2_with fail
      go_roundg (n - (j + 1))
      case measure => rw [HG.out]; omega
      case rel => exact ⟨j + 1, by omega, rfl, by go_num, _, cap1, rfl, HS4.out⟩
    · have hge : ¬ (j : Int) < (n : Int) := by omega
      obtain rfl : j = n := by omega
      obtain ⟨g, hi0⟩ := HS.out.isb (by omega)
      have HI := hid hi0
      have HB := hid HS.out.2
      have HY := hid (H'.out.below HB.out H'.out.lt)
      clear hi0
      by_cases hnn : j = n'
      · subst hnn
        have HTG := hid (show Calls Try.prog 18 #[.int .i64 0, .slice lo j lcap, .slice a' j cap'] wr (TsPost wr j (tt 0 (fun i => ld (X i)) Y)) from targets_any wr 0 (by decide) lo a' j lcap cap' g 0 b' off' (fun i => ld (X i)) Y HI.out HY.out (by omega))
        go_wp2_with fail
        refine HTG.out.mono ?_
        rintro e w4 ⟨lo2, lcap2, g2, rfl, hi4, hg4, hb4⟩
        have HI4 := hid hi4
        have HB4 := hid (HB.out.trans (hb4.mono HB.out.size))
        have HIL := hid (HI.out.below hb4 HI.out.lt)
        clear hi4 hg4 hb4
        go_wp2_with fail
        refine (ints_gen w4 lo2 lo j j lcap2 lcap g2 0 g 0 _ _ HI4.out HIL.out).mono ?_
        rintro e w5 ⟨rfl, hf5⟩
        rw [eqI_all (fun i _ => (tt0 _ _ _).trans (ld_ld _))]
        have HB5 := hid (HB4.out.trans ((bel_of_fr hf5).mono HB4.out.size))
        have HI5 := hid (HIL.out.fr hf5)
        clear hf5
        by_cases hx : 0 ≤ x ∧ x < 4
        · obtain ⟨k, rfl⟩ := Int.eq_ofNat_of_zero_le hx.1
          have hk : k ≤ 3 := by omega
          have HK := hid hk
          clear hx hk
          go_wp2_with fail
          refine (new_any k HK.out _).mono ?_
          rintro e w6 ⟨q, rfl, hs6, hq6, hb6⟩
          have HN6 := hid (show Sn w w6 q k 0 lo j g X from ⟨hs6, HB5.out.trans (hb6.mono HB5.out.size), Nat.le_trans HB5.out.size hq6, HI5.out.below hb6 HI5.out.lt, fun h => by have := HI5.out.lt h; omega⟩)
          clear hs6 hq6 hb6
          go_wp2_with fail
          go_loopg [13] j (fun gh i wr => ∃ (r : Nat) (t : Int), r ≤ j ∧ gh = j - r ∧ i = .int .i64 r ∧ Sn w wr q k t lo j g X)
          case atStart => exact ⟨0, 0, Nat.zero_le _, rfl, rfl, HN6.out⟩
          case round =>
            obtain ⟨r, t, hr, hg, rfl, hsn⟩ := hrel
            have HG2 := hid hg
            have HSN := hid hsn
            clear hg hsn HN6
            by_cases hrt : r < j
            · have hrt2 : (r : Int) < (j : Int) := by omega
              obtain rfl := HSN.out.i.addr (by omega)
              have cl := HSN.out.i.c r hrt
              rw [Nat.zero_add] at cl
              have HTA := hid (silent_target HSN.out.s HK.out (X r))
              have HNO := hid fun (w2 : World) (h : Shp w2 q k (fun _ => 0) (ld (X r))) => silent_note h
              have HCL := hid fun (w2 : World) u (h : Sn w w2 q k u (some ⟨g, 0, none⟩) j g X) => h.i.c r hrt
              generalize ld (X r) = u at *
              go_wp2_with fail
              refine HTA.out.mono ?_
              rintro e w7 ⟨rfl, hs7, hf7⟩
              have HN7 := hid (HSN.out.step hs7 hf7)
              clear hs7 hf7 cl
              have cl := HCL.out _ _ HN7.out
              rw [Nat.zero_add] at cl
              go_wp2_with fail
              refine (HNO.out _ HN7.out.s).mono ?_
              rintro e w8 ⟨rfl, hs8, hf8⟩
              have HN8 := hid (HN7.out.step hs8 hf8)
              clear hs8 hf8 cl
              go_wp2_with fail
              go_roundg (j - (r + 1))
              case measure => rw [HG2.out]; omega
              case rel => exact ⟨r + 1, u, by omega, rfl, by go_num, HN8.out⟩
            · have hge2 : ¬ (r : Int) < (j : Int) := by omega
              have HBF := hid HSN.out.bel
              go_wp2_with fail
              refine (known_true _).mono ?_
              rintro e w' ⟨rfl, hfin⟩
              have HF := hid (HBF.out.trans (hfin.mono HBF.out.size))
              clear hfin
              go_wp2_with fail
              go_ret
              exact ⟨rfl, HF.out⟩
        · have HX := hid hx
          clear hx
          go_wp2_with fail
          refine (new_bad x HX.out _).mono ?_
          rintro e w6 ⟨rfl, rfl⟩
          go_wp2_with fail
          refine (known_true _).mono ?_
          rintro e w' ⟨rfl, hfin⟩
          have HF := hid (HB5.out.trans (hfin.mono HB5.out.size))
          clear hfin
          go_wp2_with fail
          go_ret
          exact ⟨rfl, HF.out⟩
      · have hne : ((n' : Int) == (j : Int)) = false := beq_eq_false_iff_ne.2 (by omega)
        have hne2 : ((j : Int) != (n' : Int)) = true := bne_iff_ne.2 (by omega)
        have HTG := hid (show Calls Try.prog 18 #[.int .i64 0, .slice lo j lcap, .slice a' n' cap'] wr fun e w' => e = .returned (.tuple #[.slice none 0 0, .int .i64 22]) ∧ Below wr.heap.size wr w' from targets_len wr 0 (by decide) lo a' j n' lcap cap' hnn)
        clear hnn
        go_wp2_with fail
        refine HTG.out.mono ?_
        rintro e w5 ⟨rfl, hb5⟩
        have HB5 := hid (HB.out.trans (hb5.mono HB.out.size))
        have HI5 := hid (HI.out.below hb5 HI.out.lt)
        clear hb5
        by_cases hx : 0 ≤ x ∧ x < 4
        · obtain ⟨k, rfl⟩ := Int.eq_ofNat_of_zero_le hx.1
          have hk : k ≤ 3 := by omega
          have HK := hid hk
          clear hx hk
          go_wp2_with fail
          refine (new_any k HK.out _).mono ?_
          rintro e w6 ⟨q, rfl, hs6, hq6, hb6⟩
          have HN6 := hid (show Sn w w6 q k 0 lo j g X from ⟨hs6, HB5.out.trans (hb6.mono HB5.out.size), Nat.le_trans HB5.out.size hq6, HI5.out.below hb6 HI5.out.lt, fun h => by have := HI5.out.lt h; omega⟩)
          clear hs6 hq6 hb6
          go_wp2_with fail
          go_loopg [13] j (fun gh i wr => ∃ (r : Nat) (t : Int), r ≤ j ∧ gh = j - r ∧ i = .int .i64 r ∧ Sn w wr q k t lo j g X)
          case atStart => exact ⟨0, 0, Nat.zero_le _, rfl, rfl, HN6.out⟩
          case round =>
            obtain ⟨r, t, hr, hg, rfl, hsn⟩ := hrel
            have HG2 := hid hg
            have HSN := hid hsn
            clear hg hsn HN6
            by_cases hrt : r < j
            · have hrt2 : (r : Int) < (j : Int) := by omega
              obtain rfl := HSN.out.i.addr (by omega)
              have cl := HSN.out.i.c r hrt
              rw [Nat.zero_add] at cl
              have HTA := hid (silent_target HSN.out.s HK.out (X r))
              have HNO := hid fun (w2 : World) (h : Shp w2 q k (fun _ => 0) (ld (X r))) => silent_note h
              have HCL := hid fun (w2 : World) u (h : Sn w w2 q k u (some ⟨g, 0, none⟩) j g X) => h.i.c r hrt
              generalize ld (X r) = u at *
              go_wp2_with fail
              refine HTA.out.mono ?_
              rintro e w7 ⟨rfl, hs7, hf7⟩
              have HN7 := hid (HSN.out.step hs7 hf7)
              clear hs7 hf7 cl
              have cl := HCL.out _ _ HN7.out
              rw [Nat.zero_add] at cl
              go_wp2_with fail
              refine (HNO.out _ HN7.out.s).mono ?_
              rintro e w8 ⟨rfl, hs8, hf8⟩
              have HN8 := hid (HN7.out.step hs8 hf8)
              clear hs8 hf8 cl
              go_wp2_with fail
              go_roundg (j - (r + 1))
              case measure => rw [HG2.out]; omega
              case rel => exact ⟨r + 1, u, by omega, rfl, by go_num, HN8.out⟩
            · have hge2 : ¬ (r : Int) < (j : Int) := by omega
              have HBF := hid HSN.out.bel
              go_wp2_with fail
              refine (known_true _).mono ?_
              rintro e w' ⟨rfl, hfin⟩
              have HF := hid (HBF.out.trans (hfin.mono HBF.out.size))
              clear hfin
              go_wp2_with fail
              go_ret
              exact ⟨rfl, HF.out⟩
        · have HX := hid hx
          clear hx
          go_wp2_with fail
          refine (new_bad x HX.out _).mono ?_
          rintro e w6 ⟨rfl, rfl⟩
          go_wp2_with fail
          refine (known_true _).mono ?_
          rintro e w' ⟨rfl, hfin⟩
          have HF := hid (HB5.out.trans (hfin.mono HB5.out.size))
          clear hfin
          go_wp2_with fail
          go_ret
          exact ⟨rfl, HF.out⟩
end Go.Proofs.Ytpgdllphnmimlaa.Shape
