/- The document's Get of runs. Conditions: the parameter and the number may be; fewer than 2^20 bytes. -/
import Derived.Test.YtleamamecgmmjaaRv
namespace Go.Proofs.Ytleamamecgmmjaa.Runs
open Go.RowKit Bit Rice

def RGtPost (w : World) (B q : Nat) (lo : Option Addr) (lcap M T k n p0 : Nat) (e : Ending) (w' : World) : Prop := ∃ (r : List Int × Int × Nat) (ao : Option Addr) (acap : Nat), GRun M T k n n p0 r ∧ e = .returned (.tuple #[.slice ao r.1.length acap, .int .i64 r.2.1]) ∧
  Il w' w.heap.size ao acap r.1 ∧ Rf w' B q lo lcap M T r.2.2 ∧ Fr (fun b => b = q) w w'
theorem RGtPost.err {w : World} {B q : Nat} {lo : Option Addr} {lcap M T k n p0 : Nat} {er : Int} {p : Nat} {w' : World} (h : GRun M T k n n p0 ([], er, p)) (h1 : Rf w' B q lo lcap M T p) (h2 : Fr (fun b => b = q) w w') :
    RGtPost w B q lo lcap M T k n p0 (.returned (.tuple #[.slice none 0 0, .int .i64 er])) w' := ⟨_, none, 0, h, rfl, World.ownsRow_nil _ _ _ _, h1, h2⟩
theorem il_rep (l : List Int) (z : Nat) : il l ++ List.replicate z (.int .i64 0) = il (l ++ List.replicate z 0) := by
  unfold il; simp

set_option maxHeartbeats 3200000 in
set_option maxRecDepth 100000 in
theorem rrget_any {w : World} {B q : Nat} {lo : Option Addr} {lcap M T p0 : Nat} (h : Rf w B q lo lcap M T p0) (hp : p0 ≤ 8 * T) (hT : T ≤ 1048576) (n k : Nat) (hk : k ≤ 30) (hn : n ≤ 1048576) :
    Calls Try.prog 29 #[.pointer (some ⟨q, 0, none⟩), .int .i64 (n : Int), .int .i64 (k : Int)] w (RGtPost w B q lo lcap M T k n p0) := by
  obtain ⟨i0, hi, hz0, hz1, hz2⟩ := info_parts Try.info3
  have hq0 : q < w.heap.size := World.block_lt_of_cell? w _ h.c0
  have hl0 : ∀ g, blk lo = some g → g < w.heap.size := fun g hg => (World.ownsRow.lt h.own g (by rw [ownBlock_slice]; exact hg)).2
  go_enter Try.func29, Try.ntmps29
  go_wp2_with fail
  go_loopg [8, 9] n (fun g' v i wr => ∃ (j : Nat) (l : List Int) (f m p : Nat) (ao : Option Addr) (acap : Nat), j + m ≤ n ∧ g' = m ∧ v = .slice ao l.length acap ∧ i = .int .i64 j ∧ Pre M T k n p0 l f m p ∧ p ≤ 8 * T ∧ Il wr w.heap.size ao acap l ∧ Rf wr B q lo lcap M T p ∧ Fr (fun b => b = q) w wr)
  case atStart => exact ⟨0, [], n, n, p0, none, 0, by omega, rfl, rfl, rfl, Pre.start M T k n p0, hp, World.ownsRow_nil _ _ _ _, h, Fr.refl _ _⟩
  case round =>
    obtain ⟨j, l, f, m, p, ao, acap, hj, hg, rfl, rfl, hpre, hpp, hil, hrf, hfr⟩ := hrel
    have HG := hid hg
    have HPRE := hid hpre
    have hlen := hpre.2.1
    clear hg hpre h
    have g0 : (j : Int) ≤ (n : Int) := by omega
    by_cases hm : m = 0
    · subst hm
      have g1 : ¬ (l.length : Int) < (n : Int) := by omega
      have hfin : RGtPost w B q lo lcap M T k n p0 (.returned (.tuple #[.slice ao l.length acap, .int .i64 0])) wr := ⟨_, ao, acap, HPRE.out.done, rfl, hil, hrf, hfr⟩
      clear hil hrf hfr hlen
      generalize l.length = ln at *
      go_wp2_with fail
      go_ret2
      exact hfin
    · have g1 : (l.length : Int) < (n : Int) := by omega
      have hgl := getG_le M T p hpp
      have HGG := hid (rggamma_any hrf hpp hT)
      have HOKG := hid fun v c => getG_ok (M := M) (T := T) (p := p) (v := v) (c := c)
      have HLN := hid hlen
      clear hrf hlen
      generalize hll : l.length = ln at *
      have HLE := hid hll
      clear hll
      go_wp2_with fail
      refine Calls.mono HGG.out ?_
      rintro e w1 ⟨rfl, hr1, hf1⟩
      clear HGG
      have hfr1 := hfr.trans hf1
      generalize hgg : getG M T p = gg at *
      have HGE := hid hgg
      clear hgg
      obtain ⟨v, er, c⟩ := gg
      simp only at hr1 hgl
      have hil1 : Il w1 w.heap.size ao acap l := hil.fr hf1 (fun g hg e => by have := (hil.lt g hg).1; omega)
      clear hil hf1 hfr
      by_cases he : er = 0
      · subst he
        have hv := HOKG.out v c rfl
        by_cases h1 : m < v - 1
        · have hrun := HPRE.out.err (x := (12, c, 0, 0)) (by omega) (by unfold Stp; rw [HGE.out]; exact .inr (.inl ⟨rfl, h1, rfl⟩)) (show (12 : Int) ≠ 0 by decide)
          have hfin := RGtPost.err (w := w) hrun hr1 hfr1
          have g2 : (n : Int) - (ln : Int) + 1 < (v : Int) := by have := HLN.out; omega
          clear hrun hr1 hfr1 hil1 HOKG
          go_wp2_with fail
          go_ret2
          exact hfin
        · obtain ⟨z, rfl⟩ : ∃ z, v = z + 1 := ⟨v - 1, by omega⟩
          have hzm : z ≤ m := by omega
          have g2 : ¬ (n : Int) - (ln : Int) < (z : Int) := by have := HLN.out; omega
          have hown1 : w1.ownsRow w.heap.size 3 1 (.slice ao ln acap) ln (il l) := by have := hil1; unfold Il at this; rw [HLE.out] at this; exact this
          have hsz : w.heap.size ≤ w1.heap.size := hfr1.size
          have hzs : z ≤ 1048576 := by omega
          clear h1 hv HOKG
          go_wp2_with (at_builtin; go_must (refine wpList_append_zeros _ rfl (.tmp 41) (.tmp 44) 29 3 rfl w.heap.size 3 i0 Try.underlying29 Try.underlying3 hi hz0 hz1 hz2 ao ln acap (il l) rfl hown1 z (by first | rfl | go_num) (by omega) hsz ?_))
          intro ao2 acap2 w2 hown2 hgr2
          have hx2 : Fr (fun b => blk ao = some b) w1 w2 := (Fr.refl _ w1).grown hgr2 (fun k hk _ => hk)
          have hr2 : Rf w2 B q lo lcap M T c := hr1.keep hx2 (fun e => by have := (hil1.lt q e).1; omega) (fun g hg e => by have h1 := (hil1.lt g e).1; have h2 := hl0 g hg; omega)
          have hfr2 : Fr (fun b => b = q) w w2 := hfr1.grown hgr2 (fun k hk hlt => by have := (hil1.lt k hk).1; omega)
          have hil2 : Il w2 w.heap.size ao2 acap2 (l ++ List.replicate z 0) := by
            unfold Il
            rw [show (l ++ List.replicate z (0 : Int)).length = ln + z from by simp [HLE.out], ← il_rep]
            exact hown2
          clear hr1 hfr1 hil1 hown1 hgr2 hown2 hx2 hsz g2
          by_cases h2 : z = m
          · subst h2
            have hrun := HPRE.out.last (x := (0, c, z, 0)) (by omega) (by unfold Stp; rw [HGE.out]; exact .inr (.inr (.inl ⟨rfl, by simp, rfl⟩))) rfl rfl
            have hfin : RGtPost w B q lo lcap M T k n p0 (.returned (.tuple #[.slice ao2 (ln + z) acap2, .int .i64 0])) w2 :=
              ⟨_, ao2, acap2, hrun, by simp [HLE.out], hil2, hr2, hfr2⟩
            have e1 : ((ln : Int) + (z : Int) == (n : Int)) = true := beq_iff_eq.2 (by have := HLN.out; omega)
            have e2 : (((ln + z : Nat) : Int) == (n : Int)) = true := beq_iff_eq.2 (by have := HLN.out; omega)
            have e3 : (ln + z == n) = true := beq_iff_eq.2 (by have := HLN.out; omega)
            clear hrun hr2 hfr2 hil2
            go_wp2_with fail
            go_ret2
            exact hfin
          · have hzm2 : z < m := by omega
            have e1 : ((ln : Int) + (z : Int) == (n : Int)) = false := beq_eq_false_iff_ne.2 (by have := HLN.out; omega)
            have e2 : (((ln + z : Nat) : Int) == (n : Int)) = false := beq_eq_false_iff_ne.2 (by have := HLN.out; omega)
            have e3 : (ln + z == n) = false := beq_eq_false_iff_ne.2 (by have := HLN.out; omega)
            have HRG := hid (rrice_get hr2 hgl hT k hk)
            clear hr2 h2
            go_wp2_with fail
            refine Calls.mono HRG.out ?_
            rintro e w3 ⟨⟨u, er, d⟩, hget, rfl, hr3, hf3⟩
            have hfr3 := hfr2.trans hf3
            have hil3 : Il w3 w.heap.size ao2 acap2 (l ++ List.replicate z 0) := hil2.fr hf3 (fun g hg e => by have := (hil2.lt g hg).1; omega)
            have HGET := hid hget
            have hle := hget.le hgl
            have hud : er = 0 → u < 1099511627776 := fun e => by subst e; exact (hget.coded hk).1
            clear HRG hil2 hf3 hfr2 hget
            simp only at hr3 hle
            by_cases he : er = 0
            · subst he
              have hub := hud rfl
              clear hud
              by_cases hbig : u = 1099511627775
              · subst hbig
                have hrun := HPRE.out.err (x := (12, d, 0, 0)) (by omega) (by unfold Stp; rw [HGE.out]; exact .inr (.inr (.inr ⟨rfl, by simpa using hzm2, _, HGET.out, .inr (.inl ⟨rfl, rfl, rfl⟩)⟩))) (show (12 : Int) ≠ 0 by decide)
                have hfin := RGtPost.err (w := w) hrun hr3 hfr3
                clear hrun hr3 hfr3 hil3 hub HGET
                go_wp2_with fail
                go_ret2
                exact hfin
              · have HZA := hid fun ui (hu : ui = ((u + 1 : Nat) : Int)) w => rzag_any ui (u + 1) hu (by omega) w
                obtain ⟨f', hpre2⟩ := HPRE.out.num (x := (0, d, z, zgi (u + 1))) (by omega) (by unfold Stp; rw [HGE.out]; exact .inr (.inr (.inr ⟨rfl, by simpa using hzm2, _, HGET.out, .inr (.inr ⟨rfl, hbig, by simp⟩)⟩))) rfl hzm2
                have HP2 := hid hpre2
                have e4 : (u == 1099511627775) = false := beq_eq_false_iff_ne.2 hbig
                have e5 : ((u : Int) == 1099511627775) = false := beq_eq_false_iff_ne.2 (by omega)
                clear hpre2 hbig HGET
                generalize zgi (u + 1) = x at *
                go_wp2_with fail
                refine (HZA.out _ (by first | omega | (simp only [IntKind.wrap_u64]; omega)) _).mono ?_
                rintro e w4 ⟨rfl, rfl⟩
                clear HZA e4 e5 hub
                have hul3 : Il (w3.alloc (.cells #[.int .i64 x] 3)) w.heap.size ao2 acap2 (l ++ List.replicate z 0) := ownsRow_block hil3 fun g hg => RowKit.Below.heap_alloc _ _ _ (hil3.lt g hg).2
                have hown3 : (w3.alloc (.cells #[.int .i64 x] 3)).ownsRow w.heap.size 3 1 (.slice ao2 (ln + z) acap2) (ln + z) (il (l ++ List.replicate z 0)) := by
                  have := hul3; unfold Il at this
                  rw [show (l ++ List.replicate z (0 : Int)).length = ln + z from by simp [HLE.out]] at this; exact this
                have hcell : (w3.alloc (.cells #[.int .i64 x] 3)).cell? ⟨w3.heap.size, 0, none⟩ = some (.int .i64 x) := by simp
                have hfr4 := hfr3.alloc (.cells #[.int .i64 x] 3)
                have hr4 : Rf (w3.alloc (.cells #[.int .i64 x] 3)) B q lo lcap M T d := hr3.keep (X := fun _ => False) ((Fr.refl _ _).alloc _) (fun x => x) (fun _ _ x => x)
                have hsz4 := hfr4.size
                clear hfr3 hr3 hil3
                go_wp2_with (at_builtin; go_must (refine wpList_append_one rfl (.tmp 62) (.tmp 66) 29 rfl w.heap.size 3 i0 (.int .i64 0) 8 Try.underlying29 hi hz0 hz1 hz2 rfl ao2 (ln + z) acap2 (il (l ++ List.replicate z 0)) rfl hown3 ⟨w3.heap.size, 0, none⟩ 1 (.int .i64 x) rfl hcell rfl (by unfold maxLen; omega) (by omega) hsz4 ?_))
                intro gg cap' w5 hown5 hkept
                have hx5 : Fr (fun b => blk ao2 = some b) (w3.alloc (.cells #[.int .i64 x] 3)) w5 := (Fr.refl _ _).grown hkept.grown (fun k hk _ => hk)
                have hr5 : Rf w5 B q lo lcap M T d := hr4.keep hx5 (fun e => by have := (hul3.lt q e).1; omega) (fun g hg e => by have h1 := (hul3.lt g e).1; have h2 := hl0 g hg; omega)
                have hfr5 : Fr (fun b => b = q) w w5 := hfr4.grown hkept.grown (fun k hk hlt => by have := (hul3.lt k hk).1; omega)
                have hil5 : Il w5 w.heap.size (some ⟨gg, 0, none⟩) cap' (l ++ List.replicate z 0 ++ [x]) := by
                  unfold Il
                  rw [show (l ++ List.replicate z (0 : Int) ++ [x]).length = ln + z + 1 from by have := HLE.out; simp; omega, il_app]
                  exact hown5
                have HL5 : Hid (ln + z + 1 = (l ++ List.replicate z (0 : Int) ++ [x]).length) := hid (by have := HLE.out; simp; omega)
                clear hr4 hfr4 hown3 hul3 hown5 hkept hx5 hcell hsz4
                go_wp2_with fail
                go_roundg (m - z - 1)
                case measure => rw [HG.out]; omega
                case rel => exact ⟨j + 1, _, f', m - z - 1, d, some ⟨gg, 0, none⟩, cap', by omega, rfl, by rw [← HL5.out], by go_num, HP2.out, hle, hil5, hr5, hfr5⟩
            · have hne : (er != 0) = true := bne_iff_ne.2 he
              have hrun := HPRE.out.err (x := (er, d, 0, 0)) (by omega) (by unfold Stp; rw [HGE.out]; exact .inr (.inr (.inr ⟨rfl, by simpa using hzm2, _, HGET.out, .inl ⟨he, rfl⟩⟩))) he
              have hfin := RGtPost.err (w := w) hrun hr3 hfr3
              clear hrun hr3 hfr3 hil3 hud HGET he
              go_wp2_with fail
              go_ret2
              exact hfin
      · have hne : (er != 0) = true := bne_iff_ne.2 he
        have hrun := HPRE.out.err (x := (er, c, 0, 0)) (by omega) (by unfold Stp; rw [HGE.out]; exact .inl ⟨he, rfl⟩) he
        have hfin := RGtPost.err (w := w) hrun hr1 hfr1
        clear hrun hr1 hfr1 hil1 HOKG he
        go_wp2_with fail
        go_ret2
        exact hfin
end Go.Proofs.Ytleamamecgmmjaa.Runs
