/- RiceBack's walk: what is put is got; what is got is put as the bits that it was. Conditions: those of the memory's own form alone. -/
import Derived.Test.YtgojdhffhocceaaPu
import Derived.Test.YtgojdhffhocceaaOb
import Derived.Test.YtgojdhffhocceaaQc
import Derived.Test.YtgojdhffhocceaaKn
import Derived.Deep.DeepCutAuto
namespace Go.Proofs.Ytgojdhffhocceaa.Rice
open Go.RowKit Bit

theorem fr_below {q : Nat} {a w w' : World} (h : Below a.heap.size a w) (hf : Fr (fun b => b = q) w w') (hq : a.heap.size ≤ q) : Below a.heap.size a w' :=
  h.trans ⟨hf.os, hf.tape, hf.output, hf.size, fun k hk => hf.block k (Nat.lt_of_lt_of_le hk h.size) (by omega)⟩
theorem fr_below0 {a w w' : World} (h : Below a.heap.size a w) (hf : Fr (fun _ => False) w w') : Below a.heap.size a w' :=
  h.trans ⟨hf.os, hf.tape, hf.output, hf.size, fun k hk => hf.block k (Nat.lt_of_lt_of_le hk h.size) (fun x => x)⟩

def PaBoth (w : World) (B p : Nat) (U : Nat → Nat) (k len : Nat) (e : Ending) (w' : World) : Prop := ∃ x : Int, e = .returned (.int .i64 x) ∧ ((allC U len ∧ x = 0 ∧ Wrote w B p 0 none 0 (cods U k 0 0 len).1 (cods U k 0 0 len).2 w') ∨ (¬ allC U len ∧ x = 3 ∧ w = w'))
theorem putall_both (B p : Nat) (a : Option Addr) (len cap b off : Nat) (U : Nat → Nat) (k : Nat) (hk : k ≤ 30) (acap : Nat) (w : World) (hw : WrN w B p 0 none acap 0 0) (h : Us w a len b off U) (hsep : 0 < len → b ≠ p) (hlen : len ≤ 1048576) :
    Calls Try.prog 15 #[.pointer (some ⟨p, 0, none⟩), .slice a len cap, .int .i64 (k : Int)] w (PaBoth w B p U k len) := by
  by_cases hc : allC U len
  · refine (putall_ok B p 0 a len cap b off U k hk none acap 0 0 w hw h (fun h0 => ⟨hsep h0, by simp [blk]⟩) hc (by decide) hlen).mono ?_
    rintro e w' ⟨rfl, hx⟩
    exact ⟨0, rfl, .inl ⟨hc, rfl, hx⟩⟩
  · refine (putall_range _ a len cap b off U k ⟨by omega, by omega⟩ w h hc).mono ?_
    rintro e w' ⟨rfl, rfl⟩
    exact ⟨3, rfl, .inr ⟨hc, rfl, rfl⟩⟩

/-- The bit of a list of bits. -/
theorem of_bit {w : World} {M T : Nat} {e : Ending} {w' : World} (h : OfPost w M T e w') (j : Nat) (hj : j < 8 * T) :
    ∃ g lcap, e = .returned (.slice (some ⟨g, 0, none⟩) (8 * T) lcap) ∧ w'.cell? ⟨g, j, none⟩ = some (.int .i64 (seg M (8 * T) j 1 : Int)) ∧ Below w.heap.size w w' := by
  obtain ⟨lo, lcap, rfl, ho, hb⟩ := h
  rcases ownsRow_at ho with ⟨_, h1, _, _⟩ | ⟨g, rfl⟩
  · omega
  · exact ⟨g, lcap, rfl, ownsRow_cell ho j _ (bl_at M T _ j hj), hb⟩

set_option maxHeartbeats 1600000 in
set_option maxRecDepth 100000 in
theorem back_walk (w : World) (a : Option Addr) (len cap b off : Nat) (U : Nat → Nat) (a' : Option Addr) (T cap' M : Nat) (k : Int) (h : Us w a len b off U) (h' : Byts w a' T M) :
    Calls Try.prog 6 #[.slice a len cap, .slice a' T cap', .int .i64 k] w fun e w' => e = .returned (.bool true) ∧ Below w.heap.size w w' := by
  by_cases h2 : 200 < len
  · have h1 : (200 : Int) < (len : Int) := by omega
    go_enter Try.func6, Try.ntmps6
    go_wp2_with fail
    refine (known_true _).mono ?_
    rintro e w' ⟨rfl, hb⟩
    go_wp2_with fail
    go_ret
    exact ⟨rfl, hb⟩
  have h1 : ¬ (200 : Int) < (len : Int) := by omega
  by_cases h4 : 200 < T
  · have h3 : (200 : Int) < (T : Int) := by omega
    go_enter Try.func6, Try.ntmps6
    go_wp2_with fail
    refine (known_true _).mono ?_
    rintro e w' ⟨rfl, hb⟩
    go_wp2_with fail
    go_ret
    exact ⟨rfl, hb⟩
  have h3 : ¬ (200 : Int) < (T : Int) := by omega
  by_cases hk : okK k
  · have hd0 : decide (okK k) = true := decide_eq_true hk
    obtain ⟨kk, rfl⟩ := Int.eq_ofNat_of_zero_le hk.1
    have hkk : kk ≤ 30 := by have := hk.2; omega
    have H := hid h
    have H' := hid h'
    have hw0 := new_writer' w 33 _ (Nat.le_refl _)
    have hb0 : Below w.heap.size w (w.alloc (.cells #[.slice none 0 0, .int .u64 0, .int .i64 0] 33)) := (Below.refl _ _).alloc (Nat.le_refl _) _
    have HB0 := hid hb0
    clear h h' hb0
    go_enter Try.func6, Try.ntmps6
    go_wp2_with fail
    refine (rparam _ _).mono ?_
    rintro e w1 ⟨rfl, rfl⟩
    rw [hd0]
    go_wp2_with fail
    generalize hW : (w.alloc (.cells #[.slice none 0 0, .int .u64 0, .int .i64 0] 33)) = W at *
    have HW := hid hW
    clear hW
    refine (putall_both w.heap.size w.heap.size a len cap b off U kk hkk 0 W hw0 (H.out.below HB0.out H.out.lt) (fun h0 => by have := H.out.lt h0; omega) (by omega)).mono ?_
    rintro e w1 ⟨x, rfl, hpa⟩
    have HPA := hid hpa
    clear hpa
    go_upto_if 39 with fail
    go_cut [] (fun wx => Below w.heap.size w wx)
    case first =>
      rcases HPA.out with ⟨hc, rfl, ao1, acap1, hw1, hp1⟩ | ⟨hc, rfl, rfl⟩
      · have hb1 : Below w.heap.size w w1 := HB0.out.trans (pushed_below hp1 (Nat.le_refl _) (fun g hg => by simp [blk] at hg) HB0.out.size)
        have hL := (cods_le U kk 0 0 len).2
        have HRUN := hid (run_of_cods U kk len hkk hc len (Nat.le_refl _))
        have hus1 := H.out.below hb1 H.out.lt
        clear hp1 HPA hw0 hc
        generalize (cods U kk 0 0 len) = r at *
        obtain ⟨N, L⟩ := r
        have hL2 : L ≤ 12800 := by simp only at hL; omega
        have HB1 := hid hb1
        clear hL hb1
        go_wp2_with fail
        refine (bytes_any hw1 (by show L ≤ _; omega)).mono ?_
        rintro e w2 ⟨rfl, hb2, hr2⟩
        go_wp2_with fail
        refine (read_any w2 (some ⟨w1.heap.size, 0, none⟩) ((L + 7) / 8) ((L + 7) / 8) (pad N L) (by omega) (fun j hj => ⟨_, rfl, by rw [Addr.add_lit, Nat.zero_add, hr2.cell hj]; rfl⟩) (fun a ha _ => by cases ha; exact hr2.lt)).mono ?_
        rintro e w3 ⟨q, rfl, hq, hb3, hr3⟩
        have hz2 := hb2.size
        have hz1 := HB1.out.size
        have hw3 := Wr.keep (Wr.keep hw1 (Fr.of_below hb2) (by have := Wr.plt hw1; omega) (fun g hg => by have := (Wr.rlt hw1 g hg).2; omega)) (Fr.of_below hb3) (by have := Wr.plt hw1; omega) (fun g hg => by have := (Wr.rlt hw1 g hg).2; omega)
        have hb13 : Below w1.heap.size w1 w3 := hb2.trans (hb3.mono hz2)
        have hus3 := hus1.below hb13 hus1.lt
        have hrl : ∀ g, blk ao1 = some g → g < w1.heap.size := fun g hg => (Wr.rlt hw1 g hg).2
        have hpl := Wr.plt hw1
        have hbl := hus1.lt
        have HB3 := hid (HB1.out.trans (hb13.mono hz1))
        clear hw1 hus1 hb2 hb3 hb13 hr2
        go_wp2_with fail
        refine (getall_any hr3 (Nat.zero_le _) (by omega) kk hkk len (by omega)).mono ?_
        rintro e w4 ⟨y, lo2, lcap2, hy, rfl, hul, hr4, hf4⟩
        obtain rfl : y = (upto U len, 0, L) := hy.one (.inl ⟨HRUN.out, rfl⟩)
        have hus4 := hus3.fr hf4 fun h0 e => by have := hbl h0; omega
        have hw4 := Wr.keep hw3 hf4 (by omega) (fun g hg e => by have := hrl g hg; omega)
        obtain ⟨b4, hvs⟩ := Ul.us hul (by rw [upto_len]; omega) (fun u hu => by
          obtain ⟨i, hi, rfl⟩ := List.mem_map.1 hu
          exact H.out.ub i (List.mem_range.1 hi))
        rw [upto_len] at hvs
        have hb4 : Below w.heap.size w w4 := fr_below HB3.out hf4 (by omega)
        have HB4 := hid hb4
        have HLEN := hid (upto_len U len)
        clear hy hul hf4 hus3 hw3 hr3 hb4
        simp only [upto_len]
        go_wp2_with fail
        refine (uints_any w4 a lo2 len cap lcap2 b off b4 0 U _ hus4 hvs (fun i hi => by simp [upto, hi])).mono ?_
        rintro e w5 ⟨rfl, hf5⟩
        have hr5 := hr4.keep hf5 (fun x => x) (fun x => x)
        have hw5 := Wr.keep hw4 hf5 (fun x => x) (fun _ _ x => x)
        have HB5 := hid (fr_below0 HB4.out hf5)
        clear hus4 hvs hr4 hw4 hf5
        go_wp2_with fail
        refine (rat_any hr5).mono ?_
        rintro e w6 ⟨rfl, rfl⟩
        go_wp2_with fail
        refine (len_any hw5 (by show L ≤ _; omega)).mono ?_
        rintro e w6 ⟨rfl, nq, rfl⟩
        have hfin : Below w.heap.size w (w5.drewN nq) := fr_below0 HB5.out ((Fr.refl _ _).drewN nq)
        clear hr5 hw5
        go_wp2_with fail
        go_meet
        exact hfin
      · go_wp2_with fail
        go_meet
        exact HB0.out
    case rest =>
      clear HPA hw0 HB0
      go_wp2_with fail
      refine (read_b H'.out hcut (by omega)).mono ?_
      rintro e w2 ⟨q, rfl, hq, hb2, hr2⟩
      have hz0 := hcut.size
      have hbw : Below w.heap.size w w2 := hcut.trans (hb2.mono hz0)
      have hgq : w.heap.size ≤ wc.heap.size := hz0
      generalize wc.heap.size = g at *
      clear hcut hb2
      go_wp2_with fail
      go_loopg [12] 20 (fun m i wr => ∃ (j p : Nat), j ≤ 20 ∧ m = 20 - j ∧ i = .int .i64 j ∧ p ≤ 8 * T ∧ Rd wr q g M T p ∧ Below w.heap.size w wr)
      case atStart => exact ⟨0, 0, by decide, rfl, rfl, Nat.zero_le _, hr2, hbw⟩
      case round =>
        obtain ⟨j, p, hj, hg, rfl, hp, hr, hb⟩ := hrel
        have HG := hid hg
        have HB := hid hb
        clear hg hr2 hbw hb
        by_cases hlt : j < 20
        · have hlt2 : (j : Int) < 20 := by omega
          go_wp2_with fail
          refine (rat_any hr).mono ?_
          rintro e w3 ⟨rfl, rfl⟩
          go_wp2_with fail
          refine (rice_get hr hp (by omega) kk hkk).mono ?_
          rintro e w3 ⟨⟨u, er, pn⟩, hx, rfl, hr3, hf3⟩
          have hb3 : Below w.heap.size w w3 := fr_below HB.out hf3 (by omega)
          have HB3 := hid hb3
          clear hr hf3 hb3
          by_cases he : er = 0
          · subst he
            obtain ⟨hcu, hpn, hpT, hsg⟩ := code_of_get hkk hx
            have hcl := cost_le u (kk : Int)
            have hq3 : q < w3.heap.size := World.block_lt_of_cell? _ _ hr3.c0
            have hg3 : g < w3.heap.size := hr3.row.lt
            have hwx := new_writer' w3 33 w.heap.size HB3.out.size
            have hr4 : Rd (w3.alloc (.cells #[.slice none 0 0, .int .u64 0, .int .i64 0] 33)) q g M T pn := hr3.keep (X := fun _ => False) ((Fr.refl _ _).alloc _) (fun x => x) (fun x => x)
            have hb4 : Below w.heap.size w (w3.alloc (.cells #[.slice none 0 0, .int .u64 0, .int .i64 0] 33)) := HB3.out.alloc HB3.out.size _
            have hz4 : (w3.alloc (.cells #[.slice none 0 0, .int .u64 0, .int .i64 0] 33)).heap.size = w3.heap.size + 1 := by simp
            have HCU := hid hcu
            have HX : Hid (pn = p + cost u (kk : Int) ∧ seg M (8 * T) p (cost u (kk : Int)) = cod u kk) := hid ⟨hpn, hsg⟩
            have HPUT := hid fun W (hw : WrN W w.heap.size w3.heap.size 0 none 0 0 0) => rput_ok w.heap.size w3.heap.size 0 u hcu kk hkk none 0 0 0 W hw (by decide)
            clear hx hcu hpn hsg hr3
            generalize cost u (kk : Int) = c at *
            generalize cod u kk = cd at *
            go_wp2_with fail
            generalize (w3.alloc (.cells #[.slice none 0 0, .int .u64 0, .int .i64 0] 33)) = W4 at hwx hr4 hb4 hz4 ⊢
            have hz3 : w.heap.size ≤ w3.heap.size := HB3.out.size
            generalize w3.heap.size = px at *
            refine (rread_b H'.out hb4 (by omega)).mono ?_
            rintro e w5 ⟨qf, lo, lcap, rfl, hrf, hqf, hb5⟩
            have hlo : ∀ g, blk lo = some g → W4.heap.size ≤ g := fun g hg => (hrf.own.lt g (by rw [ownBlock_slice]; exact hg)).1
            have hw5 := Wr.keep hwx (Fr.of_below hb5) (by omega) (fun g hg => by simp [blk] at hg)
            have hr5 := hr4.keep (Fr.of_below hb5) (by omega) (by omega)
            have hbw5 : Below w.heap.size w w5 := hb4.trans (hb5.mono hb4.size)
            have c1 := hrf.c1
            have f1 := hrf.f1
            clear hwx hr4 hb4 hb5
            go_wp2_with fail
            have hfs : Fr (fun b => b = qf) w5 (w5.setCell ⟨qf, 1, none⟩ (.int .i64 (p : Int))) := (Fr.refl (fun b => b = qf) w5).setCell (p := ⟨qf, 1, none⟩) rfl _
            have hrf6 := hrf.move p
            have hw6 := Wr.keep hw5 hfs (by omega) (fun g hg => by simp [blk] at hg)
            have hr6 := hr5.keep hfs (by omega) (by omega)
            have hbw6 : Below w.heap.size w (w5.setCell ⟨qf, 1, none⟩ (.int .i64 (p : Int))) := fr_below hbw5 hfs (by omega)
            clear hfs hrf hw5 hr5 hbw5 c1 f1
            generalize (w5.setCell ⟨qf, 1, none⟩ (.int .i64 (p : Int))) = W6 at *
            refine (HPUT.out W6 hw6).mono ?_
            rintro e w7 ⟨rfl, ao7, cap7, hw7, hp7⟩
            have hrf7 := hrf6.keep hp7.fr (by simp [blk]; omega) (fun g hg => by have := hlo g hg; simp [blk]; omega)
            have hr7 := hr6.keep hp7.fr (by simp [blk]; omega) (by simp [blk]; omega)
            have hbw7 : Below w.heap.size w w7 := hbw6.trans (pushed_below hp7 hz3 (fun g hg => by simp [blk] at hg) hbw6.size)
            simp only [Nat.zero_mul, Nat.zero_add] at hw7
            have HB7 := hid hbw7
            clear hrf6 hw6 hr6 hbw6 hp7 hbw7
            go_wp2_with fail
            refine (len_any hw7 (by omega)).mono ?_
            rintro e w8 ⟨rfl, nq, rfl⟩
            have hr8 := hr7.drewN nq
            have hrf8 := hrf7.drewN nq
            have hw8 := hw7.drewN nq
            have hb8 : Below w.heap.size w (w7.drewN nq) := fr_below0 HB7.out ((Fr.refl _ _).drewN nq)
            clear hr7 hrf7 hw7
            generalize w7.drewN nq = w8 at *
            go_wp2_with fail
            refine (rat_any hr8).mono ?_
            rintro e w9 ⟨rfl, rfl⟩
            have e1 : ((c : Int) != (pn : Int) - (p : Int)) = false := by rw [bne_eq_false_iff_eq]; have := HX.out.1; omega
            have HR8 := hid hr8
            have HW8 := hid hw8
            have HRF8 := hid hrf8
            have HB8 := hid hb8
            clear hr8 hw8 hrf8 hb8
            go_wp2_with fail
            clear e1
            go_loopg [18] c (fun m2 i2 wi => ∃ m : Nat, m ≤ c ∧ m2 = c - m ∧ i2 = .int .i64 m ∧ Fr (fun _ => False) w8 wi)
            case atStart => exact ⟨0, Nat.zero_le _, rfl, rfl, Fr.refl _ _⟩
            case round =>
              obtain ⟨m, hm, hg2, rfl, hfi⟩ := hrel
              have HG2 := hid hg2
              clear hg2
              go_wp2_with fail
              refine (len_any (Wr.keep HW8.out hfi (fun x => x) (fun _ _ x => x)) (by omega)).mono ?_
              rintro e w10 ⟨rfl, nq2, rfl⟩
              have hf10 := hfi.drewN nq2
              clear hfi
              generalize wr.drewN nq2 = w10 at *
              by_cases hmc : m < c
              · have hmc2 : (m : Int) < (c : Int) := by omega
                have hT2 : m < 8 * ((c + 7) / 8) := by omega
                have hbit : seg (pad cd c) (8 * ((c + 7) / 8)) m 1 = seg M (8 * T) (p + m) 1 := by
                  rw [seg_pad cd c m 1 (by omega), seg_sub M (8 * T) p c m 1 (by omega) (by have := HX.out.1; omega), HX.out.2]
                  rfl
                have hpm : p + m < 8 * T := by have := HX.out.1; omega
                have hw10 := Wr.keep HW8.out hf10 (fun x => x) (fun _ _ x => x)
                have hrf10 := HRF8.out.keep hf10 (fun x => x) (fun _ _ x => x)
                obtain ⟨gl, rfl, hcell, _⟩ := hrf10.bit (p + m) hpm
                have HBY := hid fun wx (hf : Fr (fun _ => False) w10 wx) => bytes_any (Wr.keep hw10 hf (fun x => x) (fun _ _ x => x)) (show c ≤ 7000000000000 by omega)
                have HOF := hid fun (wx : World) (g : Nat) (hrow : wx.rowIs g 5 ((c + 7) / 8) (fun i => .int .u8 (bts cd c i : Int))) =>
                  of_any wx (some ⟨g, 0, none⟩) ((c + 7) / 8) ((c + 7) / 8) (pad cd c) (by omega) (fun j hj => ⟨g, 0, rfl, by rw [Nat.zero_add, hrow.cell hj]; rfl, hrow.lt⟩)
                have HS := hid fun wx (hf : Fr (fun _ => False) w10 wx) => And.intro (hrf10.keep hf (fun x => x) (fun _ _ x => x)).c0 ((hf.cell (p := ⟨gl, p + m, none⟩) (World.block_lt_of_cell? _ _ hcell) (fun x => x)).trans hcell)
                have HBIT := hid hbit
                have hi1 : (0 : Int) ≤ (p : Int) + m := by omega
                have hi2 : (p : Int) + m < ((8 * T : Nat) : Int) := by omega
                have hi3 : (p : Int) + m < 8 * (T : Int) := by omega
                have hi4 : (m : Int) < ((8 * ((c + 7) / 8) : Nat) : Int) := by omega
                have hi5 : (m : Int) < 8 * (((c : Int) + 7) / 8) := by omega
                clear hbit hw10 hrf10 hcell
                generalize hsb : seg M (8 * T) (p + m) 1 = sb at *
                have HSB := hid hsb
                clear hsb
                go_wp2_with fail
                have hfd : Fr (fun _ => False) w10 w10.drew := (Fr.refl _ _).drew
                obtain ⟨s0, t0⟩ := HS.out _ hfd
                have hwr : IntKind.i64.wrap ((p : Int) + (m : Int)) = (p : Int) + m := IntWalk.i64_in _ (by omega)
                have hnn : ((p : Int) + (m : Int)).toNat = p + m := by omega
                go_region_with (first
                    | (go_at_call 19; (with_reducible refine (HBY.out _ ‹Fr (fun _ => False) w10 _›).mono ?_); rintro e wA ⟨rfl, hbA, hrA⟩; have hrB : wA.rowIs w10.heap.size 5 ((c + 7) / 8) (fun i => .int .u8 (bts cd c i : Int)) := hrA; have hfA := hfd.trans (fr_of_below hbA); obtain ⟨s1, t1⟩ := HS.out wA hfA)
                    | (go_at_call 30; (with_reducible refine (HOF.out _ _ hrB).mono ?_); rintro e wB hof; obtain ⟨gb, lcapB, rfl, hcB, hbB⟩ := of_bit hof m hT2; rw [HBIT.out] at hcB; have hfB := hfA.trans (fr_of_below hbB); obtain ⟨s2, t2⟩ := HS.out wB hfB))
                all_goals
                  have hfe := hf10.trans hfB
                  clear s0 s1 s2 t0 t1 t2 hwr hnn hcB hrA hrB hfA hfB hfd hbA hbB hof
                  go_wp2_with fail
                  go_roundg (c - (m + 1))
                  case measure => rw [HG2.out]; omega
                  case rel => exact ⟨m + 1, by omega, rfl, by go_num, hfe⟩
              · obtain rfl : m = c := by omega
                have hmc2 : ¬ (m : Int) < (m : Int) := by omega
                have hbe := fr_below0 HB8.out hf10
                have hre := HR8.out.keep hf10 (fun x => x) (fun x => x)
                go_wp2_with fail
                go_roundg (20 - (j + 1))
                case measure => rw [HG.out]; omega
                case rel => exact ⟨j + 1, pn, by omega, rfl, by go_num, hpT, hre, hbe⟩
          · obtain rfl : u = 0 := hx.zero he
            have he2 : (er != 0) = true := bne_iff_ne.2 he
            clear he hx hr3
            go_wp2_with fail
            refine (known_true _).mono ?_
            rintro e w4 ⟨rfl, hb4⟩
            have hfin := HB3.out.trans (hb4.mono HB3.out.size)
            clear hb4
            go_wp2_with fail
            go_ret
            exact ⟨rfl, hfin⟩
        · have hge : ¬ (j : Int) < 20 := by omega
          go_wp2_with fail
          refine (known_true _).mono ?_
          rintro e w4 ⟨rfl, hb4⟩
          have hfin := HB.out.trans (hb4.mono HB.out.size)
          clear hb4
          go_wp2_with fail
          go_ret
          exact ⟨rfl, hfin⟩
  · have hd0 : decide (okK k) = false := decide_eq_false hk
    clear h h'
    go_enter Try.func6, Try.ntmps6
    go_wp2_with fail
    refine (rparam _ _).mono ?_
    rintro e w1 ⟨rfl, rfl⟩
    rw [hd0]
    go_wp2_with fail
    refine (known_true _).mono ?_
    rintro e w' ⟨rfl, hb⟩
    go_wp2_with fail
    go_ret
    exact ⟨rfl, hb⟩
end Go.Proofs.Ytgojdhffhocceaa.Rice
