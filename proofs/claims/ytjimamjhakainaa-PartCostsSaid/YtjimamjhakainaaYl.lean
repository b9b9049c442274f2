/- write: a part's code is written in its way. Conditions: the list is coded, of at most 2^16 numbers, apart from the writer's own memory. -/
import Derived.Test.YtjimamjhakainaaYk
namespace Go.Proofs.Ytjimamjhakainaa.Part
open Go.RowKit Bit Rice Runs

theorem pst_putall {W w1 w2 : World} {B p o : Nat} {ao : Option Addr} {L : Nat} {r : Nat × Nat} (h : Pst W B p o ao L r w1) (hlt : ∀ g, blk ao = some g → g < W.heap.size ∧ g ≠ p) (hb : Below w1.heap.size w1 w2)
    {lo : Option Addr} {len lcap zb : Nat} {U : Nat → Nat} (hus : Us w2 lo len zb 0 U) (hzb : w1.heap.size ≤ zb) (hr : allC U len) (k : Nat) (hk : k ≤ 30) (hL : L ≤ r.2) (h3 : r.2 ≤ 3000000000000) (hlen : len ≤ 1048576) :
    Calls Try.prog 76 #[.pointer (some ⟨p, o, none⟩), .slice lo len lcap, .int .i64 (k : Int)] w2 fun e w' => e = .returned (.int .i64 0) ∧ Pst W B p o ao L (cods U k r.1 r.2 len) w' := by
  have h2 := pst_upto h hb hlt
  obtain ⟨ao', cap', hw, hp⟩ := h
  have hw2 : WrN w2 B p o ao' cap' r.1 r.2 := hw.keep (fr_of_below hb) (fun x => x) (fun _ _ x => x)
  have hp2 : Pushed W w2 p ao ao' (L / 8) := ⟨hp.fr.trans ((fr_of_below hb).mono fun _ _ x => x.elim), fun g j hg hj => (hb.cell (p := ⟨g, j, none⟩) (by have := (hlt g hg).1; have := hp.fr.size; show g < _; omega)).trans (hp.pre g j hg hj), hp.at_⟩
  refine (putall_ok B p o lo len lcap zb 0 U k hk ao' cap' r.1 r.2 w2 hw2 hus (fun _ => ⟨by have := hw.plt; omega, fun e => by have := (hw.rlt _ e).2; omega⟩) hr h3 hlen).mono ?_
  rintro e w' ⟨rfl, ao2, cap2, hw3, hp3⟩
  exact ⟨rfl, ao2, cap2, hw3, hp2.trans hp3 (by omega) hlt⟩
theorem pst_runs {W wr : World} {B p o : Nat} {ao : Option Addr} {L : Nat} {r : Nat × Nat} (h : Pst W B p o ao L r wr) (hlt : ∀ g, blk ao = some g → g < W.heap.size ∧ g ≠ p) {a : Option Addr} {len cap b off : Nat} {I : Nat → Int} (hi : Is W a len cap b off I)
    (hsep : 0 < len → b ≠ p ∧ blk ao ≠ some b) (hz : allZ I len) (k : Nat) (hk : k ≤ 30) (hL : L ≤ r.2) (h3 : r.2 ≤ 2000000000000) (hlen : len ≤ 1048576) :
    Calls Try.prog 77 #[.pointer (some ⟨p, o, none⟩), .slice a len cap, .int .i64 (k : Int)] wr fun e w' => e = .returned (.int .i64 0) ∧ Pst W B p o ao L (cfin I k r len) w' := by
  have his := pst_is h hi hsep
  obtain ⟨ao', cap', hw, hp⟩ := h
  refine (rp_ok B p o a len cap b off I k hk ao' cap' r.1 r.2 wr hw his (fun hl => ⟨(hsep hl).1, fun e => ?_⟩) hz h3 hlen).mono ?_
  · rcases hp.at_ with e2 | e2
    · exact (hsep hl).2 (by rw [← e2]; exact e)
    · have := e2 b e
      have := hi.lt hl
      omega
  · rintro e w' ⟨rfl, ao2, cap2, hw3, hp3⟩
    exact ⟨rfl, ao2, cap2, hw3, hp.trans hp3 (by omega) hlt⟩
set_option maxRecDepth 100000 in
set_option maxHeartbeats 4000000 in
theorem write_any (B p o : Nat) (a : Option Addr) (len cap b off : Nat) (I : Nat → Int) (x : Nat × Nat × Nat) (hx : wok x) (ao : Option Addr) (acap N L : Nat) (w : World) (hw : WrN w B p o ao acap N L)
    (h : Is w a len cap b off I) (hsep : 0 < len → b ≠ p ∧ blk ao ≠ some b) (hz : allZ I len) (hlen : len ≤ 65536) (hL : L ≤ 1000000000000) :
    Calls Try.prog 52 #[.pointer (some ⟨p, o, none⟩), .slice a len cap, .agg #[.int .i64 (x.1 : Int), .int .i64 (x.2.1 : Int)]] w fun e w' => e = .returned (.tuple #[]) ∧ Pst w B p o ao L (pcw x I len (N, L)) w' := by
  obtain ⟨kd, k, ct⟩ := x
  have hlt : ∀ g, blk ao = some g → g < w.heap.size ∧ g ≠ p := fun g hg => ⟨(hw.rlt g hg).2, fun e => hw.far (e ▸ hg)⟩
  have hpl := hw.plt
  obtain ⟨W, hW⟩ : ∃ W, w.alloc (.cells #[.int .i64 (kd : Int), .int .i64 (k : Int)] 25) = W := ⟨_, rfl⟩
  have hWs : W.heap.size = w.heap.size + 1 := by rw [← hW]; simp
  have hwW : WrN W B p o ao acap N L := by rw [← hW]; exact Wr.alloc hw _
  have hPW : Pushed w W p ao ao (L / 8) := by rw [← hW]; exact Pushed.alloc p (fun g hg => (hlt g hg).1) (L / 8) _
  have hIW : Is W a len cap b off I := by rw [← hW]; exact h.below ((Below.refl w.heap.size w).alloc (Nat.le_refl _) _) h.lt
  have hrW : W.rowIs w.heap.size 25 2 (fun i => if i = 0 then .int .i64 (kd : Int) else .int .i64 (k : Int)) := by
    rw [← hW]; exact ⟨_, heap_alloc_new _ _, rfl, fun i hi => by rcases i with _ | _ | i <;> first | rfl | omega⟩
  have hltW : ∀ g, blk ao = some g → g < W.heap.size ∧ g ≠ p := fun g hg => ⟨by have := (hlt g hg).1; omega, (hlt g hg).2⟩
  have HW := hid hW; have HWS := hid hWs; have HLT := hid hlt; have HLTW := hid hltW; have HPW := hid hPW; have HIW := hid hIW; have HRW := hid hrW; have HSEP := hid hsep
  -- the box is as it was, whatever is written
  have HBOX := hid (show ∀ (r : Nat × Nat) wr, Pst W B p o ao L r wr → wr.cell? ⟨w.heap.size, 0, none⟩ = some (.int .i64 (kd : Int)) ∧ wr.cell? ⟨w.heap.size, 1, none⟩ = some (.int .i64 (k : Int)) from fun r wr hp => by
    obtain ⟨ao', cap', _, hp⟩ := hp
    have hx : ¬ (w.heap.size = p ∨ blk ao = some w.heap.size) := by
      rintro (e | e)
      · omega
      · have := (HLT.out _ e).1; omega
    exact ⟨(hp.fr.cell (p := ⟨w.heap.size, 0, none⟩) (by show w.heap.size < _; omega) hx).trans (HRW.out.cell (show 0 < 2 by decide)), (hp.fr.cell (p := ⟨w.heap.size, 1, none⟩) (by show w.heap.size < _; omega) hx).trans (HRW.out.cell (show 1 < 2 by decide))⟩)
  have HP0 := hid (pst_new W hwW)
  have HEND := hid (show ∀ (r : Nat × Nat) wr, Pst W B p o ao L r wr → Pst w B p o ao L r wr from fun r wr hp => pst_trans (r := (N, L)) HPW.out hp (Nat.le_refl _) HLT.out)
  have HISR := hid (show ∀ (r : Nat × Nat) wr, Pst W B p o ao L r wr → Is wr a len cap b off I from fun r wr hp => pst_is hp HIW.out HSEP.out)
  have c0 := (HBOX.out _ _ HP0.out).1
  have c1 := (HBOX.out _ _ HP0.out).2
  clear h hw hlt hWs hwW hPW hIW hrW hltW hsep
  have HPUT := hid (show ∀ (r : Nat × Nat) wr, Pst W B p o ao L r wr → L ≤ r.2 → r.2 ≤ 7000000000000 → ∀ (vi ni : Int) (v n : Nat), vi = v → ni = n → v < 2 ^ n → n ≤ 64 →
      Calls Try.prog 50 #[.pointer (some ⟨p, o, none⟩), .int .u64 vi, .int .i64 ni] wr fun e w' => e = .returned (.int .i64 0) ∧ Pst W B p o ao L (app r v n) w' from fun r wr hp h1 h2 vi ni v n hv hn h3 h4 => pst_put hp HLTW.out h1 h2 vi ni v n hv hn h3 h4)
  rcases hx with hx | ⟨hx, hk⟩ | ⟨hx, hk⟩ | ⟨hx, hk1, hk⟩
  · have hx : kd = 0 := hx
    have e0 : ((kd : Int) == 0) = true := by rw [hx]; rfl
    have HE : RowKit.Hid (pcw (kd, k, ct) I len (N, L) = app (N, L) 31 6) := hid (by rw [hx]; rfl)
    clear hx
    go_enter Try.func52, Try.ntmps52
    go_wp2_with fail
    refine (HPUT.out _ _ HP0.out (Nat.le_refl _) (by show L ≤ _; omega) _ _ 31 6 rfl rfl (by decide) (by decide)).mono ?_
    rintro e w1 ⟨rfl, hp1⟩
    go_wp2_with fail
    go_end0
    exact ⟨rfl, by rw [HE.out]; exact HEND.out _ _ hp1⟩
  · have hx : kd = 1 := hx
    have e0 : ((kd : Int) == 0) = false := by rw [hx]; rfl
    have e1 : ((kd : Int) == 1) = true := by rw [hx]; rfl
    have hk : k ≤ 30 := hk
    have HE : RowKit.Hid (pcw (kd, k, ct) I len (N, L) = cods (zs I) k (app (N, L) k 6).1 (app (N, L) k 6).2 len) := hid (by rw [hx]; rfl)
    clear hx
    have HK6 : RowKit.Hid (k < 2 ^ 6) := hid (by omega)
    have hku : IntKind.u64.wrap (k : Int) = (k : Int) := by rw [IntKind.wrap_u64]; omega
    go_enter Try.func52, Try.ntmps52
    go_wp2_with fail
    refine (HPUT.out _ _ HP0.out (Nat.le_refl _) (by show L ≤ _; omega) _ _ k 6 rfl rfl HK6.out (by decide)).mono ?_
    rintro e w1 ⟨rfl, hp1⟩
    have hw1s : w.heap.size < w1.heap.size := by obtain ⟨_, _, _, hq⟩ := hp1; have := hq.fr.size; have := HWS.out; omega
    have d1 := (HBOX.out _ _ hp1).2
    have hd1 : w1.drew.cell? ⟨w.heap.size, 1, none⟩ = some (.int .i64 (k : Int)) := d1
    have hpd : Pst W B p o ao L (app (N, L) k 6) w1.drew := pst_upto hp1 ⟨rfl, rfl, rfl, Nat.le_refl _, fun _ _ => rfl⟩ HLTW.out
    have HPD := hid hpd
    have hZ := zigs_any w1.drew a len cap b off I (HISR.out _ _ hpd) (by omega)
    have HZ := hid hZ
    have HWS1 := hid hw1s
    clear hp1 hpd hZ d1 hw1s
    go_wp2_with fail
    go_region_with (first
      | (go_at_call 59; (with_reducible refine (HZ.out).mono ?_); rintro e w3 ⟨lo, lcap, zb, rfl, hus, hzb, hb2⟩; have d2 := (hb2.cell (p := ⟨w.heap.size, 1, none⟩) HWS1.out).trans hd1; have HPA := hid (fun lc => pst_putall (lcap := lc) HPD.out HLTW.out hb2 hus hzb hz k hk (by show L ≤ L + 6; omega) (by show L + 6 ≤ _; omega) (by omega)))
      | (go_at_call 76; (with_reducible refine (HPA.out _).mono ?_); rintro e w4 ⟨rfl, hp4⟩))
    all_goals
      go_wp2_with fail
      go_end0
      exact ⟨rfl, by rw [HE.out]; exact HEND.out _ _ hp4⟩
  · have hx : kd = 2 := hx
    have e0 : ((kd : Int) == 0) = false := by rw [hx]; rfl
    have e1 : ((kd : Int) == 1) = false := by rw [hx]; rfl
    have e2 : ((kd : Int) == 2) = true := by rw [hx]; rfl
    have hk : k ≤ 30 := hk
    have HE : RowKit.Hid (pcw (kd, k, ct) I len (N, L) = cfin I k (app (app (N, L) 32 6) k 5) len) := hid (by rw [hx]; rfl)
    clear hx
    have HK5 : RowKit.Hid (k < 2 ^ 5) := hid (by omega)
    have hku : IntKind.u64.wrap (k : Int) = (k : Int) := by rw [IntKind.wrap_u64]; omega
    go_enter Try.func52, Try.ntmps52
    go_wp2_with fail
    refine (HPUT.out _ _ HP0.out (Nat.le_refl _) (by show L ≤ _; omega) _ _ 32 6 rfl rfl (by decide) (by decide)).mono ?_
    rintro e w1 ⟨rfl, hp1⟩
    go_wp2_with fail
    refine (HPUT.out _ _ hp1 (by show L ≤ L + 6; omega) (by show L + 6 ≤ _; omega) _ _ k 5 rfl rfl HK5.out (by decide)).mono ?_
    rintro e w2 ⟨rfl, hp2⟩
    have d1 := (HBOX.out _ _ hp2).2
    go_wp2_with fail
    refine (pst_runs hp2 HLTW.out HIW.out HSEP.out hz k hk (by show L ≤ L + 6 + 5; omega) (by show L + 6 + 5 ≤ _; omega) (by omega)).mono ?_
    rintro e w3 ⟨rfl, hp3⟩
    go_wp2_with fail
    go_end0
    exact ⟨rfl, by rw [HE.out]; exact HEND.out _ _ hp3⟩
  · have hx : kd = 3 := hx
    have e0 : ((kd : Int) == 0) = false := by rw [hx]; rfl
    have e1 : ((kd : Int) == 1) = false := by rw [hx]; rfl
    have e2 : ((kd : Int) == 2) = false := by rw [hx]; rfl
    have e3 : ((kd : Int) == 3) = true := by rw [hx]; rfl
    have hk : k ≤ 41 := hk
    have HE : RowKit.Hid (pcw (kd, k, ct) I len (N, L) = rawc I k (app (app (N, L) 33 6) k 6) len) := hid (by rw [hx]; rfl)
    clear hx
    have HK6 : RowKit.Hid (k < 2 ^ 6) := hid (by omega)
    have hku : IntKind.u64.wrap (k : Int) = (k : Int) := by rw [IntKind.wrap_u64]; omega
    have HL2 := hid (show ∀ j, j ≤ len → L ≤ (rawc I k (app (app (N, L) 33 6) k 6) j).2 ∧ (rawc I k (app (app (N, L) 33 6) k 6) j).2 ≤ 7000000000000 from fun j hj => by
      rw [rawc_len]
      have h1 : k * j ≤ 41 * 65536 := Nat.mul_le_mul hk (Nat.le_trans hj hlen)
      show L ≤ L + 6 + 6 + k * j ∧ L + 6 + 6 + k * j ≤ _
      omega)
    go_enter Try.func52, Try.ntmps52
    go_wp2_with fail
    refine (HPUT.out _ _ HP0.out (Nat.le_refl _) (by show L ≤ _; omega) _ _ 33 6 rfl rfl (by decide) (by decide)).mono ?_
    rintro e w1 ⟨rfl, hp1⟩
    go_wp2_with fail
    refine (HPUT.out _ _ hp1 (by show L ≤ L + 6; omega) (by show L + 6 ≤ _; omega) _ _ k 6 rfl rfl HK6.out (by decide)).mono ?_
    rintro e w2 ⟨rfl, hp2⟩
    have HP2 := hid hp2
    clear hp1 hp2 c0 c1
    go_wp2_with fail
    go_loopg [50] len (fun g i wr => ∃ j : Nat, j ≤ len ∧ g = len - j ∧ i = .int .i64 j ∧ Pst W B p o ao L (rawc I k (app (app (N, L) 33 6) k 6) j) wr)
    case atStart => exact ⟨0, Nat.zero_le _, rfl, rfl, HP2.out⟩
    case round =>
      obtain ⟨j, hj, hg, rfl, hst⟩ := hrel
      have HG := hid hg
      have HST := hid hst
      clear hg
      by_cases hlt : j < len
      · have hlt2 : (j : Int) < (len : Int) := by omega
        have his := HISR.out _ _ hst
        obtain rfl := his.addr (by omega)
        have ck := his.c j hlt
        have d1 := (HBOX.out _ _ hst).2
        have HM := hid (u64_mask (I j) k (by omega))
        have HML := hid (mask_lt (I j) k)
        clear hst his
        go_wp2_with fail
        refine (HPUT.out _ _ HST.out (HL2.out j hj).1 (HL2.out j hj).2 _ _ (I j % 2 ^ k).toNat k HM.out rfl HML.out (by omega)).mono ?_
        rintro e w3 ⟨rfl, hp3⟩
        go_wp2_with fail
        go_roundg (len - (j + 1))
        case measure => rw [HG.out]; omega
        case rel => exact ⟨j + 1, by omega, rfl, by go_num, hp3⟩
      · have hge : ¬ (j : Int) < (len : Int) := by omega
        obtain rfl : len = j := by omega
        go_wp2_with fail
        go_end0
        exact ⟨rfl, by first | (rw [HE.out]; exact HEND.out _ _ hst) | exact HEND.out _ _ hst⟩
