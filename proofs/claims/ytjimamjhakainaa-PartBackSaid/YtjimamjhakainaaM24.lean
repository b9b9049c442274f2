/- A part's code, and its write. Conditions: the list is coded, the writer is there. -/
import Derived.Test.YtjimamjhakainaaM22
namespace Go.Proofs.Ytjimamjhakainaa.Part
open Go.RowKit Bit Rice Runs

/-- Numbers in k bits each, behind some bits. -/
def rawc (I : Nat → Int) (k : Nat) (p : Nat × Nat) : Nat → Nat × Nat
  | 0 => p
  | j + 1 => app (rawc I k p j) (I j % 2 ^ k).toNat k
theorem rawc_len (I : Nat → Int) (k : Nat) (p : Nat × Nat) : ∀ n, (rawc I k p n).2 = p.2 + k * n
  | 0 => rfl
  | n + 1 => by
    have := rawc_len I k p n
    show (rawc I k p n).2 + k = _
    rw [this, Nat.mul_succ]; omega
/-- A part's code in one of the ways, behind some bits. -/
def pcw (x : Nat × Nat × Nat) (I : Nat → Int) (n : Nat) (p : Nat × Nat) : Nat × Nat :=
  if x.1 = 0 then app p 31 6 else if x.1 = 1 then cods (zs I) x.2.1 (app p x.2.1 6).1 (app p x.2.1 6).2 n
  else if x.1 = 2 then cfin I x.2.1 (app (app p 32 6) x.2.1 5) n else rawc I x.2.1 (app (app p 33 6) x.2.1 6) n
/-- Which ways are written. -/
def wok (x : Nat × Nat × Nat) : Prop := (x.1 = 0) ∨ (x.1 = 1 ∧ x.2.1 ≤ 30) ∨ (x.1 = 2 ∧ x.2.1 ≤ 30) ∨ (x.1 = 3 ∧ 1 ≤ x.2.1 ∧ x.2.1 ≤ 41)
theorem wok_1 (q t : Nat) (h : q ≤ 30) : wok (1, q, t) := .inr (.inl ⟨rfl, h⟩)
theorem wok_2 (q t : Nat) (h : q ≤ 30) : wok (2, q, t) := .inr (.inr (.inl ⟨rfl, h⟩))
theorem wok_3 (q t : Nat) (h : 1 ≤ q) (h2 : q ≤ 41) : wok (3, q, t) := .inr (.inr (.inr ⟨rfl, h, h2⟩))
theorem wok_ite (c : Prop) [Decidable c] (x y : Nat × Nat × Nat) (hx : wok x) (hy : wok y) : wok (if c then x else y) := by split <;> assumption
theorem wy_ok (I : Nat → Int) (n : Nat) (h : gr I n < 1099511627776) : wok (wy I n) := by
  have h1 := kr_le I n
  have h2 := rbs_le I n 30
  have h3 := rw_le I n h
  have h4 : 1 ≤ rw_ I n := by unfold rw_ rw1; omega
  have a1 : wok (1, kr I n, 6 + tt I n (kr I n)) := wok_1 _ _ h1
  have a2 : wok (2, rbs I n 30, 11 + cstI I (rbs I n 30 : Nat) n) := wok_2 _ _ h2
  have a3 : wok (3, rw_ I n, 12 + rw_ I n * n) := wok_3 _ _ h4 h3
  have a0 : wok (0, 0, 6) := .inl rfl
  unfold wy
  refine wok_ite _ _ _ a0 ?_
  dsimp only
  generalize (1, kr I n, 6 + tt I n (kr I n)) = z1 at *
  generalize (2, rbs I n 30, 11 + cstI I (rbs I n 30 : Nat) n) = z2 at *
  exact wok_ite _ _ _ a3 (wok_ite _ _ _ a2 a1)
theorem pcw_le (x : Nat × Nat × Nat) (I : Nat → Int) (n : Nat) (p : Nat × Nat) (h : wok x) : p.2 ≤ (pcw x I n p).2 ∧ (pcw x I n p).2 ≤ p.2 + 127 * n + 80 := by
  unfold pcw
  rcases h with h | ⟨h, _⟩ | ⟨h, _⟩ | ⟨h, h1, h2⟩
  · rw [if_pos h]
    show p.2 ≤ p.2 + 6 ∧ _
    show p.2 ≤ p.2 + 6 ∧ p.2 + 6 ≤ _
    omega
  · rw [if_neg (by omega), if_pos h]
    have := cods_le (zs I) x.2.1 (app p x.2.1 6).1 (app p x.2.1 6).2 n
    have e : (app p x.2.1 6).2 = p.2 + 6 := rfl
    omega
  · rw [if_neg (by omega), if_neg (by omega), if_pos h]
    have := cfin_le I x.2.1 (app (app p 32 6) x.2.1 5) n
    have e : (app (app p 32 6) x.2.1 5).2 = p.2 + 6 + 5 := rfl
    omega
  · rw [if_neg (by omega), if_neg (by omega), if_neg (by omega), rawc_len]
    have e : (app (app p 33 6) x.2.1 6).2 = p.2 + 6 + 6 := rfl
    have : x.2.1 * n ≤ 41 * n := Nat.mul_le_mul_right _ h2
    omega

theorem pst_put {W wr : World} {B p o : Nat} {ao : Option Addr} {L : Nat} {r : Nat × Nat} (h : Pst W B p o ao L r wr) (hlt : ∀ g, blk ao = some g → g < W.heap.size ∧ g ≠ p) (hL : L ≤ r.2) (h7 : r.2 ≤ 7000000000000)
    (vi ni : Int) (v n : Nat) (hvi : vi = v) (hni : ni = n) (hv : v < 2 ^ n) (hn : n ≤ 64) :
    Calls Try.prog 50 #[.pointer (some ⟨p, o, none⟩), .int .u64 vi, .int .i64 ni] wr fun e w' => e = .returned (.int .i64 0) ∧ Pst W B p o ao L (app r v n) w' := by
  obtain ⟨ao', cap', hw, hp⟩ := h
  refine (put_okI B p o vi ni v n hvi hni ao' cap' r.1 r.2 wr hw hv hn h7).mono ?_
  rintro e w' ⟨rfl, ao2, cap2, hw2, hp2⟩
  exact ⟨rfl, ao2, cap2, hw2, hp.trans hp2 (by omega) hlt⟩
theorem pst_is {W wr : World} {B p o : Nat} {ao : Option Addr} {L : Nat} {r : Nat × Nat} (h : Pst W B p o ao L r wr) {a : Option Addr} {len cap b off : Nat} {I : Nat → Int} (hi : Is W a len cap b off I) (hsep : 0 < len → b ≠ p ∧ blk ao ≠ some b) :
    Is wr a len cap b off I := by
  obtain ⟨ao', cap', hw, hp⟩ := h
  exact hi.fr hp.fr fun hl hx => by
    rcases hx with e | e
    · exact (hsep hl).1 e
    · exact (hsep hl).2 e
theorem pst_new (W : World) {B p o : Nat} {ao : Option Addr} {cap N L : Nat} (h : WrN W B p o ao cap N L) : Pst W B p o ao L (N, L) W := ⟨ao, cap, h, Pushed.refl _ _ _ _⟩
theorem pst_trans {W w1 w2 : World} {B p o : Nat} {ao ao1 : Option Addr} {L : Nat} {r r2 : Nat × Nat} (h : Pushed W w1 p ao ao1 (L / 8)) (h2 : Pst w1 B p o ao1 r.2 r2 w2) (hL : L ≤ r.2) (hlt : ∀ g, blk ao = some g → g < W.heap.size ∧ g ≠ p) : Pst W B p o ao L r2 w2 := by
  obtain ⟨ao', cap', hw, hp⟩ := h2
  exact ⟨ao', cap', hw, h.trans hp (by omega) hlt⟩
theorem pst_upto {W w1 w2 : World} {B p o : Nat} {ao : Option Addr} {L : Nat} {r : Nat × Nat} (h : Pst W B p o ao L r w1) (hb : Below w1.heap.size w1 w2) (hlt : ∀ g, blk ao = some g → g < W.heap.size ∧ g ≠ p) : Pst W B p o ao L r w2 := by
  obtain ⟨ao', cap', hw, hp⟩ := h
  refine ⟨ao', cap', hw.keep (fr_of_below hb) (fun x => x) (fun _ _ x => x), ⟨hp.fr.trans ((fr_of_below hb).mono fun _ _ x => x.elim), fun g j hg hj => ?_, hp.at_⟩⟩
  exact (hb.cell (p := ⟨g, j, none⟩) (by have := (hlt g hg).1; have := hp.fr.size; show g < _; omega)).trans (hp.pre g j hg hj)

theorem u64_mask (x : Int) (k : Nat) (hk : k ≤ 63) : bits .and .u64 (IntKind.u64.wrap x) (IntKind.u64.wrap (IntKind.u64.wrap (2 ^ k) - 1)) = (((x % 2 ^ k).toNat : Nat) : Int) := by
  obtain ⟨y, hy⟩ : ∃ y : Nat, IntKind.u64.wrap x = (y : Int) := ⟨(x % 18446744073709551616).toNat, by rw [IntKind.wrap_u64]; omega⟩
  have hyl : y < 18446744073709551616 := by rw [IntKind.wrap_u64] at hy; omega
  rw [hy, and_mask y k hyl hk]
  have hp : (0 : Int) < 2 ^ k := by rw [show (2 : Int) ^ k = ((2 ^ k : Nat) : Int) from by push_cast; rfl]; have := Nat.two_pow_pos k; omega
  have h2 : x % 2 ^ k = (y : Int) % 2 ^ k := by
    rw [← hy, IntKind.wrap_u64]
    refine (Int.emod_emod_of_dvd x ?_).symm
    exact ⟨2 ^ (64 - k), by rw [← Int.pow_add, show k + (64 - k) = 64 from by omega]; decide⟩
  rw [h2]
  have h3 : (0 : Int) ≤ (y : Int) % 2 ^ k := Int.emod_nonneg _ (by omega)
  rw [Int.toNat_of_nonneg h3]
  push_cast
  rfl
theorem mask_lt (x : Int) (k : Nat) : (x % 2 ^ k).toNat < 2 ^ k := by
  have hp : (0 : Int) < 2 ^ k := by rw [show (2 : Int) ^ k = ((2 ^ k : Nat) : Int) from by push_cast; rfl]; have := Nat.two_pow_pos k; omega
  have h1 := Int.emod_lt_of_pos x hp
  have h2 : (0 : Int) ≤ x % 2 ^ k := Int.emod_nonneg _ (by omega)
  have h3 : ((x % 2 ^ k).toNat : Int) < ((2 ^ k : Nat) : Int) := by rw [Int.toNat_of_nonneg h2]; push_cast; exact h1
  exact_mod_cast h3
end Go.Proofs.Ytjimamjhakainaa.Part
/- write: a part's code is written in its way. Conditions: the list is coded, of at most 2^16 numbers, apart from the writer's own memory. -/
namespace Go.Proofs.Ytjimamjhakainaa.Part
open Go.RowKit Bit Rice Runs

theorem pst_putall {W w1 w2 : World} {B p o : Nat} {ao : Option Addr} {L : Nat} {r : Nat × Nat} (h : Pst W B p o ao L r w1) (hlt : ∀ g, blk ao = some g → g < W.heap.size ∧ g ≠ p) (hb : Below w1.heap.size w1 w2)
    {lo : Option Addr} {len lcap zb : Nat} {U : Nat → Nat} (hus : Us w2 lo len zb 0 U) (hzb : w1.heap.size ≤ zb) (hr : allC U len) (k : Nat) (hk : k ≤ 30) (hL : L ≤ r.2) (h3 : r.2 ≤ 3000000000000) (hlen : len ≤ 1048576) :
    Calls Try.prog 76 #[.pointer (some ⟨p, o, none⟩), .slice lo len lcap, .int .i64 (k : Int)] w2 fun e w' => e = .returned (.int .i64 0) ∧ Pst W B p o ao L (cods U k r.1 r.2 len) w' := by
  have h2 := pst_upto h hb hlt
  obtain ⟨ao', cap', hw, hp⟩ := h
  have hw2 : WrN w2 B p o ao' cap' r.1 r.2 := hw.keep (fr_of_below hb) (fun x => x) (fun _ _ x => x)
  have hp2 : Pushed W w2 p ao ao' (L / 8) := ⟨hp.fr.trans ((fr_of_below hb).mono fun _ _ x => x.elim), fun g j hg hj => (hb.cell (p := ⟨g, j, none⟩) (by have := (hlt g hg).1; have := hp.fr.size; show g < _; omega)).trans (hp.pre g j hg hj), hp.at_⟩
  refine (putall_ok B p o lo len lcap zb 0 U k hk ao' cap' r.1 r.2 w2 hw2 hus (fun _ => ⟨by have := hw.plt; omega, fun e => by have := (hw.rlt _ e).2; omega⟩) hr h3 hlen).mono ?_
  rintro e w' ⟨rfl, ao2, cap2, hw3, hp3⟩
  exact ⟨rfl, ao2, cap2, hw3, hp2.trans hp3 (by omega) hlt⟩
theorem pst_runs {W wr : World} {B p o : Nat} {ao : Option Addr} {L : Nat} {r : Nat × Nat} (h : Pst W B p o ao L r wr) (hlt : ∀ g, blk ao = some g → g < W.heap.size ∧ g ≠ p) {a : Option Addr} {len cap b off : Nat} {I : Nat → Int} (hi : Is W a len cap b off I)
    (hsep : 0 < len → b ≠ p ∧ blk ao ≠ some b) (hz : allZ I len) (k : Nat) (hk : k ≤ 30) (hL : L ≤ r.2) (h3 : r.2 ≤ 2000000000000) (hlen : len ≤ 1048576) :
    Calls Try.prog 77 #[.pointer (some ⟨p, o, none⟩), .slice a len cap, .int .i64 (k : Int)] wr fun e w' => e = .returned (.int .i64 0) ∧ Pst W B p o ao L (cfin I k r len) w' := by
  have his := pst_is h hi hsep
  obtain ⟨ao', cap', hw, hp⟩ := h
  refine (rp_ok B p o a len cap b off I k hk ao' cap' r.1 r.2 wr hw his (fun hl => ⟨(hsep hl).1, fun e => ?_⟩) hz h3 hlen).mono ?_
  · rcases hp.at_ with e2 | e2
    · exact (hsep hl).2 (by rw [← e2]; exact e)
    · have := e2 b e
      have := hi.lt hl
      omega
  · rintro e w' ⟨rfl, ao2, cap2, hw3, hp3⟩
    exact ⟨rfl, ao2, cap2, hw3, hp.trans hp3 (by omega) hlt⟩
set_option maxRecDepth 100000 in
set_option maxHeartbeats 4000000 in
theorem write_any (B p o : Nat) (a : Option Addr) (len cap b off : Nat) (I : Nat → Int) (x : Nat × Nat × Nat) (hx : wok x) (ao : Option Addr) (acap N L : Nat) (w : World) (hw : WrN w B p o ao acap N L)
    (h : Is w a len cap b off I) (hsep : 0 < len → b ≠ p ∧ blk ao ≠ some b) (hz : allZ I len) (hlen : len ≤ 65536) (hL : L ≤ 1000000000000) :
    Calls Try.prog 52 #[.pointer (some ⟨p, o, none⟩), .slice a len cap, .agg #[.int .i64 (x.1 : Int), .int .i64 (x.2.1 : Int)]] w fun e w' => e = .returned (.tuple #[]) ∧ Pst w B p o ao L (pcw x I len (N, L)) w' := by
  obtain ⟨kd, k, ct⟩ := x
  have hlt : ∀ g, blk ao = some g → g < w.heap.size ∧ g ≠ p := fun g hg => ⟨(hw.rlt g hg).2, fun e => hw.far (e ▸ hg)⟩
  have hpl := hw.plt
  obtain ⟨W, hW⟩ : ∃ W, w.alloc (.cells #[.int .i64 (kd : Int), .int .i64 (k : Int)] 25) = W := ⟨_, rfl⟩
  have hWs : W.heap.size = w.heap.size + 1 := by rw [← hW]; simp
  have hwW : WrN W B p o ao acap N L := by rw [← hW]; exact Wr.alloc hw _
  have hPW : Pushed w W p ao ao (L / 8) := by rw [← hW]; exact Pushed.alloc p (fun g hg => (hlt g hg).1) (L / 8) _
  have hIW : Is W a len cap b off I := by rw [← hW]; exact h.below ((Below.refl w.heap.size w).alloc (Nat.le_refl _) _) h.lt
  have hrW : W.rowIs w.heap.size 25 2 (fun i => if i = 0 then .int .i64 (kd : Int) else .int .i64 (k : Int)) := by
    rw [← hW]; exact ⟨_, heap_alloc_new _ _, rfl, fun i hi => by rcases i with _ | _ | i <;> first | rfl | omega⟩
  have hltW : ∀ g, blk ao = some g → g < W.heap.size ∧ g ≠ p := fun g hg => ⟨by have := (hlt g hg).1; omega, (hlt g hg).2⟩
  have HW := hid hW; have HWS := hid hWs; have HLT := hid hlt; have HLTW := hid hltW; have HPW := hid hPW; have HIW := hid hIW; have HRW := hid hrW; have HSEP := hid hsep
  -- the box is as it was, whatever is written
  have HBOX := hid (show ∀ (r : Nat × Nat) wr, Pst W B p o ao L r wr → wr.cell? ⟨w.heap.size, 0, none⟩ = some (.int .i64 (kd : Int)) ∧ wr.cell? ⟨w.heap.size, 1, none⟩ = some (.int .i64 (k : Int)) from fun r wr hp => by
    obtain ⟨ao', cap', _, hp⟩ := hp
    have hx : ¬ (w.heap.size = p ∨ blk ao = some w.heap.size) := by
      rintro (e | e)
      · omega
      · have := (HLT.out _ e).1; omega
    exact ⟨(hp.fr.cell (p := ⟨w.heap.size, 0, none⟩) (by show w.heap.size < _; omega) hx).trans (HRW.out.cell (show 0 < 2 by decide)), (hp.fr.cell (p := ⟨w.heap.size, 1, none⟩) (by show w.heap.size < _; omega) hx).trans (HRW.out.cell (show 1 < 2 by decide))⟩)
  have HP0 := hid (pst_new W hwW)
  have HEND := hid (show ∀ (r : Nat × Nat) wr, Pst W B p o ao L r wr → Pst w B p o ao L r wr from fun r wr hp => pst_trans (r := (N, L)) HPW.out hp (Nat.le_refl _) HLT.out)
  have HISR := hid (show ∀ (r : Nat × Nat) wr, Pst W B p o ao L r wr → Is wr a len cap b off I from fun r wr hp => pst_is hp HIW.out HSEP.out)
  have c0 := (HBOX.out _ _ HP0.out).1
  have c1 := (HBOX.out _ _ HP0.out).2
  clear h hw hlt hWs hwW hPW hIW hrW hltW hsep
  have HPUT := hid (show ∀ (r : Nat × Nat) wr, Pst W B p o ao L r wr → L ≤ r.2 → r.2 ≤ 7000000000000 → ∀ (vi ni : Int) (v n : Nat), vi = v → ni = n → v < 2 ^ n → n ≤ 64 →
      Calls Try.prog 50 #[.pointer (some ⟨p, o, none⟩), .int .u64 vi, .int .i64 ni] wr fun e w' => e = .returned (.int .i64 0) ∧ Pst W B p o ao L (app r v n) w' from fun r wr hp h1 h2 vi ni v n hv hn h3 h4 => pst_put hp HLTW.out h1 h2 vi ni v n hv hn h3 h4)
  rcases hx with hx | ⟨hx, hk⟩ | ⟨hx, hk⟩ | ⟨hx, hk1, hk⟩
  · have hx : kd = 0 := hx
    have e0 : ((kd : Int) == 0) = true := by rw [hx]; rfl
    have HE : RowKit.Hid (pcw (kd, k, ct) I len (N, L) = app (N, L) 31 6) := hid (by rw [hx]; rfl)
    clear hx
    go_enter Try.func52, Try.ntmps52
    go_wp2_with fail
    refine (HPUT.out _ _ HP0.out (Nat.le_refl _) (by show L ≤ _; omega) _ _ 31 6 rfl rfl (by decide) (by decide)).mono ?_
    rintro e w1 ⟨rfl, hp1⟩
    go_wp2_with fail
    go_end0
    exact ⟨rfl, by rw [HE.out]; exact HEND.out _ _ hp1⟩
  · have hx : kd = 1 := hx
    have e0 : ((kd : Int) == 0) = false := by rw [hx]; rfl
    have e1 : ((kd : Int) == 1) = true := by rw [hx]; rfl
    have hk : k ≤ 30 := hk
    have HE : RowKit.Hid (pcw (kd, k, ct) I len (N, L) = cods (zs I) k (app (N, L) k 6).1 (app (N, L) k 6).2 len) := hid (by rw [hx]; rfl)
    clear hx
    have HK6 : RowKit.Hid (k < 2 ^ 6) := hid (by omega)
    have hku : IntKind.u64.wrap (k : Int) = (k : Int) := by rw [IntKind.wrap_u64]; omega
    go_enter Try.func52, Try.ntmps52
    go_wp2_with fail
    refine (HPUT.out _ _ HP0.out (Nat.le_refl _) (by show L ≤ _; omega) _ _ k 6 rfl rfl HK6.out (by decide)).mono ?_
    rintro e w1 ⟨rfl, hp1⟩
    have hw1s : w.heap.size < w1.heap.size := by obtain ⟨_, _, _, hq⟩ := hp1; have := hq.fr.size; have := HWS.out; omega
    have d1 := (HBOX.out _ _ hp1).2
    have hd1 : w1.drew.cell? ⟨w.heap.size, 1, none⟩ = some (.int .i64 (k : Int)) := d1
    have hpd : Pst W B p o ao L (app (N, L) k 6) w1.drew := pst_upto hp1 ⟨rfl, rfl, rfl, Nat.le_refl _, fun _ _ => rfl⟩ HLTW.out
    have HPD := hid hpd
    have hZ := zigs_any w1.drew a len cap b off I (HISR.out _ _ hpd) (by omega)
    have HZ := hid hZ
    have HWS1 := hid hw1s
    clear hp1 hpd hZ d1 hw1s
    go_wp2_with fail
    go_region_with (first
      | (go_at_call 59; (with_reducible refine (HZ.out).mono ?_); rintro e w3 ⟨lo, lcap, zb, rfl, hus, hzb, hb2⟩; have d2 := (hb2.cell (p := ⟨w.heap.size, 1, none⟩) HWS1.out).trans hd1; have HPA := hid (fun lc => pst_putall (lcap := lc) HPD.out HLTW.out hb2 hus hzb hz k hk (by show L ≤ L + 6; omega) (by show L + 6 ≤ _; omega) (by omega)))
      | (go_at_call 76; (with_reducible refine (HPA.out _).mono ?_); rintro e w4 ⟨rfl, hp4⟩))
    all_goals
      go_wp2_with fail
      go_end0
      exact ⟨rfl, by rw [HE.out]; exact HEND.out _ _ hp4⟩
  · have hx : kd = 2 := hx
    have e0 : ((kd : Int) == 0) = false := by rw [hx]; rfl
    have e1 : ((kd : Int) == 1) = false := by rw [hx]; rfl
    have e2 : ((kd : Int) == 2) = true := by rw [hx]; rfl
    have hk : k ≤ 30 := hk
    have HE : RowKit.Hid (pcw (kd, k, ct) I len (N, L) = cfin I k (app (app (N, L) 32 6) k 5) len) := hid (by rw [hx]; rfl)
    clear hx
    have HK5 : RowKit.Hid (k < 2 ^ 5) := hid (by omega)
    have hku : IntKind.u64.wrap (k : Int) = (k : Int) := by rw [IntKind.wrap_u64]; omega
    go_enter Try.func52, Try.ntmps52
    go_wp2_with fail
    refine (HPUT.out _ _ HP0.out (Nat.le_refl _) (by show L ≤ _; omega) _ _ 32 6 rfl rfl (by decide) (by decide)).mono ?_
    rintro e w1 ⟨rfl, hp1⟩
    go_wp2_with fail
    refine (HPUT.out _ _ hp1 (by show L ≤ L + 6; omega) (by show L + 6 ≤ _; omega) _ _ k 5 rfl rfl HK5.out (by decide)).mono ?_
    rintro e w2 ⟨rfl, hp2⟩
    have d1 := (HBOX.out _ _ hp2).2
    go_wp2_with fail
    refine (pst_runs hp2 HLTW.out HIW.out HSEP.out hz k hk (by show L ≤ L + 6 + 5; omega) (by show L + 6 + 5 ≤ _; omega) (by omega)).mono ?_
    rintro e w3 ⟨rfl, hp3⟩
    go_wp2_with fail
    go_end0
    exact ⟨rfl, by rw [HE.out]; exact HEND.out _ _ hp3⟩
  · have hx : kd = 3 := hx
    have e0 : ((kd : Int) == 0) = false := by rw [hx]; rfl
    have e1 : ((kd : Int) == 1) = false := by rw [hx]; rfl
    have e2 : ((kd : Int) == 2) = false := by rw [hx]; rfl
    have e3 : ((kd : Int) == 3) = true := by rw [hx]; rfl
    have hk : k ≤ 41 := hk
    have HE : RowKit.Hid (pcw (kd, k, ct) I len (N, L) = rawc I k (app (app (N, L) 33 6) k 6) len) := hid (by rw [hx]; rfl)
    clear hx
    have HK6 : RowKit.Hid (k < 2 ^ 6) := hid (by omega)
    have hku : IntKind.u64.wrap (k : Int) = (k : Int) := by rw [IntKind.wrap_u64]; omega
    have HL2 := hid (show ∀ j, j ≤ len → L ≤ (rawc I k (app (app (N, L) 33 6) k 6) j).2 ∧ (rawc I k (app (app (N, L) 33 6) k 6) j).2 ≤ 7000000000000 from fun j hj => by
      rw [rawc_len]
      have h1 : k * j ≤ 41 * 65536 := Nat.mul_le_mul hk (Nat.le_trans hj hlen)
      show L ≤ L + 6 + 6 + k * j ∧ L + 6 + 6 + k * j ≤ _
      omega)
    go_enter Try.func52, Try.ntmps52
    go_wp2_with fail
    refine (HPUT.out _ _ HP0.out (Nat.le_refl _) (by show L ≤ _; omega) _ _ 33 6 rfl rfl (by decide) (by decide)).mono ?_
    rintro e w1 ⟨rfl, hp1⟩
    go_wp2_with fail
    refine (HPUT.out _ _ hp1 (by show L ≤ L + 6; omega) (by show L + 6 ≤ _; omega) _ _ k 6 rfl rfl HK6.out (by decide)).mono ?_
    rintro e w2 ⟨rfl, hp2⟩
    have HP2 := hid hp2
    clear hp1 hp2 c0 c1
    go_wp2_with fail
    go_loopg [50] len (fun g i wr => ∃ j : Nat, j ≤ len ∧ g = len - j ∧ i = .int .i64 j ∧ Pst W B p o ao L (rawc I k (app (app (N, L) 33 6) k 6) j) wr)
    case atStart => exact ⟨0, Nat.zero_le _, rfl, rfl, HP2.out⟩
    case round =>
      obtain ⟨j, hj, hg, rfl, hst⟩ := hrel
      have HG := hid hg
      have HST := hid hst
      clear hg
      by_cases hlt : j < len
      · have hlt2 : (j : Int) < (len : Int) := by omega
        have his := HISR.out _ _ hst
        obtain rfl := his.addr (by omega)
        have ck := his.c j hlt
        have d1 := (HBOX.out _ _ hst).2
        have HM := hid (u64_mask (I j) k (by omega))
        have HML := hid (mask_lt (I j) k)
        clear hst his
        go_wp2_with fail
        refine (HPUT.out _ _ HST.out (HL2.out j hj).1 (HL2.out j hj).2 _ _ (I j % 2 ^ k).toNat k HM.out rfl HML.out (by omega)).mono ?_
        rintro e w3 ⟨rfl, hp3⟩
        go_wp2_with fail
        go_roundg (len - (j + 1))
        case measure => rw [HG.out]; omega
        case rel => exact ⟨j + 1, by omega, rfl, by go_num, hp3⟩
      · have hge : ¬ (j : Int) < (len : Int) := by omega
        obtain rfl : len = j := by omega
        go_wp2_with fail
        go_end0
        exact ⟨rfl, by first | (rw [HE.out]; exact HEND.out _ _ hst) | exact HEND.out _ _ hst⟩
end Go.Proofs.Ytjimamjhakainaa.Part
