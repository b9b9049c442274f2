/- EvenOnes' walk. Conditions: those of the memory's own form alone. -/
import Derived.Test.YtfpmdfbggifjiaaEe
import Derived.Test.YtfpmdfbggifjiaaQc
namespace Go.Proofs.Ytfpmdfbggifjiaa.Even
open Go.RowKit Bit Rice

theorem WrN.upto {w w' : World} {B p o : Nat} {ao : Option Addr} {cap N L : Nat} (h : WrN w B p o ao cap N L) (hb : Below w.heap.size w w') : WrN w' B p o ao cap N L := Wr.keep h (fr_of_below hb) (fun x => x) (fun _ _ x => x)
theorem costI (vi : Int) (v n : Nat) (hvi : vi = v) (hv : v < 18446744073709551616) (w : World) :
    Calls Try.prog 19 #[.int .u64 vi, .int .u64 (n : Int)] w fun e w' => e = .returned (.int .i64 (ct v n : Int)) ∧ Below w.heap.size w w' := by subst hvi; exact cost_any v n hv w

set_option maxHeartbeats 1000000 in
theorem ones_walk (w : World) (v n : Nat) (hv : v < 18446744073709551616) (hn64 : n < 18446744073709551616) :
    Calls Try.prog 4 #[.int .u64 (v : Int), .int .u64 (n : Int)] w fun e w' => e = .returned (.bool true) ∧ Below w.heap.size w w' := by
  have hw0 := new_writer' w 28 _ (Nat.le_refl _)
  have hb0 : Below w.heap.size w (w.alloc (.cells #[.slice none 0 0, .int .u64 0, .int .i64 0] 28)) := (Below.refl _ _).alloc (Nat.le_refl _) _
  have HB0 := hid hb0
  have HSP := hid (rspan n)
  have HCO := hid (cost_any v n hv)
  clear hb0
  by_cases hn : spn n
  · have hd0 := decide_eq_true hn
    by_cases hvn : v < n
    · have g1 : ¬ (n : Int) ≤ (v : Int) := by omega
      have ho : okv v n := ⟨hn, hvn⟩
      have HSPN := hid ct_span
      have HGE := hid (get_own ho)
      have HCD := hid (rcode_any v n hv)
      have HSN := hid (ct_span n hn)
      have HC0 := hid (costI 0 0 n rfl (by decide))
      have HC1 := hid fun (i : Int) (hi : i = ((n - 1 : Nat) : Int)) w => costI i (n - 1) n hi (by omega) w
      have hcl := ct_le v n
      have hcl0 := ct_le 0 n
      have hcl1 := ct_le (n - 1) n
      have h0n : 0 < n := hn.1
      go_enter Try.func4, Try.ntmps4
      go_wp2_with fail
      refine (eput_ok w.heap.size w.heap.size 0 v n ho none 0 0 0 _ hw0 (by decide)).mono ?_
      rintro e w1 ⟨rfl, ao1, cap1, h1, p1⟩
      have HB1 := hid (HB0.out.trans (pushed_below p1 (Nat.le_refl _) (fun g hg => by simp [blk] at hg) HB0.out.size))
      simp only [Nat.zero_mul, Nat.zero_add] at h1
      clear p1 hw0 HB0
      generalize ct v n = c at *
      generalize cd v n = d at *
      go_wp2_with fail
      refine (HSP.out _).mono ?_
      rintro e w' ⟨rfl, rfl⟩
      rw [hd0]
      go_wp2_with fail
      refine (bytes_any h1 (by omega)).mono ?_
      rintro e w2 ⟨rfl, b2, r2⟩
      have h2 := WrN.upto h1 b2
      have HB2 := hid (HB1.out.trans (b2.mono HB1.out.size))
      clear h1 HB1 b2
      go_wp2_with fail
      refine (read_any w2 (some ⟨w1.heap.size, 0, none⟩) ((c + 7) / 8) ((c + 7) / 8) (pad d c) (by omega) (fun j hj => ⟨_, rfl, by rw [Addr.add_lit, Nat.zero_add]; exact r2.cell hj⟩) (fun a ha _ => by cases ha; exact r2.lt)).mono ?_
      rintro e w3 ⟨q, rfl, hq, b3, r3⟩
      have h3 := WrN.upto h2 b3
      have HB3 := hid (HB2.out.trans (b3.mono HB2.out.size))
      have hpq : w.heap.size < q := by have := HB2.out.size; omega
      have HAQ := hid (show ∀ g, blk ao1 = some g → g ≠ q from fun g hg => by have := (Wr.rlt h2 g hg).2; omega)
      clear h2 HB2 r2 b3
      go_wp2_with fail
      refine (eget_any r3 (Nat.zero_le _) (by omega) n hn).mono ?_
      rintro e w4 ⟨rfl, r4, f4⟩
      rw [HGE.out]
      have h4 : WrN w4 w.heap.size w.heap.size 0 ao1 cap1 d c := Wr.keep h3 f4 (by omega) HAQ.out
      have HB4 := hid (HB3.out.trans ⟨f4.os, f4.tape, f4.output, f4.size, fun k hk => f4.block k (Nat.lt_of_lt_of_le hk HB3.out.size) (by omega)⟩)
      clear h3 r3 r4 f4 HB3 HAQ HGE
      go_wp2_with fail
      refine (HC0.out _).mono ?_
      rintro e w5 ⟨rfl, b5⟩
      have h5 := WrN.upto h4 b5
      have HB5 := hid (HB4.out.trans (b5.mono HB4.out.size))
      clear h4 HB4 b5
      go_wp2_with fail
      refine (HC1.out _ (by omega) _).mono ?_
      rintro e w6 ⟨rfl, b6⟩
      have h6 := WrN.upto h5 b6
      have HB6 := hid (HB5.out.trans (b6.mono HB5.out.size))
      have hs1 := HSN.out.1
      have hs2 := HSN.out.2
      clear h5 HB5 b6
      generalize ct 0 n = c0 at *
      generalize ct (n - 1) n = c1 at *
      have q1 : (0 : Int) ≤ (c1 : Int) - (c0 : Int) := by omega
      have q2 : (c1 : Int) - (c0 : Int) ≤ 1 := by omega
      go_wp2_with fail
      refine (HCO.out _).mono ?_
      rintro e w7 ⟨rfl, b7⟩
      have h7 := WrN.upto h6 b7
      have HB7 := hid (HB6.out.trans (b7.mono HB6.out.size))
      clear h6 HB6 b7
      go_wp2_with fail
      refine (HCD.out _).mono ?_
      rintro e w8 ⟨lo, lcap, rfl, _, _, b8⟩
      have h8 := WrN.upto h7 b8
      have HB8 := hid (HB7.out.trans (b8.mono HB7.out.size))
      clear h7 HB7 b8
      go_wp2_with fail
      refine (len_any h8 (by omega)).mono ?_
      rintro e w9 ⟨rfl, nq, rfl⟩
      have HB9 : Hid (Below w.heap.size w (w8.drewN nq)) := hid (HB8.out.trans ⟨rfl, rfl, rfl, Nat.le_refl _, fun _ _ => rfl⟩)
      clear h8 HB8
      generalize w8.drewN nq = w9 at *
      go_wp2_with fail
      refine (HCO.out _).mono ?_
      rintro e w10 ⟨rfl, b10⟩
      have HB10 := hid (HB9.out.trans (b10.mono HB9.out.size))
      clear HB9 b10
      go_wp2_with fail
      refine (known_true _).mono ?_
      rintro e w11 ⟨rfl, b11⟩
      have hfin := HB10.out.trans (b11.mono HB10.out.size)
      clear b11
      go_wp2_with fail
      go_ret
      exact ⟨rfl, hfin⟩
    · have g1 : (n : Int) ≤ (v : Int) := by omega
      have hno : ct v n = 0 := ct_no fun h => hvn h.2
      rw [hno] at HCO
      clear hno
      go_enter Try.func4, Try.ntmps4
      go_wp2_with fail
      refine (eput_range _ v n hv hn hvn _).mono ?_
      rintro e w1 ⟨rfl, b1⟩
      have HB1 := hid (HB0.out.trans (b1.mono HB0.out.size))
      clear hw0 HB0 b1
      go_wp2_with fail
      refine (HSP.out _).mono ?_
      rintro e w' ⟨rfl, rfl⟩
      rw [hd0]
      go_wp2_with fail
      refine (HSP.out _).mono ?_
      rintro e w' ⟨rfl, rfl⟩
      rw [hd0]
      go_wp2_with fail
      refine (HCO.out _).mono ?_
      rintro e w10 ⟨rfl, b10⟩
      have HB10 := hid (HB1.out.trans (b10.mono HB1.out.size))
      clear HB1 b10
      go_wp2_with fail
      refine (known_true _).mono ?_
      rintro e w11 ⟨rfl, b11⟩
      have hfin := HB10.out.trans (b11.mono HB10.out.size)
      clear b11
      go_wp2_with fail
      go_ret
      exact ⟨rfl, hfin⟩
  · have hd0 := decide_eq_false hn
    have hno : ct v n = 0 := ct_no fun h => hn h.1
    rw [hno] at HCO
    clear hno
    go_enter Try.func4, Try.ntmps4
    go_wp2_with fail
    refine (eput_arg _ _ n hn _).mono ?_
    rintro e w1 ⟨rfl, b1⟩
    have HB1 := hid (HB0.out.trans (b1.mono HB0.out.size))
    clear hw0 HB0 b1
    go_wp2_with fail
    refine (HSP.out _).mono ?_
    rintro e w' ⟨rfl, rfl⟩
    rw [hd0]
    go_wp2_with fail
    refine (HSP.out _).mono ?_
    rintro e w' ⟨rfl, rfl⟩
    rw [hd0]
    go_wp2_with fail
    refine (HSP.out _).mono ?_
    rintro e w' ⟨rfl, rfl⟩
    rw [hd0]
    go_wp2_with fail
    refine (HCO.out _).mono ?_
    rintro e w10 ⟨rfl, b10⟩
    have HB10 := hid (HB1.out.trans (b10.mono HB1.out.size))
    clear HB1 b10
    go_wp2_with fail
    refine (known_true _).mono ?_
    rintro e w11 ⟨rfl, b11⟩
    have hfin := HB10.out.trans (b11.mono HB10.out.size)
    clear b11
    go_wp2_with fail
    go_ret
    exact ⟨rfl, hfin⟩
end Go.Proofs.Ytfpmdfbggifjiaa.Even
