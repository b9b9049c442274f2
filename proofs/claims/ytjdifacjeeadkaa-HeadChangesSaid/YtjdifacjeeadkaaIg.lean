/- Put of the program, of a right head. Conditions: a table in memory, a head that is right. -/
import Derived.Test.YtjdifacjeeadkaaIf
import Derived.Lib.SlBytesConst
import Derived.Deep.LoopGhost
namespace Go.Proofs.Ytjdifacjeeadkaa.Head
open Go.RowKit Gen Fld
open Crc hiding hid

theorem u64_small (n : Nat) (h : n < 4294967296) : IntKind.u64.wrap (n : Int) = n := by rw [u64_wrap]; unfold u64; omega
theorem conv_self (w : World) : (convert 25 25 (.slice (some ⟨w.heap.size, 0, none⟩) 2 2)).run Try.prog (w.alloc (.cells #[.int .u8 222, .int .u8 92] 5)) = .ok (.slice (some ⟨w.heap.size, 0, none⟩) 2 2) (w.alloc (.cells #[.int .u8 222, .int .u8 92] 5 (2, 3))) :=
  Lib.run_convert_bytes_const (P := Try.prog) w 25 5 #[.int .u8 222, .int .u8 92] 2 2 Try.underlying25 Try.underlying5
set_option maxHeartbeats 2000000 in
set_option maxRecDepth 100000 in
theorem put_ok {w : World} {g : Nat} (ht : Tab w g) (h : Hh) (hr : Rt h) (hk : h.lk < 4294967296) : Calls Try.prog 10 #[.pointer (some ⟨g, 0, none⟩), hv h] w (PutP w 0 (hby h)) := by
  have hi := hr.1
  have hs := hr.2
  have HR := hid fun w => right_any h w
  have HFL := hid fun w => fields_any h hi hk w
  have HFD := hid fun j => fd_lt h hi hk j
  have HLT := hid fun j => pre_lt h j
  have HLEN := hid fun j => pre_len h j
  have hpre : ∀ j, pre h (j + 1) = pre h j ++ le (fd h j) 4 := fun _ => rfl
  have HPRE := hid hpre
  have hp0 : pre h 0 = [222, 92] ++ le h.k.toNat 1 ++ le (lb h.la) 1 := rfl
  have HP0 := hid hp0
  have hp : ∀ e w', PutP w 0 (hby h) e w' = ∃ ao cap, e = .returned (.tuple #[.slice ao (smd (pre h 6)).length cap, .int .i64 0]) ∧ NL w ao cap (smd (pre h 6)) w' := fun _ _ => rfl
  have HP := hid hp
  rw [decide_eq_true hr] at HR
  have hkk : 1 ≤ h.k ∧ h.k ≤ 3 := by unfold Sui at hs; omega
  have hfv : Value.agg (fdl h) = .agg #[.int .u64 (fd h 0 : Int), .int .u64 (fd h 1 : Int), .int .u64 (fd h 2 : Int), .int .u64 (fd h 3 : Int), .int .u64 (fd h 4 : Int), .int .u64 (fd h 5 : Int)] := rfl
  rw [hfv] at HFL
  have hlb : lb h.la < 256 := by unfold lb; split <;> decide
  have HLB := hid hlb
  have HFG := hid fun w => flag_any h.la w
  have hfl : (if h.la then (1 : Int) else 0) = ((lb h.la : Nat) : Int) := by unfold lb; split <;> rfl
  have HTB := hid ht
  clear hr hi hs hp hp0 hpre hfv hlb ht
  have i0 : ∀ w : World, (Instr.index 58 (.agg #[.int .u64 (fd h 0 : Int), .int .u64 (fd h 1 : Int), .int .u64 (fd h 2 : Int), .int .u64 (fd h 3 : Int), .int .u64 (fd h 4 : Int), .int .u64 (fd h 5 : Int)]) (.int .i64 0)).run Try.prog w = .ok (.int .u64 (fd h 0 : Int)) w := fun _ => by kernel_rfl
  have i1 : ∀ w : World, (Instr.index 58 (.agg #[.int .u64 (fd h 0 : Int), .int .u64 (fd h 1 : Int), .int .u64 (fd h 2 : Int), .int .u64 (fd h 3 : Int), .int .u64 (fd h 4 : Int), .int .u64 (fd h 5 : Int)]) (.int .i64 1)).run Try.prog w = .ok (.int .u64 (fd h 1 : Int)) w := fun _ => by kernel_rfl
  have i2 : ∀ w : World, (Instr.index 58 (.agg #[.int .u64 (fd h 0 : Int), .int .u64 (fd h 1 : Int), .int .u64 (fd h 2 : Int), .int .u64 (fd h 3 : Int), .int .u64 (fd h 4 : Int), .int .u64 (fd h 5 : Int)]) (.int .i64 2)).run Try.prog w = .ok (.int .u64 (fd h 2 : Int)) w := fun _ => by kernel_rfl
  have i3 : ∀ w : World, (Instr.index 58 (.agg #[.int .u64 (fd h 0 : Int), .int .u64 (fd h 1 : Int), .int .u64 (fd h 2 : Int), .int .u64 (fd h 3 : Int), .int .u64 (fd h 4 : Int), .int .u64 (fd h 5 : Int)]) (.int .i64 3)).run Try.prog w = .ok (.int .u64 (fd h 3 : Int)) w := fun _ => by kernel_rfl
  have i4 : ∀ w : World, (Instr.index 58 (.agg #[.int .u64 (fd h 0 : Int), .int .u64 (fd h 1 : Int), .int .u64 (fd h 2 : Int), .int .u64 (fd h 3 : Int), .int .u64 (fd h 4 : Int), .int .u64 (fd h 5 : Int)]) (.int .i64 4)).run Try.prog w = .ok (.int .u64 (fd h 4 : Int)) w := fun _ => by kernel_rfl
  have i5 : ∀ w : World, (Instr.index 58 (.agg #[.int .u64 (fd h 0 : Int), .int .u64 (fd h 1 : Int), .int .u64 (fd h 2 : Int), .int .u64 (fd h 3 : Int), .int .u64 (fd h 4 : Int), .int .u64 (fd h 5 : Int)]) (.int .i64 5)).run Try.prog w = .ok (.int .u64 (fd h 5 : Int)) w := fun _ => by kernel_rfl
  have HI := hid (And.intro i0 (And.intro i1 (And.intro i2 (And.intro i3 (And.intro i4 i5)))))
  clear i0 i1 i2 i3 i4 i5
  generalize pre h = L at *
  generalize fd h = f at *
  have HXN := hid fun w => Bx.new w h
  obtain ⟨k, ix, ln, st, bd, la, lk, sz⟩ := h
  simp only [] at HP0 hkk hfl HFG HLB
  generalize lb la = bb at *
  rw [hfl] at HFG
  clear hfl
  obtain ⟨kn, rfl⟩ := Int.eq_ofNat_of_zero_le (show 0 ≤ k by omega)
  have hk1 : kn < 256 := by omega
  rw [show ((kn : Int)).toNat = kn from rfl] at HP0
  clear hkk
  change Calls Try.prog 10 #[.pointer (some ⟨g, 0, none⟩), .agg #[.int .i64 kn, .int .i64 ix, .int .i64 ln, .int .i64 st, .int .i64 bd, .bool la, .int .u32 (lk : Int), .int .i64 sz]] w _
  have uk : IntKind.u64.wrap (kn : Int) = kn := u64_small kn (by omega)
  have HX0 := hid (show Bx (w.alloc (.cells #[.int .i64 kn, .int .i64 ix, .int .i64 ln, .int .i64 st, .int .i64 bd, .bool la, .int .u32 (lk : Int), .int .i64 sz] 24)) w.heap.size ⟨kn, ix, ln, st, bd, la, lk, sz⟩ from HXN.out w)
  clear HXN
  go_enter Try.func10, Try.ntmps10
  go_wp2_with fail
  refine (HR.out _).mono ?_
  rintro e w1 ⟨rfl, hb⟩
  have hb1 : Below w.heap.size w w1 := (below_new w _).trans (hb.mono (below_new w _).size)
  have HX1 := hid (HX0.out.below hb HX0.out.lt)
  have HB1 := hid hb1
  clear hb hb1 HX0
  have hst := MkN.start w1
  have hb2 := below_new w1 (.cells #[.int .i64 0, .slice none 0 0] 52)
  obtain ⟨W2, hW2⟩ : ∃ W, w1.alloc (.cells #[.int .i64 0, .slice none 0 0] 52) = W := ⟨_, rfl⟩
  rw [hW2] at hst hb2
  have hby2 := byts_two W2
  have hb3 := below_new W2 (.cells #[.int .u8 222, .int .u8 92] 5 (2, 3))
  have hst3 := St.below hst hb3
  have HBY := hid hby2
  have HST := hid hst3
  have HB3 := hid (hb2.trans (hb3.mono hb2.size))
  have hsz : W2.heap.size = w1.heap.size + 1 := by rw [← hW2]; exact Deep.nblk_alloc _ _
  clear hst hb2 hby2 hb3 hst3
  have hcv := conv_self W2
  clear hsz
  go_wp2_with fail
  clear hW2 hcv
  refine (St.raw HST.out (m := [222, 92]) rfl HBY.out (fun e => by cases e) (by decide)).mono ?_
  rintro e w3 ⟨rfl, hs3⟩
  have HS3 := hid (show St w1 ([] ++ [222, 92]) w3 from hs3)
  clear hs3 HBY HST HB3
  have HXA := hid (show Bx w3 w.heap.size ⟨kn, ix, ln, st, bd, la, lk, sz⟩ from by obtain ⟨_, _, _, hb⟩ := HS3.out; exact HX1.out.below hb HX1.out.lt)
  have c0 := HXA.out.c0
  simp only [] at c0
  go_wp2_with fail
  refine (St.u HS3.out kn 1 (by omega) (uerr_one kn hk1) (by decide)).mono ?_
  rintro e w4 ⟨rfl, hs4⟩
  have HS4 := hid hs4
  clear hs4 HS3 HXA c0
  have HXA := hid (show Bx w4 w.heap.size ⟨kn, ix, ln, st, bd, la, lk, sz⟩ from by obtain ⟨_, _, _, hb⟩ := HS4.out; exact HX1.out.below hb HX1.out.lt)
  have c5 := HXA.out.c5
  simp only [] at c5
  go_wp2_with fail
  refine (HFG.out _).mono ?_
  rintro e w' ⟨rfl, rfl⟩
  go_wp2_with fail
  refine (St.u HS4.out bb 1 (by have := HLB.out; omega) (uerr_one bb HLB.out) (by rw [List.length_append, le_len]; decide)).mono ?_
  rintro e w5 ⟨rfl, hs5⟩
  have hs5 : St w1 (L 0) w5 := by rw [HP0.out]; exact hs5
  have HS5 := hid hs5
  clear hs5 HS4 HXA c5
  have HXA := hid (show Bx w5 w.heap.size ⟨kn, ix, ln, st, bd, la, lk, sz⟩ from by obtain ⟨_, _, _, hb⟩ := HS5.out; exact HX1.out.below hb HX1.out.lt)
  have c0 := HXA.out.c0; have c1 := HXA.out.c1; have c2 := HXA.out.c2; have c3 := HXA.out.c3; have c4 := HXA.out.c4; have c5 := HXA.out.c5; have c6 := HXA.out.c6; have c7 := HXA.out.c7
  simp only [] at c0 c1 c2 c3 c4 c5 c6 c7
  go_wp2_with fail
  refine (HFL.out _).mono ?_
  rintro e w6 ⟨rfl, hb6⟩
  have hs6 := HS5.out.below hb6
  have HS6 := hid hs6
  clear hs6 HS5 HXA c0 c1 c2 c3 c4 c5 c6 c7 hb6
  go_wp2_with fail
  go_loopg [8, 36] 6 (fun gg s i wr => ∃ j : Nat, j ≤ 6 ∧ gg = 6 - j ∧ i = .int .i64 j ∧ St w1 (L j) wr)
  case atStart => exact ⟨0, by decide, rfl, rfl, HS6.out⟩
  case round =>
    obtain ⟨j, hj, hg, rfl, hsr⟩ := hrel
    have HG := hid hg
    have HSR := hid hsr
    clear hg HS6 hsr
    have hll : (L j).length ≤ 1000 := by rw [HLEN.out]; omega
    have hx : j = 0 ∨ j = 1 ∨ j = 2 ∨ j = 3 ∨ j = 4 ∨ j = 5 ∨ j = 6 := by omega
    rcases hx with rfl | rfl | rfl | rfl | rfl | rfl | rfl
    · have ii := HI.out.1
      clear HI
      go_wp2_with fail
      refine (St.u HSR.out (f 0) 4 (by have := HFD.out 0; omega) (uerr_zero _ (HFD.out 0)) hll).mono ?_
      rintro e w7 ⟨rfl, hs7⟩
      have hs7 : St w1 (L (0 + 1)) w7 := by rw [HPRE.out]; exact hs7
      have HS7 := hid hs7
      clear hs7 HSR ii hll
      go_wp2_with fail
      go_roundg 5
      case measure => rw [HG.out]; omega
      case rel => exact ⟨1, by decide, rfl, rfl, HS7.out⟩
    · have ii := HI.out.2.1
      clear HI
      go_wp2_with fail
      refine (St.u HSR.out (f 1) 4 (by have := HFD.out 1; omega) (uerr_zero _ (HFD.out 1)) hll).mono ?_
      rintro e w7 ⟨rfl, hs7⟩
      have hs7 : St w1 (L (1 + 1)) w7 := by rw [HPRE.out]; exact hs7
      have HS7 := hid hs7
      clear hs7 HSR ii hll
      go_wp2_with fail
      go_roundg 4
      case measure => rw [HG.out]; omega
      case rel => exact ⟨2, by decide, rfl, rfl, HS7.out⟩
    · have ii := HI.out.2.2.1
      clear HI
      go_wp2_with fail
      refine (St.u HSR.out (f 2) 4 (by have := HFD.out 2; omega) (uerr_zero _ (HFD.out 2)) hll).mono ?_
      rintro e w7 ⟨rfl, hs7⟩
      have hs7 : St w1 (L (2 + 1)) w7 := by rw [HPRE.out]; exact hs7
      have HS7 := hid hs7
      clear hs7 HSR ii hll
      go_wp2_with fail
      go_roundg 3
      case measure => rw [HG.out]; omega
      case rel => exact ⟨3, by decide, rfl, rfl, HS7.out⟩
    · have ii := HI.out.2.2.2.1
      clear HI
      go_wp2_with fail
      refine (St.u HSR.out (f 3) 4 (by have := HFD.out 3; omega) (uerr_zero _ (HFD.out 3)) hll).mono ?_
      rintro e w7 ⟨rfl, hs7⟩
      have hs7 : St w1 (L (3 + 1)) w7 := by rw [HPRE.out]; exact hs7
      have HS7 := hid hs7
      clear hs7 HSR ii hll
      go_wp2_with fail
      go_roundg 2
      case measure => rw [HG.out]; omega
      case rel => exact ⟨4, by decide, rfl, rfl, HS7.out⟩
    · have ii := HI.out.2.2.2.2.1
      clear HI
      go_wp2_with fail
      refine (St.u HSR.out (f 4) 4 (by have := HFD.out 4; omega) (uerr_zero _ (HFD.out 4)) hll).mono ?_
      rintro e w7 ⟨rfl, hs7⟩
      have hs7 : St w1 (L (4 + 1)) w7 := by rw [HPRE.out]; exact hs7
      have HS7 := hid hs7
      clear hs7 HSR ii hll
      go_wp2_with fail
      go_roundg 1
      case measure => rw [HG.out]; omega
      case rel => exact ⟨5, by decide, rfl, rfl, HS7.out⟩
    · have ii := HI.out.2.2.2.2.2
      clear HI
      go_wp2_with fail
      refine (St.u HSR.out (f 5) 4 (by have := HFD.out 5; omega) (uerr_zero _ (HFD.out 5)) hll).mono ?_
      rintro e w7 ⟨rfl, hs7⟩
      have hs7 : St w1 (L (5 + 1)) w7 := by rw [HPRE.out]; exact hs7
      have HS7 := hid hs7
      clear hs7 HSR ii hll
      go_wp2_with fail
      go_roundg 0
      case measure => rw [HG.out]; omega
      case rel => exact ⟨6, by decide, rfl, rfl, HS7.out⟩
    · go_wp2_with fail
      refine (St.bytes HSR.out hll).mono ?_
      rintro e w8 ⟨ao, cap, rfl, hn⟩
      have HN := hid hn
      have hlen : (L 6).length ≤ 549755813888 := by omega
      have hbs := hn.bel.size
      have htb : Tab w8 g := (HTB.out.keep (HB1.out.block g HTB.out.lt)).keep (hn.bel.block g (Nat.lt_of_lt_of_le HTB.out.lt HB1.out.size))
      have HTB8 := hid htb
      clear hn HSR hll htb
      go_wp2_with fail
      refine (summed_any HTB8.out HN.out.own HN.out.lt hbs hlen).mono ?_
      rintro e w9 ⟨ao', cap', rfl, ho, hfr, hat⟩
      have hb9 : Below w1.heap.size w1 w9 := HN.out.bel.trans ⟨hfr.os, hfr.tape, hfr.output, hfr.size, fun k hk => hfr.block k (Nat.lt_of_lt_of_le hk hbs) (fun e => by have := HN.out.own.lt k (by rw [ownBlock_slice]; exact e); omega)⟩
      have HO := hid (own_mono ho HB1.out.size)
      have HB9 := hid (HB1.out.trans (hb9.mono HB1.out.size))
      clear ho hfr hat hb9
      go_wp2_with fail
      go_ret2
      rw [HP.out]
      exact ⟨ao', cap', rfl, HO.out, HB9.out, smd_lt (HLT.out 6)⟩
end Go.Proofs.Ytjdifacjeeadkaa.Head
