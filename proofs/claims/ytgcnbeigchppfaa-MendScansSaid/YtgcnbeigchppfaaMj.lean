/- MendScans' walk. Condition: bytes in memory. -/
import Derived.Test.YtgcnbeigchppfaaMi
namespace Go.Proofs.Ytgcnbeigchppfaa.Mnd
open Go.RowKit Gen
attribute [local go_sem] Oper.semAt_some

set_option maxHeartbeats 4000000 in
set_option maxRecDepth 100000 in
theorem scans_walk (w : World) {ba : Option Addr} {b : List Nat} {bn bc : Nat} (hb : Byts w ba b) (hbn : b.length = bn) (hbc : bn ≤ bc) :
    Calls Try.prog 3 #[.slice ba bn bc] w fun e w' => e = .returned (.bool true) ∧ Below w.heap.size w w' := by
  have HK := hid fun (w' : World) => known_true w'
  by_cases hsm : bn ≤ 1500
  rotate_left 1
  · have hgt : (1500 : Int) < (bn : Int) := by omega
    clear hb hbn hbc
    go_enter Try.func3, Try.ntmps3
    go_wp2_with fail
    refine (HK.out _).mono ?_
    rintro e w1 ⟨rfl, hb1⟩
    have HB1 := hid hb1
    clear hb1
    go_wp2_with fail
    go_ret
    exact ⟨rfl, HB1.out⟩
  have hgt : ¬ (1500 : Int) < (bn : Int) := by omega
  have hm : bn ≤ 1073741824 := by omega
  have HM := hid fun w => Crc.make_any w
  have HB := hid hb
  have HBN := hid hbn
  have HBC := hid hbc
  have HMX := hid hm
  clear hb hbn hbc hm
  go_enter Try.func3, Try.ntmps3
  go_wp2_with fail
  refine (HM.out _).mono ?_
  rintro e w1 ⟨rfl, htab, hb1⟩
  have HTA1 := hid htab
  have HBY1 := hid (HB.out.keep hb1)
  have HB1 := hid hb1
  clear htab hb1 HM
  go_wp2_with fail
  refine (scan_any HTA1.out HBY1.out HBN.out HBC.out HMX.out).mono ?_
  rintro e w2 ⟨aa, ca, X, rfl, hrow, hfs, hb2⟩
  have HTA2 := hid (HTA1.out.keep (hb2.block _ HTA1.out.lt))
  have HBY2 := hid (HBY1.out.keep hb2)
  have HB2 := hid (HB1.out.trans (hb2.mono HB1.out.size))
  have HFA2 := hid (FAt.of_row hrow)
  have HFS2 := hid hfs
  have hS30 : (sc b 0).length ≤ 1073741824 := by
    have h1 := len_blen b (sc b 0)
    have h2 := sc_len b (b.length - 0 + 1) 0 (Nat.zero_le _)
    have h3 : scn b (b.length - 0 + 1) 0 = sc b 0 := rfl
    rw [h3, HBN.out] at h2
    omega
  have HS30 := hid hS30
  clear hrow hfs hb2 HTA1 HBY1 HB1 hS30
  go_wp2_with fail
  refine (backs_any HFS2.out.len HFA2.out HS30.out).mono ?_
  rintro e w3 ⟨ab, cb, rfl, hfa, hb3⟩
  have HTA3 := hid (HTA2.out.keep (hb3.block _ HTA2.out.lt))
  have HBY3 := hid (HBY2.out.keep hb3)
  have HB3 := hid (HB2.out.trans (hb3.mono HB2.out.size))
  have HFA3 := hid hfa
  have HFS3 := hid (HFS2.out.keep hb3)
  clear hfa hb3 HTA2 HBY2 HB2 HFA2 HFS2
  go_wp2_with fail
  refine (rscan_any HBY3.out HBN.out HBC.out HMX.out).mono ?_
  rintro e w4 ⟨ad, cd, Y, rfl, hrow, hfs, hb4⟩
  have HTA4 := hid (HTA3.out.keep (hb4.block _ HTA3.out.lt))
  have HBY4 := hid (HBY3.out.keep hb4)
  have HB4 := hid (HB3.out.trans (hb4.mono HB3.out.size))
  have HFA4 := hid (HFA3.out.keep hb4)
  have HFS4 := hid (HFS3.out.keep hb4)
  have HGA4 := hid (FAt.of_row hrow)
  have HGS4 := hid hfs
  clear hrow hfs hb4 HTA3 HBY3 HB3 HFA3 HFS3
  go_wp2_with fail
  refine (fsame_true HFS4.out.len HGS4.out.len HFA4.out HGA4.out (HFS4.out.smf HGS4.out) HS30.out).mono ?_
  rintro e w5 ⟨rfl, hb5⟩
  have HTA5 := hid (HTA4.out.keep (hb5.block _ HTA4.out.lt))
  have HBY5 := hid (HBY4.out.keep hb5)
  have HB5 := hid (HB4.out.trans (hb5.mono HB4.out.size))
  clear hb5 HTA4 HBY4 HB4 HFA4 HFS4 HGA4 HGS4 HS30
  go_wp2_with fail
  refine (lost_any HTA5.out HBY5.out HBN.out HBC.out HMX.out).mono ?_
  rintro e w6 ⟨rfl, hb6⟩
  have HBY6 := hid (HBY5.out.keep hb6)
  have HB6 := hid (HB5.out.trans (hb6.mono HB5.out.size))
  clear hb6 HTA5 HBY5 HB5
  go_wp2_with fail
  refine (rlost_any HBY6.out HBN.out HBC.out HMX.out).mono ?_
  rintro e w7 ⟨rfl, hb7⟩
  have HBY7 := hid (HBY6.out.keep hb7)
  have HB7 := hid (HB6.out.trans (hb7.mono HB6.out.size))
  clear hb7 HBY6 HB6
  go_wp2_with fail
  refine (scan_nil HBY7.out HBN.out HBC.out HMX.out).mono ?_
  rintro e w8 ⟨rfl, hb8⟩
  have HB8 := hid (HB7.out.trans (hb8.mono HB7.out.size))
  clear hb8 HBY7 HB7
  go_wp2_with fail
  refine (HK.out _).mono ?_
  rintro e w9 ⟨rfl, hb9⟩
  have HB9 := hid (HB8.out.trans (hb9.mono HB8.out.size))
  clear hb9
  go_wp2_with fail
  go_ret
  exact ⟨rfl, HB9.out⟩
end Go.Proofs.Ytgcnbeigchppfaa.Mnd
