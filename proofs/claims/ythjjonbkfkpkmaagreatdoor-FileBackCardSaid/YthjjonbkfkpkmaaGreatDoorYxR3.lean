/- Get of the document: what it answers to any bytes. Conditions: fewer than 2^39 bytes. -/
import Derived.Test.YthjjonbkfkpkmaaGreatDoorYxR2
namespace Go.Proofs.YthjjonbkfkpkmaaGreatDoor.Tg
open Go.RowKit Gen Fld
open Crc hiding hid

set_option maxRecDepth 100000 in
theorem rget_x {w : World} {a : Option Addr} {x len cap : Nat} {r : List Nat} (hb : Byts w a (x :: r)) (hx : x ≠ 84) (hl : (x :: r).length = len) :
    Calls Tryz.prog 39 #[.slice a len cap] w (GetP w (x :: r)) := by
  obtain ⟨bb, off, rfl, hc0⟩ := hb.at_ 0 x rfl
  rw [Nat.add_zero] at hc0
  have hB : ¬ Bgn (x :: r) := by
    unfold Bgn
    intro h
    cases r with
    | nil => simp at h; exact hx h
    | cons y r => simp at h; exact hx h.1
  have HF := hid (getp_no (w := w) (w' := w) (gF_kind hB) (by decide) (Below.refl _ _))
  have h0 : (0 : Int) < (len : Int) := by rw [← hl, List.length_cons]; omega
  have t0 : ((x : Int) != 84) = true := by rw [bne_iff_ne]; omega
  clear hb hl hB
  generalize x :: r = L at *
  go_enter Tryz.func39, Tryz.ntmps39
  go_wp2_with fail
  go_ret3
  exact HF.out
set_option maxRecDepth 100000 in
theorem rget_y {w : World} {a : Option Addr} {y len cap : Nat} {r : List Nat} (hb : Byts w a (84 :: y :: r)) (hy : y ≠ 71) (hl : (84 :: y :: r).length = len) :
    Calls Tryz.prog 39 #[.slice a len cap] w (GetP w (84 :: y :: r)) := by
  obtain ⟨bb, off, rfl, hc0⟩ := hb.at_ 0 84 rfl
  have hc1 : w.cell? ⟨bb, off + 1, none⟩ = some (.int .u8 (y : Int)) := by
    obtain ⟨b9, o9, e9, h9⟩ := hb.at_ 1 y rfl
    cases e9; exact h9
  rw [Nat.add_zero] at hc0
  have hB : ¬ Bgn (84 :: y :: r) := fun h => hy (bgn_two.1 h).2
  have HF := hid (getp_no (w := w) (w' := w) (gF_kind hB) (by decide) (Below.refl _ _))
  have h0 : (0 : Int) < (len : Int) := by rw [← hl, List.length_cons]; omega
  have h1 : (1 : Int) < (len : Int) := by rw [← hl, List.length_cons, List.length_cons]; omega
  have t0 : ((y : Int) != 71) = true := by rw [bne_iff_ne]; omega
  clear hb hl hB
  generalize 84 :: y :: r = L at *
  go_enter Tryz.func39, Tryz.ntmps39
  go_wp2_with fail
  go_ret3
  exact HF.out
set_option maxRecDepth 100000 in
theorem rget_none {w : World} {a : Option Addr} {cap : Nat} : Calls Tryz.prog 39 #[.slice a 0 cap] w (GetP w []) := by
  have HF := hid (getp_no (w := w) (w' := w) (b := []) (e := 10) (gF_short (b := []) (by decide) (by decide)) (by decide) (Below.refl _ _))
  generalize ([] : List Nat) = L at *
  go_enter Tryz.func39, Tryz.ntmps39
  go_wp2_with fail
  go_ret3
  exact HF.out
set_option maxRecDepth 100000 in
theorem rget_one {w : World} {a : Option Addr} {cap : Nat} (hb : Byts w a [84]) : Calls Tryz.prog 39 #[.slice a 1 cap] w (GetP w [84]) := by
  obtain ⟨bb, off, rfl, hc0⟩ := hb.at_ 0 84 rfl
  rw [Nat.add_zero] at hc0
  have HF := hid (getp_no (w := w) (w' := w) (b := [84]) (e := 10) (gF_short (b := [84]) (by decide) (by decide)) (by decide) (Below.refl _ _))
  clear hb
  generalize [84] = L at *
  go_enter Tryz.func39, Tryz.ntmps39
  go_wp2_with fail
  go_ret3
  exact HF.out
set_option maxRecDepth 100000 in
theorem rget_two {w : World} {a : Option Addr} {cap : Nat} (hb : Byts w a [84, 71]) : Calls Tryz.prog 39 #[.slice a 2 cap] w (GetP w [84, 71]) := by
  obtain ⟨bb, off, rfl, hc0⟩ := hb.at_ 0 84 rfl
  have hc1 : w.cell? ⟨bb, off + 1, none⟩ = some (.int .u8 71) := by
    obtain ⟨b9, o9, e9, h9⟩ := hb.at_ 1 71 rfl
    cases e9; exact h9
  rw [Nat.add_zero] at hc0
  have HF := hid (getp_no (w := w) (w' := w) (b := [84, 71]) (e := 10) (gF_short (b := [84, 71]) (by decide) (by decide)) (by decide) (Below.refl _ _))
  clear hb
  generalize [84, 71] = L at *
  go_enter Tryz.func39, Tryz.ntmps39
  go_wp2_with fail
  go_ret3
  exact HF.out
set_option maxRecDepth 100000 in
theorem rget_any {w : World} {a : Option Addr} {len : Nat} {b : List Nat} {cap : Nat} (hl : b.length = len) (hb : Byts w a b) (hn : a = none → cap = 0) (hc : len ≤ cap) (hcm : cap ≤ 9223372036854775807) (hm : len ≤ 549755813888) :
    Calls Tryz.prog 39 #[.slice a len cap] w (GetP w b) := by
  match b, hl, hb with
  | [], hl, _ => subst hl; exact rget_none
  | [x], hl, hb =>
    by_cases hx : x = 84
    · subst hx; subst hl; exact rget_one hb
    · exact rget_x hb hx hl
  | x :: y :: r, hl, hb =>
    by_cases hx : x = 84
    · subst hx
      by_cases hy : y = 71
      · subst hy
        match r, hl, hb with
        | [], hl, hb => subst hl; exact rget_two hb
        | n :: r, hl, hb => exact rget_long hb hn hl hc hcm hm
      · exact rget_y hb hy hl
    · exact rget_x hb hx hl
end Go.Proofs.YthjjonbkfkpkmaaGreatDoor.Tg
