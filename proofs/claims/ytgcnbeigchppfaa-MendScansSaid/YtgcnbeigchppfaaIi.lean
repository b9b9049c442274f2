/- How a block begins; the sum at the end of bytes, of the program. Conditions: bytes in memory. -/
import Derived.Test.YtgcnbeigchppfaaIh
namespace Go.Proofs.Ytgcnbeigchppfaa.Head
open Go.RowKit Gen Fld
open Crc hiding hid

/-- Bytes begin as a block, as far as there are some. -/
def Bgn (l : List Nat) : Prop := l.take 2 = [222, 92].take l.length
instance (l : List Nat) : Decidable (Bgn l) := by unfold Bgn; exact inferInstance
set_option maxRecDepth 100000 in
theorem u8_beq {l m : List Nat} (hl : ∀ b ∈ l, b < 256) (hm : ∀ b ∈ m, b < 256) : (l.map UInt8.ofNat == m.map UInt8.ofNat) = decide (l = m) := by
  rw [← toList_tos, ← toList_tos]; exact tos_beq hl hm
set_option maxRecDepth 100000 in
theorem begins_zero {w : World} {a : Option Addr} {cap : Nat} : Calls Try.prog 71 #[.slice a 0 cap] w fun e w' => e = .returned (.bool true) ∧ w = w' := by
  have hcv := (Byts.nil w a).conv cap
  rw [show ([] : List Nat).length = 0 from rfl] at hcv
  have hl : (tos []).toList = [] := toList_tos []
  have hs : (tos []).size = 0 := tos_size []
  go_enter Try.func71, Try.ntmps71
  go_wp2_with fail
  go_ret
  exact ⟨rfl, rfl⟩
set_option maxRecDepth 100000 in
theorem begins_one {w : World} {a : Option Addr} {cap x : Nat} (hb : Byts w a [x]) (hc : 1 ≤ cap) : Calls Try.prog 71 #[.slice a 1 cap] w fun e w' => e = .returned (.bool (decide ([x] = [222]))) ∧ w = w' := by
  have hcv := hb.conv cap
  rw [show [x].length = 1 from rfl] at hcv
  have hs : (tos [x]).size = 1 := tos_size _
  have hl : (tos [x]).toList = [x].map UInt8.ofNat := toList_tos _
  have hm : (({ data := #[222, 92] } : ByteArray).extract 0 1).toList = [222].map UInt8.ofNat := by rw [ByteArray.toList_eq]; decide
  have HQ := hid (u8_beq (l := [x]) (m := [222]) hb.lt (by decide))
  have HM := hid hm
  clear hb hm
  generalize tos [x] = t at *
  generalize [x] = lx at *
  go_enter Try.func71, Try.ntmps71
  go_wp2_with fail
  go_ret
  refine ⟨?_, rfl⟩
  show Ending.returned (.bool (lx.map UInt8.ofNat == (({ data := #[222, 92] } : ByteArray).extract 0 1).toList)) = _
  rw [HM.out, HQ.out]
set_option maxRecDepth 100000 in
theorem begins_two {w : World} {a : Option Addr} {cap n : Nat} {l : List Nat} (hb : Byts w a l) (hl2 : l.length = n) (hn : 2 ≤ n) (hc : n ≤ cap) (hm : n ≤ 1099511627776) : Calls Try.prog 71 #[.slice a n cap] w fun e w' => e = .returned (.bool (decide (l.take 2 = [222, 92]))) ∧ w = w' := by
  have hlt : (l.take 2).length = 2 := by rw [List.length_take]; omega
  have hcv := (hb.take 2).conv cap
  rw [hlt] at hcv
  have hs : (tos (l.take 2)).size = 2 := by rw [tos_size, hlt]
  have hl : (tos (l.take 2)).toList = (l.take 2).map UInt8.ofNat := toList_tos _
  have hm : (({ data := #[222, 92] } : ByteArray).extract 0 2).toList = [222, 92].map UInt8.ofNat := by rw [ByteArray.toList_eq]; decide
  have HQ := hid (u8_beq (l := l.take 2) (m := [222, 92]) (hb.take 2).lt (by decide))
  have HM := hid hm
  have hc2 : 2 ≤ cap := by omega
  clear hb hm hl2 hlt
  generalize tos (l.take 2) = t at *
  generalize l.take 2 = lx at *
  by_cases h2 : n = 2
  · subst h2
    clear hn hc
    go_enter Try.func71, Try.ntmps71
    go_wp2_with fail
    go_ret
    refine ⟨?_, rfl⟩
    show Ending.returned (.bool (lx.map UInt8.ofNat == (({ data := #[222, 92] } : ByteArray).extract 0 2).toList)) = _
    rw [HM.out, HQ.out]
  · have hn1 : ¬ (n : Int) ≤ 2 := by omega
    have hn2 : ¬ (n : Int) < 2 := by omega
    clear h2 hn
    go_enter Try.func71, Try.ntmps71
    go_wp2_with fail
    go_ret
    refine ⟨?_, rfl⟩
    show Ending.returned (.bool (lx.map UInt8.ofNat == (({ data := #[222, 92] } : ByteArray).extract 0 2).toList)) = _
    rw [HM.out, HQ.out]
set_option maxRecDepth 100000 in
theorem begins_any {w : World} {a : Option Addr} {cap : Nat} {l : List Nat} (hb : Byts w a l) (hc : l.length ≤ cap) (hm : l.length ≤ 1099511627776) : Calls Try.prog 71 #[.slice a l.length cap] w fun e w' => e = .returned (.bool (decide (Bgn l))) ∧ w = w' := by
  match l, hb, hc, hm with
  | [], _, _, _ => exact begins_zero
  | [x], hb, hc, _ =>
    rw [show decide (Bgn [x]) = decide ([x] = [222]) from decide_eq_decide.2 (by unfold Bgn; simp)]
    exact begins_one hb hc
  | x :: y :: t, hb, hc, hm =>
    rw [show decide (Bgn (x :: y :: t)) = decide ((x :: y :: t).take 2 = [222, 92]) from decide_eq_decide.2 (by unfold Bgn; simp)]
    exact begins_two hb rfl (by simp) hc hm
end Go.Proofs.Ytgcnbeigchppfaa.Head
