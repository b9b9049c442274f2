/- What must come of fixed calls. No condition. -/
import Derived.Test.YthaikhnplbbdlaaNe
import Derived.Deep.RegionHeld3
namespace Go.Proofs.Ythaikhnplbbdlaa.Inf
open Go.RowKit Gen Fld
open Crc hiding hid

/-- The info of the fixed calls. -/
def ki : If := ⟨1, ⟨1, 8, 1⟩, 256, 0⟩
theorem ki_rt : Rt ki := by decide
theorem ki_seven : (iby ki).take 7 = [68, 83, 67, 49, 1, 1, 8] := by decide
/-- Info's cells. -/
def C6 (w : World) (g : Nat) (i : If) : Prop :=
  w.cell? ⟨g, 0, none⟩ = some (.int .i64 i.k) ∧ w.cell? ⟨g, 1, none⟩ = some (.int .i64 i.f.ch) ∧ w.cell? ⟨g, 2, none⟩ = some (.int .i64 i.f.bits) ∧ w.cell? ⟨g, 3, none⟩ = some (.int .i64 i.f.rate) ∧
  w.cell? ⟨g, 4, none⟩ = some (.int .i64 i.bk) ∧ w.cell? ⟨g, 5, none⟩ = some (.int .i64 i.sh)
theorem Bx.c6 {w : World} {g : Nat} {i : If} (b : Bx w g i) : C6 w g i := ⟨b.c0, b.c1, b.c2, b.c3, b.c4, b.c5⟩
theorem own_cap {w : World} {B : Nat} {ao : Option Addr} {n c : Nat} {xs : List Value} (h : w.ownsRow B 5 1 (.slice ao n c) n xs) : n ≤ c := by
  rcases h.2 with ⟨h1, h2⟩ | ⟨g, cap, cur, h1, _, _, h4, _⟩
  · omega
  · cases h1; exact h4
set_option maxHeartbeats 1000000 in
theorem known_true (w : World) : Calls Try.prog 13 #[] w fun e w' => e = .returned (.bool true) ∧ Below w.heap.size w w' := by
  have HPT := hid fun (w' : World) (g : Nat) (ht : Tab w' g) => (show Calls Try.prog 9 #[.pointer (some ⟨g, 0, none⟩), .agg #[.int .i64 1, .int .i64 1, .int .i64 8, .int .i64 1, .int .i64 256, .int .i64 0]] w' _ from put_ok ht ki ki_rt)
  have HLEN := hid (iby_len ki)
  have HF := hid ki_seven
  have hl7 : (tos [68, 83, 67, 49, 1, 1, 8]).toList = [68, 83, 67, 49, 1, 1, 8].map UInt8.ofNat := toList_tos _
  have hc7 : ({ data := #[68, 83, 67, 49, 1, 1, 8] } : ByteArray).toList = [68, 83, 67, 49, 1, 1, 8].map UInt8.ofNat := by rw [ByteArray.toList_eq]; decide
  go_enter Try.func13, Try.ntmps13
  go_wp2_with fail
  refine (make_any _).mono ?_
  rintro e w1 ⟨rfl, ht1, hb1⟩
  have HP := hid (HPT.out w1 _ ht1)
  have HB1 := hid hb1
  clear ht1 hb1
  go_wp2_with fail
  refine HP.out.mono ?_
  rintro e w2 ⟨ao, c, rfl, hl⟩
  have h19 := own_cap hl.own
  have hb7 := hl.byts.take 7
  rw [HF.out] at hb7
  have hcv := hb7.conv c
  rw [show [68, 83, 67, 49, 1, 1, 8].length = 7 from rfl] at hcv
  have HB2 := hid (HB1.out.trans (hl.bel.mono HB1.out.size))
  rw [HLEN.out] at h19 ⊢
  have h7c : 7 ≤ c := by omega
  clear hl hb7 h19
  go_wp2_with fail
  go_ret
  exact ⟨rfl, HB2.out⟩
end Go.Proofs.Ythaikhnplbbdlaa.Inf
