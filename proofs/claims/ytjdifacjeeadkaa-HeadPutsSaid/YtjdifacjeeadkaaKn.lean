/- What must come of fixed calls. No condition. -/
import Derived.Test.YtjdifacjeeadkaaIg
import Derived.Deep.RegionHeld3
namespace Go.Proofs.Ytjdifacjeeadkaa.Head
open Go.RowKit Gen Fld
open Crc hiding hid

/-- The head of the fixed calls. -/
def kh : Hh := ⟨3, 0, 1, 1, 0, false, 0, 0⟩
theorem kh_rt : Rt kh := by decide
theorem kh_four : (hby kh).take 4 = [222, 92, 3, 0] := by decide
/-- A head's cells. -/
def C8 (w : World) (g : Nat) (h : Hh) : Prop :=
  w.cell? ⟨g, 0, none⟩ = some (.int .i64 h.k) ∧ w.cell? ⟨g, 1, none⟩ = some (.int .i64 h.ix) ∧ w.cell? ⟨g, 2, none⟩ = some (.int .i64 h.ln) ∧ w.cell? ⟨g, 3, none⟩ = some (.int .i64 h.st) ∧
  w.cell? ⟨g, 4, none⟩ = some (.int .i64 h.bd) ∧ w.cell? ⟨g, 5, none⟩ = some (.bool h.la) ∧ w.cell? ⟨g, 6, none⟩ = some (.int .u32 (h.lk : Int)) ∧ w.cell? ⟨g, 7, none⟩ = some (.int .i64 h.sz)
theorem Bx.c8 {w : World} {g : Nat} {h : Hh} (b : Bx w g h) : C8 w g h := ⟨b.c0, b.c1, b.c2, b.c3, b.c4, b.c5, b.c6, b.c7⟩
theorem own_cap {w : World} {B : Nat} {ao : Option Addr} {n c : Nat} {xs : List Value} (h : w.ownsRow B 5 1 (.slice ao n c) n xs) : n ≤ c := by
  rcases h.2 with ⟨h1, h2⟩ | ⟨g, cap, cur, h1, _, _, h4, _⟩
  · omega
  · cases h1; exact h4
set_option maxHeartbeats 1000000 in
theorem known_true (w : World) : Calls Try.prog 16 #[] w fun e w' => e = .returned (.bool true) ∧ Below w.heap.size w w' := by
  have HPT := hid fun (w' : World) (g : Nat) (ht : Tab w' g) => put_ok ht kh kh_rt (by decide)
  have HL := hid fun w => long_any kh w
  rw [if_pos kh_rt] at HL
  rw [show (36 + kh.sz) = 36 from rfl] at HL
  have hbx := Bx.new w kh
  have HB0 := hid (below_new w (.cells (hvl kh) 24))
  have HBX := hid hbx
  have hS : ∀ w', Below (w.alloc (.cells (hvl kh) 24)).heap.size (w.alloc (.cells (hvl kh) 24)) w' → (w'.cell? ⟨w.heap.size, 0, none⟩ = some (.int .i64 3) ∧ w'.cell? ⟨w.heap.size, 1, none⟩ = some (.int .i64 0) ∧ w'.cell? ⟨w.heap.size, 2, none⟩ = some (.int .i64 1) ∧ w'.cell? ⟨w.heap.size, 3, none⟩ = some (.int .i64 1) ∧ w'.cell? ⟨w.heap.size, 4, none⟩ = some (.int .i64 0) ∧ w'.cell? ⟨w.heap.size, 5, none⟩ = some (.bool false) ∧ w'.cell? ⟨w.heap.size, 6, none⟩ = some (.int .u32 0) ∧ w'.cell? ⟨w.heap.size, 7, none⟩ = some (.int .i64 0)) := fun w' hb => (hbx.below hb hbx.lt).c8
  have HS := hid hS
  have hlen := hby_len kh
  have HLEN := hid hlen
  have HF := hid kh_four
  have hl4 : (tos [222, 92, 3, 0]).toList = [222, 92, 3, 0].map UInt8.ofNat := toList_tos _
  have hc4 : ({ data := #[222, 92, 3, 0] } : ByteArray).toList = [222, 92, 3, 0].map UInt8.ofNat := by rw [ByteArray.toList_eq]; decide
  clear hbx hS hlen
  go_enter Try.func16, Try.ntmps16
  go_wp2_with fail
  have bd : Below (w.alloc (.cells (hvl kh) 24)).heap.size (w.alloc (.cells (hvl kh) 24)) (w.alloc (.cells (hvl kh) 24)).drew := ⟨rfl, rfl, rfl, Nat.le_refl _, fun _ _ => rfl⟩
  change Code.wp _ _ _ _ (w.alloc (.cells (hvl kh) 24))
  generalize w.alloc (.cells (hvl kh) 24) = W at *
  have S1 := HS.out _ bd
  go_region_held3 (fun w' => w'.cell? ⟨w.heap.size, 0, none⟩ = some (.int .i64 3) ∧ w'.cell? ⟨w.heap.size, 1, none⟩ = some (.int .i64 0) ∧ w'.cell? ⟨w.heap.size, 2, none⟩ = some (.int .i64 1) ∧ w'.cell? ⟨w.heap.size, 3, none⟩ = some (.int .i64 1) ∧ w'.cell? ⟨w.heap.size, 4, none⟩ = some (.int .i64 0) ∧ w'.cell? ⟨w.heap.size, 5, none⟩ = some (.bool false) ∧ w'.cell? ⟨w.heap.size, 6, none⟩ = some (.int .u32 0) ∧ w'.cell? ⟨w.heap.size, 7, none⟩ = some (.int .i64 0))
    (first | with_reducible exact S1 | with_reducible exact S2 | with_reducible exact S3 | go_keep)
    ((first
      | (go_at_call 11; (with_reducible refine (make_any _).mono ?_); rintro e w1 ⟨rfl, ht1, hb1⟩; have b1 := bd.trans hb1; have S2 := HS.out _ b1)
      | (go_at_call 10; (refine (HPT.out _ _ ht1).mono ?_); rintro e w2 ⟨ao, c, rfl, hl⟩; have b2 := b1.trans (hl.bel.mono b1.size); have S3 := HS.out _ b2)))
  have h32 := own_cap hl.own
  have hb4 := hl.byts.take 4
  rw [HF.out] at hb4
  have hcv := hb4.conv c
  rw [show [222, 92, 3, 0].length = 4 from rfl] at hcv
  rw [HLEN.out] at h32 ⊢
  obtain ⟨d0, d1, d2, d3, d4, d5, d6, d7⟩ := S3
  have h4c : 4 ≤ c := by omega
  have HB2 := hid (HB0.out.trans (b2.mono HB0.out.size))
  clear b1 b2 S1 S2 hb1 ht1 hl bd hb4 h32
  go_wp2_with fail
  refine (HL.out _).mono ?_
  rintro e w3 ⟨rfl, hb3⟩
  have hfin := HB2.out.trans (hb3.mono HB2.out.size)
  clear hb3
  go_wp2_with fail
  go_ret
  exact ⟨rfl, hfin⟩
end Go.Proofs.Ytjdifacjeeadkaa.Head
