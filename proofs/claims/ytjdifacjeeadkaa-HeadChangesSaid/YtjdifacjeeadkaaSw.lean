/- HeadSeals' walk: any payload is sealed, with any head, as the document says. Conditions: the memory's own form. -/
import Derived.Test.YtjdifacjeeadkaaKn
import Derived.Test.YtjdifacjeeadkaaIx
import Derived.Deep.RegionHeld3
namespace Go.Proofs.Ytjdifacjeeadkaa.Head
open Go.RowKit Gen Fld
open Crc hiding hid

theorem seal_both (h : Hh) (hk : h.lk < 4294967296) {a : Option Addr} {p : List Nat} {len cap : Nat} (hl : p.length = len) (hn : len ≤ 16777216) (hnil : a = none → len = 0 ∧ cap = 0) :
    ∃ (s : Nat) (x : Int) (m : List Nat), (∀ (w : World) (g : Nat), Tab w g → Byts w a p → Calls Try.prog 20 #[.pointer (some ⟨g, 0, none⟩), .agg #[.int .i64 h.k, .int .i64 h.ix, .int .i64 h.ln, .int .i64 h.st, .int .i64 h.bd, .bool h.la, .int .u32 (h.lk : Int), .int .i64 h.sz], .slice a len cap] w (SealP w s x m)) ∧
      (∀ (w : World), Byts w a p → Calls Try.prog 21 #[.agg #[.int .i64 h.k, .int .i64 h.ix, .int .i64 h.ln, .int .i64 h.st, .int .i64 h.bd, .bool h.la, .int .u32 (h.lk : Int), .int .i64 h.sz], .slice a len cap] w (SealP w s x m)) := by
  subst hl
  by_cases hr : Rt (szd h p.length)
  · exact ⟨cs (blo h p), 0, smd (blo h p), fun w g ht hp => seal_ok ht h hp hnil hn hr hk, fun w hp => rseal_ok h hp hnil hn hr hk⟩
  · exact ⟨0, 32, [], fun w g _ _ => seal_bad h a _ cap hn hr, fun w _ => rseal_bad h a _ cap hn hr⟩
set_option maxHeartbeats 2000000 in
theorem seals_walk (w : World) (h : Hh) (hk : h.lk < 4294967296) {a : Option Addr} {p : List Nat} {len cap : Nat} (hl : p.length = len) (hb : Byts w a p) (hnil : a = none → len = 0 ∧ cap = 0) :
    Calls Try.prog 5 #[hv h, .slice a len cap] w fun e w' => e = .returned (.bool true) ∧ Below w.heap.size w w' := by
  have HK := hid known_true
  have hbx := Bx.new w h
  have HB0 := hid (below_new w (.cells (hvl h) 24))
  have hS : ∀ w', Below (w.alloc (.cells (hvl h) 24)).heap.size (w.alloc (.cells (hvl h) 24)) w' → (w'.cell? ⟨w.heap.size, 0, none⟩ = some (.int .i64 h.k) ∧ w'.cell? ⟨w.heap.size, 1, none⟩ = some (.int .i64 h.ix) ∧ w'.cell? ⟨w.heap.size, 2, none⟩ = some (.int .i64 h.ln) ∧ w'.cell? ⟨w.heap.size, 3, none⟩ = some (.int .i64 h.st) ∧ w'.cell? ⟨w.heap.size, 4, none⟩ = some (.int .i64 h.bd) ∧ w'.cell? ⟨w.heap.size, 5, none⟩ = some (.bool h.la) ∧ w'.cell? ⟨w.heap.size, 6, none⟩ = some (.int .u32 (h.lk : Int)) ∧ w'.cell? ⟨w.heap.size, 7, none⟩ = some (.int .i64 h.sz)) := fun w' hb => (hbx.below hb hbx.lt).c8
  have HS := hid hS
  have bd : Below (w.alloc (.cells (hvl h) 24)).heap.size (w.alloc (.cells (hvl h) 24)) (w.alloc (.cells (hvl h) 24)).drew := ⟨rfl, rfl, rfl, Nat.le_refl _, fun _ _ => rfl⟩
  have HBD := hid bd
  have HBY := hid hb
  clear hbx hS bd hb
  change Calls Try.prog 5 #[.agg #[.int .i64 h.k, .int .i64 h.ix, .int .i64 h.ln, .int .i64 h.st, .int .i64 h.bd, .bool h.la, .int .u32 (h.lk : Int), .int .i64 h.sz], .slice a len cap] w _
  by_cases h3 : 300 < len
  · have h3i : (300 : Int) < (len : Int) := by omega
    go_enter Try.func5, Try.ntmps5
    go_wp2_with fail
    refine (HK.out _).mono ?_
    rintro e w1 ⟨rfl, hb1⟩
    have hfin := HB0.out.trans (hb1.mono HB0.out.size)
    clear hb1
    go_wp2_with fail
    go_ret
    exact ⟨rfl, hfin⟩
  · have h3i : ¬ (300 : Int) < (len : Int) := by omega
    obtain ⟨s, x, m, hse, hrf⟩ := seal_both h hk (cap := cap) hl (by omega) hnil
    have HSE := hid hse
    have HRF := hid hrf
    clear hse hrf hl h3 hnil hk
    go_enter Try.func5, Try.ntmps5
    go_wp2_with fail
    change Code.wp _ _ _ _ (w.alloc (.cells (hvl h) 24))
    generalize w.alloc (.cells (hvl h) 24) = W at *
    have bd := HBD.out
    have S1 := HS.out _ bd
    have byD := HBY.out.keep (HB0.out.drew)
    go_region_held3 (fun w' => w'.cell? ⟨w.heap.size, 0, none⟩ = some (.int .i64 h.k) ∧ w'.cell? ⟨w.heap.size, 1, none⟩ = some (.int .i64 h.ix) ∧ w'.cell? ⟨w.heap.size, 2, none⟩ = some (.int .i64 h.ln) ∧ w'.cell? ⟨w.heap.size, 3, none⟩ = some (.int .i64 h.st) ∧ w'.cell? ⟨w.heap.size, 4, none⟩ = some (.int .i64 h.bd) ∧ w'.cell? ⟨w.heap.size, 5, none⟩ = some (.bool h.la) ∧ w'.cell? ⟨w.heap.size, 6, none⟩ = some (.int .u32 (h.lk : Int)) ∧ w'.cell? ⟨w.heap.size, 7, none⟩ = some (.int .i64 h.sz))
      (first | with_reducible exact S1 | with_reducible exact S2 | with_reducible exact S3 | go_keep)
      ((first
        | (go_at_call 11; (with_reducible refine (make_any _).mono ?_); rintro e w1 ⟨rfl, ht1, hb1⟩; have b1 := bd.trans hb1; have S2 := HS.out _ b1; have by1 := byD.keep hb1)
        | (go_at_call 20; (refine (HSE.out _ _ ht1 by1).mono ?_); rintro e w2 ⟨ao, c, rfl, hl⟩; have b2 := b1.trans (hl.bel.mono b1.size); have S3 := HS.out _ b2)))
    have HB2 := hid b2
    have HY2 := hid hl.byts
    have HYP2 := hid (by1.keep hl.bel)
    obtain ⟨d0, d1, d2, d3, d4, d5, d6, d7⟩ := S3
    clear b1 b2 hb1 ht1 hl S1 S2 bd byD by1
    go_wp2_with fail
    refine (HRF.out _ HYP2.out).mono ?_
    rintro e w3 ⟨a3, c3, rfl, hl3⟩
    have HB3 := hid (HB0.out.trans ((HB2.out.trans (hl3.bel.mono HB2.out.size)).mono HB0.out.size))
    have cv3 := (HY2.out.keep hl3.bel).conv c
    have dv3 := hl3.byts.conv c3
    clear hl3 d0 d1 d2 d3 d4 d5 d6 d7 HB2 HY2 HYP2
    go_wp2_with fail
    refine (HK.out _).mono ?_
    rintro e w4 ⟨rfl, hb4⟩
    have hfin := HB3.out.trans (hb4.mono HB3.out.size)
    clear hb4 cv3 dv3
    go_wp2_with fail
    go_ret
    exact ⟨rfl, hfin⟩
end Go.Proofs.Ytjdifacjeeadkaa.Head
