/- The walk of CrcParts. Conditions: none beyond the form's own. -/
import Derived.Test.YtlkeifciphehnaaChg
import Derived.Test.YtlkeifciphehnaaJoin
namespace Go.Proofs.Ytlkeifciphehnaa.Crc
open Go.RowKit Gen

theorem parts_sum (f g : Nat → Nat) (m n : Nat) : sm (fun i => if i < m then f i else g (i - m)) (m + n) 0 = sm g n (sm f m 0) := by
  rw [sm_add]
  rw [sm_congr (g := g) n _ (fun i _ => by
    show (if m + i < m then _ else g (m + i - m)) = g i
    rw [if_neg (by omega), show m + i - m = i from by omega])]
  congr 1
  exact sm_congr m 0 (fun i hi => by show (if i < m then f i else _) = f i; rw [if_pos hi])

set_option maxHeartbeats 1000000 in
set_option maxRecDepth 100000 in
theorem parts_walk (w : World) (a : Option Addr) (m cap : Nat) (f : Nat → Nat) (ha : Byts w a m f) (hna : a = none → m = 0 ∧ cap = 0) (b : Option Addr) (n capb : Nat) (g : Nat → Nat) (hb : Byts w b n g) (hnb : b = none → n = 0 ∧ capb = 0) :
    Calls Try.prog 5 #[.slice a m cap, .slice b n capb] w fun e w' => e = .returned (.bool true) ∧ Below w.heap.size w w' := by
  by_cases h1 : 3000 < m
  · have h1' : (3000 : Int) < (m : Int) := by omega
    have hk := known_true w
    go_enter Try.func5, Try.ntmps5
    go_wp2_with fail
    refine hk.mono ?_
    rintro e w3 ⟨rfl, hb3⟩
    have hf := hid hb3
    clear hb3
    go_wp2_with fail
    go_ret
    exact ⟨rfl, hf.out⟩
  have h1' : ¬ (3000 : Int) < (m : Int) := by omega
  by_cases h2 : 3000 < n
  · have h2' : (3000 : Int) < (n : Int) := by omega
    have hk := known_true w
    go_enter Try.func5, Try.ntmps5
    go_wp2_with fail
    refine hk.mono ?_
    rintro e w3 ⟨rfl, hb3⟩
    have hf := hid hb3
    clear hb3
    go_wp2_with fail
    go_ret
    exact ⟨rfl, hf.out⟩
  have h2' : ¬ (3000 : Int) < (n : Int) := by omega
  have hm : m ≤ 3000 := by omega
  have hn : n ≤ 3000 := by omega
  clear h1 h2
  obtain ⟨i0, hi, hz0, hz1, hz2⟩ := info_parts Try.info5
  have HNA := hid hna
  have HNB := hid hnb
  clear hna hnb
  go_enter Try.func5, Try.ntmps5
  go_wp2_with fail
  refine (make_any _).mono ?_
  rintro e w1 ⟨rfl, ht, hb1⟩
  have hA := ha.keep hb1
  have hB := hb.keep hb1
  have HB := hid hb1
  clear hb1 hb ha
  go_wp2_with (at_builtin; (refine (wpList_append_list w1 (by rfl) (.tmp 18) (.tmp 19) _ (by rfl) w1.heap.size 5 i0 _ 1 Try.underlying28 hi hz0 hz1 hz2 rfl none 0 0 [] (by rfl) (World.ownsRow_nil _ _ _ _) a m cap (bytl f m) (by rfl) (bytl_len _ _) HNA.out hA.cells (bytl_one _ _) (by unfold maxLen; omega) (by omega) (Nat.le_refl _) ?_)))
  intro ao' cap' w2 hown0 hg _
  have hown : w2.ownsRow w1.heap.size 5 1 (.slice ao' m cap') m (bytl f m) := by simpa using hown0
  have hbel2 := grown_below hg (Nat.le_refl _)
  have HA := hid hA
  have HBB := hid hB
  have HT := hid ht
  have hB2 := hB.keep hbel2
  have HO := hid hown
  have HZ := hid hg.size
  have H2 := hid hbel2
  clear hown hown0 hg hbel2 hA hB ht
  go_wp2_with (at_builtin; (refine (wpList_append_list w2 (by rfl) (.tmp 20) (.tmp 21) _ (by rfl) w1.heap.size 5 i0 _ 1 Try.underlying28 hi hz0 hz1 hz2 rfl ao' m cap' (bytl f m) (by rfl) HO.out b n capb (bytl g n) (by rfl) (bytl_len _ _) HNB.out hB2.cells (bytl_one _ _) (by unfold maxLen; omega) (by omega) HZ.out ?_)))
  intro ao2 cap2 w3 hown hg _
  rw [bytl_app] at hown
  have hbel3 : Below w1.heap.size w2 w3 := ⟨hg.os, hg.tape, hg.output, hg.size, fun k hk => hg.block k (Nat.lt_of_lt_of_le hk HZ.out) (fun e => by have := (HO.out.lt k (by rw [ownBlock_slice]; exact e.symm)).1; omega)⟩
  have hbel13 := H2.out.trans hbel3
  have hA3 := HA.out.keep hbel13
  have hB3 := HBB.out.keep hbel13
  have hT3 := HT.out.keep (hbel13.block _ HT.out.lt)
  have hBth := Byts.of_row (fun i => by split; exact HA.out.lt _; exact HBB.out.lt _) hown
  have HB3 := hid (HB.out.trans (hbel13.mono HB.out.size))
  have e1 := parts_sum f g m n
  have e2 := sm_join f g m n
  have l1 := sm_lt HA.out.lt m 0 (by decide)
  have l2 := sm_lt HBB.out.lt n 0 (by decide)
  have E1 := hid e1
  have E2 := hid e2
  clear hown hg hbel3 hbel13 HA HBB HT HB H2 HO HZ hB2 e1 e2
  go_wp2_with fail
  refine (sum_any hT3 hBth (by omega)).mono ?_
  rintro e w4 ⟨rfl, rfl⟩
  rw [E1.out]
  go_wp2_with fail
  refine (sum_any hT3 hA3 (by omega)).mono ?_
  rintro e w4 ⟨rfl, rfl⟩
  go_wp2_with fail
  refine (next_any hT3 _ l1 hB3 (by omega)).mono ?_
  rintro e w4 ⟨rfl, rfl⟩
  go_wp2_with fail
  refine (sum_any hT3 hA3 (by omega)).mono ?_
  rintro e w4 ⟨rfl, rfl⟩
  go_wp2_with fail
  refine (sum_any hT3 hB3 (by omega)).mono ?_
  rintro e w4 ⟨rfl, rfl⟩
  go_wp2_with fail
  refine (join_any _ _ l1 l2 (n : Int) (by omega) _).mono ?_
  rintro e w5 ⟨rfl, hb5⟩
  rw [Int.toNat_natCast, E2.out]
  have HB5 := hid (HB3.out.trans (hb5.mono HB3.out.size))
  clear hb5 HB3 hT3 hA3 hB3 hBth
  go_wp2_with fail
  refine (known_true _).mono ?_
  rintro e w6 ⟨rfl, hb6⟩
  have HB6 := hid (HB5.out.trans (hb6.mono HB5.out.size))
  clear hb6 HB5
  go_wp2_with fail
  go_ret
  exact ⟨rfl, HB6.out⟩
end Go.Proofs.Ytlkeifciphehnaa.Crc
