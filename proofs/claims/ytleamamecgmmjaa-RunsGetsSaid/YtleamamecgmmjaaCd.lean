/- The document's Code: a list of bits of the call's own, the number's code. No condition. -/
import Derived.Test.YtleamamecgmmjaaWt
import Derived.Test.YtleamamecgmmjaaLb
namespace Go.Proofs.Ytleamamecgmmjaa.Rice
open Go.RowKit Bit

/-- A number's code, or nothing. -/
def codI (u : Nat) (k : Int) : Nat := if okK k ∧ coded u then cod u k.toNat else 0
def CodePost (w : World) (N L : Nat) (e : Ending) (w' : World) : Prop := ∃ lo lcap, e = .returned (.slice lo L lcap) ∧ Nw w w.heap.size lo lcap N L w'
theorem nw_none (w : World) : Nw w w.heap.size none 0 0 0 w := ⟨World.ownsRow_nil _ _ _ _, Below.refl _ _, fun g hg => by simp [blk] at hg⟩

theorem bitl_mod (u k : Nat) : bitl u k = bitl (u % 2 ^ k) k := by
  unfold bitl
  refine List.map_congr_left fun i hi => ?_
  have hi := List.mem_range.1 hi
  have e : bitOf u k i = bitOf (u % 2 ^ k) k i := by
    unfold bitOf
    have e1 : 2 ^ k = 2 ^ (k - 1 - i) * (2 * 2 ^ i) := by rw [← Nat.pow_succ', ← Nat.pow_add]; congr 1; omega
    rw [e1, Nat.mod_mul_right_div_self, Nat.mod_mod_of_dvd _ (Nat.dvd_mul_right 2 _)]
  rw [e]
theorem ones_next (j : Nat) : (2 ^ j - 1) * 2 ^ 1 + 1 = 2 ^ (j + 1) - 1 := by
  have := Nat.two_pow_pos j
  rw [Nat.pow_succ]; omega

theorem join_code (x r k : Nat) : x * 2 ^ (k + 1) + r = (x * 2 ^ 1 + 0) * 2 ^ k + r := by
  have e : 2 ^ (k + 1) = 2 ^ 1 * 2 ^ k := by rw [← Nat.pow_add, Nat.add_comm]
  rw [e, ← Nat.mul_assoc]; rfl

theorem code_no (u : Nat) (k : Int) (w : World) (h : ¬ (okK k ∧ coded u)) :
    Calls Try.prog 53 #[.int .u64 (u : Int), .int .i64 k] w (CodePost w (codI u k) (cost u k)) := by
  rw [cost_no h, show codI u k = 0 from if_neg h]
  have hn := nw_none w
  by_cases h0 : okK k
  · have h1 : ¬ coded u := fun hc => h ⟨h0, hc⟩
    go_enter Try.func53, Try.ntmps53
    go_wp2_with fail
    refine (rparam _ _).mono ?_
    rintro e w' ⟨rfl, rfl⟩
    rw [decide_eq_true h0]
    go_wp2_with fail
    refine (rmay _ _).mono ?_
    rintro e w' ⟨rfl, rfl⟩
    rw [decide_eq_false h1]
    go_wp2_with fail
    go_ret
    exact ⟨none, 0, rfl, hn⟩
  · go_enter Try.func53, Try.ntmps53
    go_wp2_with fail
    refine (rparam _ _).mono ?_
    rintro e w' ⟨rfl, rfl⟩
    rw [decide_eq_false h0]
    go_wp2_with fail
    go_ret
    exact ⟨none, 0, rfl, hn⟩

set_option maxHeartbeats 1600000 in
theorem code_ok (u k : Nat) (hk : k ≤ 30) (hu : coded u) (w : World) :
    Calls Try.prog 53 #[.int .u64 (u : Int), .int .i64 (k : Int)] w (CodePost w (codI u k) (cost u k)) := by
  have h0 : okK (k : Int) := ⟨by omega, by omega⟩
  have hu2 : u < 1099511627776 := hu
  rw [show codI u k = cod u k from if_pos ⟨h0, hu⟩]
  obtain ⟨i0, hi, hz0, hz1, hz2⟩ := info_parts Try.info3
  have hn0 := nw_none w
  have HCO : Hid (u / 2 ^ k < 24 → cost u (k : Int) = u / 2 ^ k + 1 + k ∧ cod u k = (2 ^ (u / 2 ^ k) - 1) * 2 ^ (k + 1) + u % 2 ^ k) := hid fun h => ⟨cost_low hk hu h, if_pos h⟩
  have HCH : Hid (¬ u / 2 ^ k < 24 → cost u (k : Int) = 64 ∧ cod u k = (2 ^ 24 - 1) * 2 ^ 40 + u) := hid fun h => ⟨cost_high hk hu h, if_neg h⟩
  have hq := rquot u k hk
  have hqb : u / 2 ^ k < 18446744073709551616 := Nat.lt_of_le_of_lt (Nat.div_le_self _ _) (by omega)
  have hrb : u % 2 ^ k < 2 ^ k := Nat.mod_lt _ (Nat.two_pow_pos k)
  have HBM := hid (bitl_mod u k)
  generalize u / 2 ^ k = q at *
  generalize u % 2 ^ k = r at *
  go_enter Try.func53, Try.ntmps53
  go_wp2_with fail
  refine (rparam _ _).mono ?_
  rintro e w' ⟨rfl, rfl⟩
  rw [decide_eq_true h0]
  go_wp2_with fail
  refine (rmay _ _).mono ?_
  rintro e w' ⟨rfl, rfl⟩
  rw [decide_eq_true hu]
  go_wp2_with fail
  refine (hq _).mono ?_
  rintro e w' ⟨rfl, rfl⟩
  go_wp2_with fail
  go_loopg [6, 7] 24 (fun g v i wr => ∃ (j : Nat) (lo : Option Addr) (lcap : Nat), j ≤ 24 ∧ j ≤ q ∧ g = 24 - j ∧ i = .int .i64 j ∧ v = .slice lo j lcap ∧ Nw w w.heap.size lo lcap (2 ^ j - 1) j wr)
  case atStart => exact ⟨0, none, 0, by omega, by omega, rfl, rfl, rfl, hn0⟩
  case round =>
    obtain ⟨j, lo, lcap, hj, hjq, hg, rfl, rfl, hn⟩ := hrel
    have HG := hid hg
    clear hg hn0
    by_cases h24 : j < 24
    · have h24' : (j : Int) < 24 := by omega
      by_cases hjl : j < q
      · have hjl' : (j : Int) < (q : Int) := by omega
        have hb2 : Below wr.heap.size wr (wr.alloc (.cells #[.int .i64 1] 3)) := (Below.refl _ _).alloc (Nat.le_refl _) _
        have hn3 := hn.below' hb2
        have hsz : w.heap.size ≤ (wr.alloc (.cells #[.int .i64 1] 3)).heap.size := hn3.below.size
        have hcell : (wr.alloc (.cells #[.int .i64 1] 3)).cell? ⟨wr.heap.size, 0, none⟩ = some (.int .i64 1) := by simp
        go_wp2_with (at_builtin; go_must (refine wpList_append_list _ rfl (.tmp 29) (.tmp 30) 29 rfl w.heap.size 3 i0 (.int .i64 0) 8 Try.underlying29 hi hz0 hz1 hz2 rfl lo j lcap (bitl (2 ^ j - 1) j) rfl hn3.lst (some ⟨wr.heap.size, 0, none⟩) 1 1 (bitl 1 1) rfl (bitl_len 1 1) (by simp) (fun ad had => by
          cases had
          rw [bitl1 1 (by decide)]; exact news_one hcell) (bitl_one 1 1) (by unfold maxLen; omega) (by omega) hsz ?_))
        intro lo4 lcap4 w4 hown4 hg4 hat4
        have hn4 := hn.app hb2 (v := 1) (n := 1) (by decide) hown4 hg4 (by simpa using hat4)
        rw [ones_next] at hn4
        clear hown4 hg4 hat4 hn hn3 hb2 hcell hsz
        go_wp2_with fail
        go_roundg (24 - (j + 1))
        case measure => rw [HG.out]; omega
        case rel => exact ⟨j + 1, lo4, lcap4, by omega, by omega, rfl, by go_num, rfl, hn4⟩
      · obtain rfl : j = q := by omega
        obtain ⟨hco1, hco2⟩ := HCO.out h24
        have HC1 := hid hco1
        have HC2 := hid hco2
        have hjl' : ¬ (j : Int) < (j : Int) := by omega
        have hb2 : Below wr.heap.size wr (wr.alloc (.cells #[.int .i64 0] 3)) := (Below.refl _ _).alloc (Nat.le_refl _) _
        have hn3 := hn.below' hb2
        have hsz : w.heap.size ≤ (wr.alloc (.cells #[.int .i64 0] 3)).heap.size := hn3.below.size
        have hcell : (wr.alloc (.cells #[.int .i64 0] 3)).cell? ⟨wr.heap.size, 0, none⟩ = some (.int .i64 0) := by simp
        clear hco1 hco2
        go_wp2_with (at_builtin; go_must (refine wpList_append_list _ rfl (.tmp 34) (.tmp 35) 29 rfl w.heap.size 3 i0 (.int .i64 0) 8 Try.underlying29 hi hz0 hz1 hz2 rfl lo j lcap (bitl (2 ^ j - 1) j) rfl hn3.lst (some ⟨wr.heap.size, 0, none⟩) 1 1 (bitl 0 1) rfl (bitl_len 0 1) (by simp) (fun ad had => by
          cases had
          rw [bitl1 0 (by decide)]; exact news_one hcell) (bitl_one 0 1) (by unfold maxLen; omega) (by omega) hsz ?_))
        intro lo4 lcap4 w4 hown4 hg4 hat4
        have hn4 := hn.app hb2 (v := 0) (n := 1) (by decide) hown4 hg4 (by simpa using hat4)
        clear hown4 hg4 hat4 hn hn3 hb2 hcell hsz
        go_wp2_with fail
        refine (bits_any u k w4 (by omega) (by omega)).mono ?_
        rintro e w5 ⟨rfl, hb5, hrow⟩
        have hn5 := hn4.below' hb5
        have hsz5 : w.heap.size ≤ w5.heap.size := hn5.below.size
        go_wp2_with (at_builtin; go_must (refine wpList_append_list _ rfl (.tmp 36) (.tmp 39) 29 rfl w.heap.size 3 i0 (.int .i64 0) 8 Try.underlying29 hi hz0 hz1 hz2 rfl lo4 (j + 1) lcap4 (bitl ((2 ^ j - 1) * 2 ^ 1 + 0) (j + 1)) rfl hn5.lst (some ⟨w4.heap.size, 0, none⟩) k k (bitl r k) rfl (bitl_len r k) (by simp) (fun ad had i u' hj => by
          cases had
          have hjm : i < k := by have := (List.getElem?_eq_some_iff.1 hj).1; simpa [bitl] using this
          rw [← HBM.out] at hj
          rw [Addr.add_lit, Nat.zero_add, hrow.cell hjm, ← bitl_at u k i hjm]; exact hj) (bitl_one r k) (by unfold maxLen; omega) (by omega) hsz5 ?_))
        intro lo6 lcap6 w6 hown6 hg6 hat6
        have hn6 := hn4.app hb5 hrb hown6 hg6 hat6
        have hfin : CodePost w (cod u k) (cost u k) (.returned (.slice lo6 (j + 1 + k) lcap6)) w6 := by
          rw [HC1.out, HC2.out]
          refine ⟨lo6, lcap6, rfl, ?_⟩
          rw [join_code]
          exact hn6
        clear hown6 hg6 hat6 hn6 hn5 hrow hb5 hn4
        go_wp2_with fail
        go_ret
        exact hfin
    · have h24' : ¬ (j : Int) < 24 := by omega
      obtain rfl : j = 24 := by omega
      obtain ⟨hco1, hco2⟩ := HCH.out (by omega)
      have HC1 := hid hco1
      have HC2 := hid hco2
      have hq24 : ¬ (q : Int) < 24 := by omega
      clear hco1 hco2
      go_wp2_with fail
      refine (bits_any u 40 wr (by omega) (by omega)).mono ?_
      rintro e w5 ⟨rfl, hb5, hrow⟩
      have hn5 := hn.below' hb5
      have hsz5 : w.heap.size ≤ w5.heap.size := hn5.below.size
      go_wp2_with (at_builtin; go_must (refine wpList_append_list _ rfl (.tmp 41) (.tmp 43) 29 rfl w.heap.size 3 i0 (.int .i64 0) 8 Try.underlying29 hi hz0 hz1 hz2 rfl lo 24 lcap (bitl (2 ^ 24 - 1) 24) rfl hn5.lst (some ⟨wr.heap.size, 0, none⟩) 40 40 (bitl u 40) rfl (bitl_len u 40) (by simp) (fun ad had i u' hj => by
        cases had
        have hjm : i < 40 := by have := (List.getElem?_eq_some_iff.1 hj).1; simpa [bitl] using this
        rw [Addr.add_lit, Nat.zero_add, hrow.cell hjm, ← bitl_at u 40 i hjm]; exact hj) (bitl_one u 40) (by unfold maxLen; omega) (by omega) hsz5 ?_))
      intro lo6 lcap6 w6 hown6 hg6 hat6
      have hn6 := hn.app hb5 (show u < 2 ^ 40 from hu2) hown6 hg6 hat6
      have hfin : CodePost w (cod u k) (cost u k) (.returned (.slice lo6 64 lcap6)) w6 := by
        rw [HC1.out, HC2.out]
        exact ⟨lo6, lcap6, rfl, hn6⟩
      clear hown6 hg6 hat6 hn6 hn5 hrow hb5 hn
      go_wp2_with fail
      go_ret
      exact hfin

theorem code_any (u : Nat) (k : Int) (w : World) :
    Calls Try.prog 53 #[.int .u64 (u : Int), .int .i64 k] w (CodePost w (codI u k) (cost u k)) := by
  by_cases h : okK k ∧ coded u
  · obtain ⟨n, rfl⟩ := Int.eq_ofNat_of_zero_le h.1.1
    exact code_ok u n (by have := h.1.2; omega) h.2 w
  · exact code_no u k w h
end Go.Proofs.Ytleamamecgmmjaa.Rice
