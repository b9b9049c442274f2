/- RicePuts' walk: any numbers are written as the codes that the document says, or refused, and then nothing is written. Conditions: those of the memory's own form alone. -/
import Derived.Test.YtgojdhffhocceaaTr
import Derived.Test.YtgojdhffhocceaaTo
namespace Go.Proofs.Ytgojdhffhocceaa.Rice
open Go.RowKit Bit

/-- The codes of the first numbers, those of them that have one. -/
def cx (U : Nat → Nat) (k : Int) : Nat → Nat × Nat
  | 0 => (0, 0)
  | j + 1 => ((cx U k j).1 * 2 ^ cost (U j) k + codI (U j) k, (cx U k j).2 + cost (U j) k)
theorem cx_le (U : Nat → Nat) (k : Int) : ∀ j, (cx U k j).2 ≤ 64 * j
  | 0 => Nat.le_refl _
  | j + 1 => by
    have h := cx_le U k j
    have h1 := cost_le (U j) k
    show _ + _ ≤ _
    omega
theorem cx_tot (U : Nat → Nat) (k : Int) : ∀ j, (cx U k j).2 = tot U k j
  | 0 => rfl
  | j + 1 => by show _ + _ = _ + _; rw [cx_tot U k j]
theorem cx_cods (U : Nat → Nat) (k : Nat) (hk : okK (k : Int)) : ∀ j, allC U j → cods U k 0 0 j = cx U k j
  | 0, _ => rfl
  | j + 1, h => by
    have h1 := cx_cods U k hk j fun i hi => h i (by omega)
    show ((cods U k 0 0 j).1 * _ + _, _) = ((cx U k j).1 * _ + _, _)
    rw [h1, show codI (U j) (k : Int) = cod (U j) k from if_pos ⟨hk, h j (by omega)⟩]

def AllPost (w : World) (U : Nat → Nat) (len : Nat) (e : Ending) (w' : World) : Prop := ∃ x : Bool, e = .returned (.bool x) ∧ w = w' ∧ (x = true ↔ allC U len)
theorem rall_any (w : World) (a : Option Addr) (len cap b off : Nat) (U : Nat → Nat) (h : Us w a len b off U) :
    Calls Try.prog 22 #[.slice a len cap] w (AllPost w U len) := by
  have H := hid h
  have hl := h.hl
  clear h
  go_enter Try.func22, Try.ntmps22
  go_wp2_with fail
  go_loopg [3] len (fun g i wr => ∃ k : Nat, k ≤ len ∧ g = len - k ∧ i = .int .i64 k ∧ w = wr ∧ allC U k)
  case atStart => exact ⟨0, Nat.zero_le _, rfl, rfl, rfl, fun j hj => absurd hj (Nat.not_lt_zero _)⟩
  case round =>
    obtain ⟨k, hk, hg, rfl, rfl, hall⟩ := hrel
    have HG := hid hg
    have HA := hid hall
    clear hg hall
    by_cases hlt : k < len
    · have hlt2 : (k : Int) < (len : Int) := by omega
      obtain rfl := H.out.addr (by omega)
      have ck := H.out.c k hlt
      go_wp2_with fail
      refine (rmay (U k) w).mono ?_
      rintro e w' ⟨rfl, rfl⟩
      by_cases hc : coded (U k)
      · rw [decide_eq_true hc]
        go_wp2_with fail
        go_roundg (len - (k + 1))
        case measure => rw [HG.out]; omega
        case rel => exact ⟨k + 1, by omega, rfl, by go_num, rfl, fun j hj => by
          by_cases e : j = k
          · rw [e]; exact hc
          · exact HA.out j (by omega)⟩
      · rw [decide_eq_false hc]
        go_wp2_with fail
        go_ret
        exact ⟨_, rfl, rfl, by simp only [Bool.false_eq_true, false_iff]; exact fun h => hc (h k hlt)⟩
    · have hge : ¬ (k : Int) < (len : Int) := by omega
      obtain rfl : k = len := by omega
      go_wp2_with fail
      go_ret
      exact ⟨_, rfl, rfl, by simp only [true_iff]; exact HA.out⟩

/-- The error that PutAll answers, and what the writer has. -/
def pae (U : Nat → Nat) (len : Nat) (k : Int) (e : Int) (y : Nat × Nat) : Prop := (¬ okK k ∧ e = 1 ∧ y = (0, 0)) ∨ (okK k ∧ ¬ allC U len ∧ e = 3 ∧ y = (0, 0)) ∨ (okK k ∧ allC U len ∧ e = 0 ∧ y = cx U k len)
theorem putall_t {w wr : World} {v : Value} {z c : Nat × Nat} (h : Tri w wr v (0, 0) z c) (a : Option Addr) (len cap b off : Nat) (U : Nat → Nat) (k : Int) (hU : Us w a len b off U) (hlen : len ≤ 1048576) :
    Calls Try.prog 15 #[.pointer (some ⟨w.heap.size, 0, none⟩), .slice a len cap, .int .i64 k] wr fun e w' => ∃ x y, pae U len k x y ∧ e = .returned (.int .i64 x) ∧ Tri w w' v y z c := by
  by_cases h0 : okK k
  · by_cases h1 : allC U len
    · obtain ⟨n, rfl⟩ := Int.eq_ofNat_of_zero_le h0.1
      refine (putall_w h a len cap b off U n (by have := h0.2; omega) hU h1 (by decide) hlen).mono ?_
      rintro e w' ⟨rfl, ht⟩
      rw [cx_cods U n h0 len h1] at ht
      exact ⟨0, _, .inr (.inr ⟨h0, h1, rfl, rfl⟩), rfl, ht⟩
    · refine (putall_range _ a len cap b off U k h0 wr (hU.below h.below hU.lt) h1).mono ?_
      rintro e w' ⟨rfl, rfl⟩
      exact ⟨3, _, .inr (.inl ⟨h0, h1, rfl, rfl⟩), rfl, h⟩
  · refine (putall_arg _ _ k h0 wr).mono ?_
    rintro e w' ⟨rfl, rfl⟩
    exact ⟨1, _, .inl ⟨h0, rfl, rfl⟩, rfl, h⟩
theorem known_t {w wr : World} {v : Value} {y z c : Nat × Nat} (h : Tri w wr v y z c) : Calls Try.prog 9 #[] wr fun e w' => e = .returned (.bool true) ∧ Tri w w' v y z c := by
  refine (known_true wr).mono ?_
  rintro e w' ⟨rfl, hb⟩
  exact ⟨rfl, h.upto hb⟩
theorem total_t {w wr : World} {v : Value} {y z c : Nat × Nat} (h : Tri w wr v y z c) (a : Option Addr) (len cap b off : Nat) (U : Nat → Nat) (hU : Us w a len b off U) (hlen : len ≤ 1048576) (k : Int) :
    Calls Try.prog 12 #[.slice a len cap, .int .i64 k] wr fun e w' => e = .returned (.int .i64 (tot U k len : Int)) ∧ Tri w w' v y z c := by
  refine (total_any wr a len cap b off U (hU.below h.below hU.lt) hlen k).mono ?_
  rintro e w' ⟨rfl, hb⟩
  exact ⟨rfl, h.upto hb⟩

set_option maxHeartbeats 3200000 in
set_option maxRecDepth 100000 in
theorem puts_walk (w : World) (a : Option Addr) (len cap b off : Nat) (U : Nat → Nat) (k : Int) (h : Us w a len b off U) :
    Calls Try.prog 4 #[.slice a len cap, .int .i64 k] w fun e w' => e = .returned (.bool true) ∧ Below w.heap.size w w' := by
  by_cases h2 : 200 < len
  · have h1 : (200 : Int) < (len : Int) := by omega
    go_enter Try.func4, Try.ntmps4
    go_wp2_with fail
    refine (known_true _).mono ?_
    rintro e w' ⟨rfl, hb⟩
    go_wp2_with fail
    go_ret
    exact ⟨rfl, hb⟩
  · have h1 : ¬ (200 : Int) < (len : Int) := by omega
    have H := hid h
    obtain ⟨i0, hi, hz0, hz1, hz2⟩ := info_parts Try.info3
    have ht0 := tri_start w 33
    clear h
    go_enter Try.func4, Try.ntmps4
    go_wp2_with fail
    generalize (w.alloc (.cells #[.slice none 0 0, .int .u64 0, .int .i64 0] 33)).alloc (.cells #[.slice none 0 0, .int .u64 0, .int .i64 0] 33) = W at ht0 ⊢
    refine (putall_t ht0 a len cap b off U k H.out (by omega)).mono ?_
    rintro e w1 ⟨x, y, hpa, rfl, ht1⟩
    have HPA := hid hpa
    have hyl : y.2 ≤ 12800 := by
      rcases hpa with ⟨_, _, rfl⟩ | ⟨_, _, _, rfl⟩ | ⟨_, _, _, rfl⟩
      · decide
      · decide
      · have := cx_le U k len; omega
    clear ht0 hpa
    go_wp2_with fail
    go_loopg [9, 10] len (fun g v i wr => ∃ j : Nat, j ≤ len ∧ g = len - j ∧ i = .int .i64 j ∧ Tri w wr v y (cx U k j) (cx U k j))
    case atStart => exact ⟨0, Nat.zero_le _, rfl, rfl, ht1⟩
    case round =>
      obtain ⟨j, hj, hg, rfl, hs⟩ := hrel
      have HG := hid hg
      have hcl := cx_le U k j
      clear hg ht1
      obtain ⟨lo, lcap, rfl⟩ := hs.slice
      by_cases hlt : j < len
      · have hlt2 : (j : Int) < (len : Int) := by omega
        have hA := H.out.below hs.below H.out.lt
        obtain rfl := H.out.addr (by omega)
        have ck := hA.c j hlt
        have hub := hA.ub j hlt
        have HC := hid fun w' (hb : Below w.heap.size w w') => (H.out.below hb H.out.lt).c j hlt
        have HN : Hid (cx U k (j + 1) = ((cx U k j).1 * 2 ^ cost (U j) k + codI (U j) k, (cx U k j).2 + cost (U j) k)) := hid rfl
        have hcu := cost_le (U j) k
        have HCI := hid (codI_lt (U j) k)
        have HPX := hid fun (h : Tri w wr (.slice lo (cx U k j).2 lcap) y (cx U k j) (cx U k j)) => put_x h (U j) hub k (by omega)
        have HCT := hid fun w' z (h : Tri w w' (.slice lo (cx U k j).2 lcap) y z (cx U k j)) => code_t h (U j) k
        have HPE : Hid (okK k → coded (U j) → pe (U j) k = 0) := hid fun h0 h1 => by unfold pe; rw [if_pos h0, if_pos h1]
        have HPE3 : Hid (okK k → ¬ coded (U j) → pe (U j) k = 3) := hid fun h0 h1 => by unfold pe; rw [if_pos h0, if_neg h1]
        have HPE1 : Hid (¬ okK k → pe (U j) k = 1) := hid fun h0 => if_neg h0
        clear hA hub
        generalize cx U k j = cj at *
        generalize cost (U j) k = cu at *
        generalize codI (U j) k = di at *
        generalize hpe : pe (U j) k = px at *
        have HX := hid hpe
        have HMAY := hid (rmay (U j))
        generalize hu : U j = u at *
        have HU := hid hu
        clear hpe hu
        have hi1 : (0 : Int) ≤ 0 := by omega
        by_cases h0 : okK k
        · by_cases h1 : coded u
          · obtain rfl := HPE.out h0 h1
            have hd0 : decide (okK k) = true := decide_eq_true h0
            have hd1 : decide (coded u) = true := decide_eq_true h1
            go_wp2_with fail
            refine (HPX.out hs).mono ?_
            rintro e w2 ⟨rfl, ht2⟩
            have ck2 := HC.out w2 ht2.below
            clear hs ck
            go_wp2_with fail
            refine (rparam k w2).mono ?_
            rintro e w3 ⟨rfl, rfl⟩
            rw [hd0]
            go_wp2_with fail
            refine (HMAY.out w2).mono ?_
            rintro e w3 ⟨rfl, rfl⟩
            rw [hd1]
            clear hi1
            go_wp2_with fail
            refine (HCT.out _ _ ht2).mono ?_
            rintro e w4 ⟨lo2, lcap2, rfl, ht4, hl4⟩
            have hl3 := tri_lst ht4
            have hsz4 : w.heap.size ≤ w4.heap.size := ht4.below.size
            clear ht2 ck2
            go_wp2_with (at_builtin; go_must (refine wpList_append_list _ rfl (.tmp 50) (.tmp 56) 27 rfl w.heap.size 3 i0 (.int .i64 0) 8 Try.underlying27 hi hz0 hz1 hz2 rfl lo cj.2 lcap (bitl cj.1 cj.2) rfl hl3 lo2 cu lcap2 (bitl di cu) rfl (bitl_len di cu) hl4.none' hl4.cells (bitl_one di cu) (by unfold maxLen; omega) (by omega) hsz4 ?_))
            intro lo6 lcap6 w6 hown6 hg6 hat6
            have ht6 := tri_app ht4 HCI.out hown6 hg6 hat6
            rw [← HN.out] at ht6
            have hcs : (cx U k (j + 1)).2 = cj.2 + cu := by rw [HN.out]
            have HCS := hid hcs
            clear hown6 hg6 hat6 ht4 hl4 hl3 hsz4 hcs
            go_wp2_with fail
            go_roundg (len - (j + 1))
            case measure => rw [HG.out]; omega
            case rel => exact ⟨j + 1, by omega, rfl, by go_num, ht6⟩
          · obtain rfl := HPE3.out h0 h1
            have hd0 : decide (okK k) = true := decide_eq_true h0
            have hd1 : decide (coded u) = false := decide_eq_false h1
            go_wp2_with fail
            refine (HPX.out hs).mono ?_
            rintro e w2 ⟨rfl, ht2⟩
            have ck2 := HC.out w2 ht2.below
            clear hs ck
            go_wp2_with fail
            refine (rparam k w2).mono ?_
            rintro e w3 ⟨rfl, rfl⟩
            rw [hd0]
            go_wp2_with fail
            refine (HMAY.out w2).mono ?_
            rintro e w3 ⟨rfl, rfl⟩
            rw [hd1]
            clear hi1
            go_wp2_with fail
            refine (HCT.out _ _ ht2).mono ?_
            rintro e w4 ⟨lo2, lcap2, rfl, ht4, hl4⟩
            have hl3 := tri_lst ht4
            have hsz4 : w.heap.size ≤ w4.heap.size := ht4.below.size
            clear ht2 ck2
            go_wp2_with (at_builtin; go_must (refine wpList_append_list _ rfl (.tmp 50) (.tmp 56) 27 rfl w.heap.size 3 i0 (.int .i64 0) 8 Try.underlying27 hi hz0 hz1 hz2 rfl lo cj.2 lcap (bitl cj.1 cj.2) rfl hl3 lo2 cu lcap2 (bitl di cu) rfl (bitl_len di cu) hl4.none' hl4.cells (bitl_one di cu) (by unfold maxLen; omega) (by omega) hsz4 ?_))
            intro lo6 lcap6 w6 hown6 hg6 hat6
            have ht6 := tri_app ht4 HCI.out hown6 hg6 hat6
            rw [← HN.out] at ht6
            have hcs : (cx U k (j + 1)).2 = cj.2 + cu := by rw [HN.out]
            have HCS := hid hcs
            clear hown6 hg6 hat6 ht4 hl4 hl3 hsz4 hcs
            go_wp2_with fail
            go_roundg (len - (j + 1))
            case measure => rw [HG.out]; omega
            case rel => exact ⟨j + 1, by omega, rfl, by go_num, ht6⟩
        · obtain rfl := HPE1.out h0
          have hd0 : decide (okK k) = false := decide_eq_false h0
          go_wp2_with fail
          refine (HPX.out hs).mono ?_
          rintro e w2 ⟨rfl, ht2⟩
          have ck2 := HC.out w2 ht2.below
          clear hs ck
          go_wp2_with fail
          refine (rparam k w2).mono ?_
          rintro e w3 ⟨rfl, rfl⟩
          rw [hd0]
          clear hi1
          go_wp2_with fail
          refine (HCT.out _ _ ht2).mono ?_
          rintro e w4 ⟨lo2, lcap2, rfl, ht4, hl4⟩
          have hl3 := tri_lst ht4
          have hsz4 : w.heap.size ≤ w4.heap.size := ht4.below.size
          clear ht2 ck2
          go_wp2_with (at_builtin; go_must (refine wpList_append_list _ rfl (.tmp 50) (.tmp 56) 27 rfl w.heap.size 3 i0 (.int .i64 0) 8 Try.underlying27 hi hz0 hz1 hz2 rfl lo cj.2 lcap (bitl cj.1 cj.2) rfl hl3 lo2 cu lcap2 (bitl di cu) rfl (bitl_len di cu) hl4.none' hl4.cells (bitl_one di cu) (by unfold maxLen; omega) (by omega) hsz4 ?_))
          intro lo6 lcap6 w6 hown6 hg6 hat6
          have ht6 := tri_app ht4 HCI.out hown6 hg6 hat6
          rw [← HN.out] at ht6
          have hcs : (cx U k (j + 1)).2 = cj.2 + cu := by rw [HN.out]
          have HCS := hid hcs
          clear hown6 hg6 hat6 ht4 hl4 hl3 hsz4 hcs
          go_wp2_with fail
          go_roundg (len - (j + 1))
          case measure => rw [HG.out]; omega
          case rel => exact ⟨j + 1, by omega, rfl, by go_num, ht6⟩
      · have hge : ¬ (j : Int) < (len : Int) := by omega
        obtain rfl : j = len := by omega
        have HU := hid fun w' (hb : Below w.heap.size w w') => H.out.below hb H.out.lt
        have HCT := hid (cx_tot U k j)
        have hpa2 : (¬ okK k ∧ x = 1 ∧ y = (0, 0)) ∨ (okK k ∧ ¬ allC U j ∧ x = 3 ∧ y = (0, 0)) ∨ (okK k ∧ allC U j ∧ x = 0 ∧ y = cx U k j) := HPA.out
        generalize cx U k j = cj at *
        have HPB := hid hpa2
        have HTO := hid fun wr' y z (h : Tri w wr' (.slice lo cj.2 lcap) y z cj) => by
          have ht := total_t h a j cap b off U H.out (by omega) k
          rw [← HCT.out] at ht
          exact ht
        clear hpa2
        go_wp2_with fail
        go_cut [71] (fun c wx => c = .bool false ∧ Tri w wx (.slice lo cj.2 lcap) y cj cj)
        case first =>
          have hs2 := hs.drew
          clear hs HPB HTO HU
          go_region_with (first
            | (go_at_call 19; (with_reducible refine (bytes_x ‹Tri w _ _ _ _ _› (by first | omega | (simp only []; omega))).mono ?_); rintro e w9 ⟨rfl, hs9, hr9, hb9⟩; have hc9 : (convert 31 9 (.slice (some ⟨wr.heap.size, 0, none⟩) ((cj.2 + 7) / 8) ((cj.2 + 7) / 8))).run Try.prog w9 = .ok (.string (str cj)) w9 := hr9.conv)
            | (go_at_call 20; (with_reducible refine (bytes_l ‹Tri w _ _ _ _ _› (by first | omega | (simp only []; omega))).mono ?_); rintro e w8 ⟨g8, rfl, hs8, hr8, hb8⟩; have hc8 := hr8.conv; have hc7 : (convert 31 9 (.slice (some ⟨wr.heap.size, 0, none⟩) ((cj.2 + 7) / 8) ((cj.2 + 7) / 8))).run Try.prog w8 = .ok (.string (str cj)) w8 := (hr9.upto hb8).conv)
            | (go_at_call 21; (with_reducible refine (len_x ‹Tri w _ _ _ _ _› (by first | omega | (simp only []; omega))).mono ?_); rintro e w7 ⟨rfl, hs7⟩))
          all_goals
            clear hc9 hc8 hc7 hr9 hr8 hb9 hb8 hs9 hs8 hs2
            go_wp2_with fail
            go_meet
            exact ⟨rfl, hs7⟩
        case rest =>
          obtain ⟨rfl, hs7⟩ := hcut
          clear hs
          generalize wc = w7 at *
          rcases HPB.out with ⟨h0, rfl, rfl⟩ | ⟨h0, h1, rfl, rfl⟩ | ⟨h0, h1, rfl, rfl⟩
          · have hd0 : decide (okK k) = false := decide_eq_false h0
            go_wp2_with fail
            refine (rparam k w7).mono ?_
            rintro e w3 ⟨rfl, rfl⟩
            rw [hd0]
            go_wp2_with fail
            refine (len_w hs7 (by decide)).mono ?_
            rintro e w5 ⟨rfl, hs5⟩
            go_wp2_with fail
            refine (known_t hs5).mono ?_
            rintro e w4 ⟨rfl, hs4⟩
            have hfin := hs4.below
            clear hs4 hs5 hs7
            go_wp2_with fail
            go_ret
            exact ⟨rfl, hfin⟩
          · have hd0 : decide (okK k) = true := decide_eq_true h0
            go_wp2_with fail
            refine (rparam k w7).mono ?_
            rintro e w3 ⟨rfl, rfl⟩
            rw [hd0]
            go_wp2_with fail
            refine (rall_any w7 a j cap b off U (HU.out w7 hs7.below)).mono ?_
            rintro e w3 ⟨xx, rfl, rfl, hxx⟩
            obtain rfl : xx = false := by
              cases xx with
              | false => rfl
              | true => exact absurd (hxx.1 rfl) h1
            clear hxx
            go_wp2_with fail
            refine (len_w hs7 (by decide)).mono ?_
            rintro e w5 ⟨rfl, hs5⟩
            go_wp2_with fail
            refine (known_t hs5).mono ?_
            rintro e w4 ⟨rfl, hs4⟩
            have hfin := hs4.below
            clear hs4 hs5 hs7
            go_wp2_with fail
            go_ret
            exact ⟨rfl, hfin⟩
          · have hd0 : decide (okK k) = true := decide_eq_true h0
            go_wp2_with fail
            refine (rparam k w7).mono ?_
            rintro e w3 ⟨rfl, rfl⟩
            rw [hd0]
            go_wp2_with fail
            refine (rall_any w7 a j cap b off U (HU.out w7 hs7.below)).mono ?_
            rintro e w3 ⟨xx, rfl, rfl, hxx⟩
            obtain rfl : xx = true := hxx.2 h1
            clear hxx h0 h1
            go_wp2_with fail
            have hs6 := hs7.drew
            clear hs7
            go_region_with (first
              | (go_at_call 21; (with_reducible refine (len_w ‹Tri w _ _ _ _ _› (by first | omega | (simp only []; omega))).mono ?_); rintro e w5 ⟨rfl, hs5⟩)
              | (go_at_call 12; (with_reducible refine (HTO.out _ _ _ ‹Tri w _ _ _ _ _›).mono ?_); rintro e w4 ⟨rfl, hs4⟩)
              | (go_at_call 19; (with_reducible refine (bytes_w ‹Tri w _ _ _ _ _› (by first | omega | (simp only []; omega))).mono ?_); rintro e w9 ⟨rfl, hs9, hr9, hb9⟩; have hc9 := hr9.conv)
              | (go_at_call 20; (with_reducible refine (bytes_l ‹Tri w _ _ _ _ _› (by first | omega | (simp only []; omega))).mono ?_); rintro e w8 ⟨g8, rfl, hs8, hr8, hb8⟩; have hc8 := hr8.conv; have hc7 := (hr9.upto hb8).conv)
              | (go_at_call 9; (with_reducible refine (known_t ‹Tri w _ _ _ _ _›).mono ?_); rintro e w2 ⟨rfl, hs2⟩))
            all_goals
              have hfin := hs2.below
              clear hc9 hc8 hc7 hr9 hr8 hb9 hb8 hs9 hs8 hs6 hs5 hs4 hs2
              go_wp2_with fail
              go_ret
              exact ⟨rfl, hfin⟩
end Go.Proofs.Ytgojdhffhocceaa.Rice
