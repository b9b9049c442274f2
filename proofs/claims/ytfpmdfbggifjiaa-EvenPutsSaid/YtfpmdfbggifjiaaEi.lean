/- The document's Codes and Below of even; EvenPuts' walk. Conditions: those of the memory's own form alone. -/
import Derived.Test.YtfpmdfbggifjiaaEf
import Derived.Test.YtfpmdfbggifjiaaTr
namespace Go.Proofs.Ytfpmdfbggifjiaa.Even
open Go.RowKit Bit Rice

set_option maxHeartbeats 800000 in
theorem rcodes_any (w : World) (a : Option Addr) (len cap b off : Nat) (U : Nat → Nat) (h : Us w a len b off U) (n : Nat) (hlen : len ≤ 1048576) :
    Calls Try.prog 15 #[.slice a len cap, .int .u64 (n : Int)] w (CodePost w (cds U n 0 0 len).1 (cds U n 0 0 len).2) := by
  obtain ⟨i0, hi, hz0, hz1, hz2⟩ := info_parts Try.info3
  have hn0 := nw_none w
  have H := hid h
  clear h
  go_enter Try.func15, Try.ntmps15
  go_wp2_with fail
  go_loopg [5, 6] len (fun g v i wr => ∃ (j : Nat) (lo : Option Addr) (lcap : Nat), j ≤ len ∧ g = len - j ∧ i = .int .i64 j ∧ v = .slice lo (cds U n 0 0 j).2 lcap ∧ Nw w w.heap.size lo lcap (cds U n 0 0 j).1 (cds U n 0 0 j).2 wr)
  case atStart => exact ⟨0, none, 0, Nat.zero_le _, rfl, rfl, rfl, hn0⟩
  case round =>
    obtain ⟨j, lo, lcap, hj, hg, rfl, rfl, hn⟩ := hrel
    have HG := hid hg
    clear hg hn0
    by_cases hlt : j < len
    · have hlt2 : (j : Int) < (len : Int) := by omega
      have hu := H.out.below hn.below H.out.lt
      obtain rfl := H.out.addr (by omega)
      have ck := hu.c j hlt
      have hub := hu.ub j hlt
      have HN : Hid (cds U n 0 0 (j + 1) = ((cds U n 0 0 j).1 * 2 ^ ct (U j) n + cd (U j) n, (cds U n 0 0 j).2 + ct (U j) n)) := hid rfl
      have HCD := hid (rcode_any (U j) n hub)
      have hcl := ct_le (U j) n
      have hsl := (cds_le U n 0 0 j).2
      have hcd := cd_lt (U j) n
      clear hu hub
      generalize cds U n 0 0 j = r at *
      generalize hr1 : cds U n 0 0 (j + 1) = r1 at *
      have HR1 := hid hr1
      clear hr1
      generalize ct (U j) n = c at *
      generalize cd (U j) n = d at *
      generalize U j = u at *
      go_wp2_with fail
      refine (HCD.out wr).mono ?_
      rintro e w2 ⟨lo2, lcap2, rfl, hno, hce, hb2⟩
      have hn3 := hn.below' hb2
      have hsz : w.heap.size ≤ w2.heap.size := hn3.below.size
      go_wp2_with (at_builtin; go_must (refine wpList_append_list _ rfl (.tmp 13) (.tmp 19) 35 rfl w.heap.size 3 i0 (.int .i64 0) 8 Try.underlying35 hi hz0 hz1 hz2 rfl lo r.2 lcap (bitl r.1 r.2) rfl hn3.lst lo2 c lcap2 (bitl d c) rfl (bitl_len d c) hno hce (bitl_one d c) (by unfold maxLen; omega) (by omega) hsz ?_))
      intro lo4 lcap4 w4 hown4 hg4 hat4
      have hn4 := hn.app hb2 hcd hown4 hg4 hat4
      have hst : Value.slice lo4 (r.2 + c) lcap4 = .slice lo4 (cds U n 0 0 (j + 1)).2 lcap4 ∧ Nw w w.heap.size lo4 lcap4 (cds U n 0 0 (j + 1)).1 (cds U n 0 0 (j + 1)).2 w4 := by
        rw [HR1.out, HN.out]; exact ⟨rfl, hn4⟩
      have HST := hid hst
      clear hown4 hg4 hat4 hn hn3 hb2 hno hce ck hsz hst hn4
      go_wp2_with fail
      go_roundg (len - (j + 1))
      case measure => rw [HG.out]; omega
      case rel => exact ⟨j + 1, lo4, lcap4, by omega, rfl, by go_num, HST.out.1, HST.out.2⟩
    · have hge : ¬ (j : Int) < (len : Int) := by omega
      obtain rfl : j = len := by omega
      have hfin : CodePost w (cds U n 0 0 j).1 (cds U n 0 0 j).2 (.returned (.slice lo (cds U n 0 0 j).2 lcap)) wr := ⟨lo, lcap, rfl, hn⟩
      clear hn
      go_wp2_with fail
      go_ret
      exact hfin

def BelowPost (w : World) (U : Nat → Nat) (n len : Nat) (e : Ending) (w' : World) : Prop := ∃ x : Bool, e = .returned (.bool x) ∧ w = w' ∧ (x = true ↔ allB U n len)
theorem rbelow_any (w : World) (a : Option Addr) (len cap b off : Nat) (U : Nat → Nat) (h : Us w a len b off U) (n : Nat) :
    Calls Try.prog 14 #[.slice a len cap, .int .u64 (n : Int)] w (BelowPost w U n len) := by
  have H := hid h
  have hl := h.hl
  clear h
  go_enter Try.func14, Try.ntmps14
  go_wp2_with fail
  go_loopg [5] len (fun g i wr => ∃ k : Nat, k ≤ len ∧ g = len - k ∧ i = .int .i64 k ∧ w = wr ∧ allB U n k)
  case atStart => exact ⟨0, Nat.zero_le _, rfl, rfl, rfl, fun j hj => absurd hj (Nat.not_lt_zero _)⟩
  case round =>
    obtain ⟨k, hk, hg, rfl, rfl, hall⟩ := hrel
    have HG := hid hg
    have HA := hid hall
    clear hg hall
    by_cases hlt : k < len
    · have hlt2 : (k : Int) < (len : Int) := by omega
      obtain rfl := H.out.addr (by omega)
      have ck := H.out.c k hlt
      by_cases hc : U k < n
      · have g1 : ¬ (n : Int) ≤ (U k : Int) := by omega
        go_wp2_with fail
        go_roundg (len - (k + 1))
        case measure => rw [HG.out]; omega
        case rel => exact ⟨k + 1, by omega, rfl, by go_num, rfl, fun j hj => by
          by_cases e : j = k
          · rw [e]; exact hc
          · exact HA.out j (by omega)⟩
      · have g1 : (n : Int) ≤ (U k : Int) := by omega
        go_wp2_with fail
        go_ret
        exact ⟨_, rfl, rfl, by simp only [Bool.false_eq_true, false_iff]; exact fun h => hc (h k hlt)⟩
    · have hge : ¬ (k : Int) < (len : Int) := by omega
      obtain rfl : k = len := by omega
      go_wp2_with fail
      go_ret
      exact ⟨_, rfl, rfl, by simp only [true_iff]; exact HA.out⟩

theorem Lst.base_le {w : World} {B B' : Nat} {lo : Option Addr} {lcap N L : Nat} (h : Lst w B lo lcap N L) (hB : B' ≤ B) : Lst w B' lo lcap N L :=
  ⟨h.1, h.2.imp id fun ⟨g, c, cur, h1, h2, h3⟩ => ⟨g, c, cur, h1, Nat.le_trans hB h2, h3⟩⟩
/-- A writer, the first block from w on, and a list of bits. -/
def Dw (w wr : World) (v : Value) (y c : Nat × Nat) : Prop := ∃ (wo : Option Addr) (wcap : Nat) (lo : Option Addr) (lcap : Nat), v = .slice lo c.2 lcap ∧
  WrN wr w.heap.size w.heap.size 0 wo wcap y.1 y.2 ∧ Lst wr w.heap.size lo lcap c.1 c.2 ∧ Below w.heap.size w wr
theorem Dw.below {w wr : World} {v : Value} {y c : Nat × Nat} (h : Dw w wr v y c) : Below w.heap.size w wr := by obtain ⟨_, _, _, _, _, _, _, hb⟩ := h; exact hb
theorem Dw.upto {w wr w' : World} {v : Value} {y c : Nat × Nat} (h : Dw w wr v y c) (hb : Below wr.heap.size wr w') : Dw w w' v y c := by
  obtain ⟨wo, wcap, lo, lcap, rfl, hw, hl, hb0⟩ := h
  exact ⟨wo, wcap, lo, lcap, rfl, WrN.upto hw hb, hl.upto hb, hb0.trans (hb.mono hb0.size)⟩
theorem Dw.drewN {w wr : World} {v : Value} {y c : Nat × Nat} (h : Dw w wr v y c) (n : Nat) : Dw w (wr.drewN n) v y c := h.upto ⟨rfl, rfl, rfl, Nat.le_refl _, fun _ _ => rfl⟩
theorem Dw.drew {w wr : World} {v : Value} {y c : Nat × Nat} (h : Dw w wr v y c) : Dw w wr.drew v y c := h.upto ⟨rfl, rfl, rfl, Nat.le_refl _, fun _ _ => rfl⟩
theorem dlen {w wr : World} {v : Value} {y c : Nat × Nat} (h : Dw w wr v y c) (hL : y.2 ≤ 7000000000000) : Calls Try.prog 12 #[.pointer (some ⟨w.heap.size, 0, none⟩)] wr fun e w' => e = .returned (.int .i64 (y.2 : Int)) ∧ Dw w w' v y c := by
  have h' := h
  obtain ⟨wo, wcap, lo, lcap, rfl, hw, _⟩ := h
  refine (len_any hw (by omega)).mono ?_
  rintro e w' ⟨rfl, nq, rfl⟩
  exact ⟨rfl, h'.drewN nq⟩
theorem dbytes {w wr : World} {v : Value} {y c : Nat × Nat} (h : Dw w wr v y c) (hL : y.2 ≤ 7000000000000) : Calls Try.prog 16 #[.pointer (some ⟨w.heap.size, 0, none⟩)] wr fun e w' =>
    e = .returned (.slice (some ⟨wr.heap.size, 0, none⟩) ((y.2 + 7) / 8) ((y.2 + 7) / 8)) ∧ Dw w w' v y c ∧ Row w' wr.heap.size y ∧ Below wr.heap.size wr w' := by
  have h' := h
  obtain ⟨wo, wcap, lo, lcap, rfl, hw, _⟩ := h
  refine (bytes_any hw (by omega)).mono ?_
  rintro e w' ⟨rfl, hb, hr⟩
  exact ⟨rfl, h'.upto hb, hr, hb⟩
theorem dbytes_l {w wr : World} {lo : Option Addr} {lcap L : Nat} {y c : Nat × Nat} (h : Dw w wr (.slice lo L lcap) y c) (hL : c.2 ≤ 1000000000000) : Calls Try.prog 17 #[.slice lo L lcap] wr fun e w' =>
    ∃ g, e = .returned (.slice (some ⟨g, 0, none⟩) ((c.2 + 7) / 8) ((c.2 + 7) / 8)) ∧ Dw w w' (.slice lo L lcap) y c ∧ Row w' g c ∧ Below wr.heap.size wr w' := by
  have h' := h
  obtain ⟨wo, wcap, lo1, lcap1, e, hw, hl, hb0⟩ := h
  cases e
  refine (rbytes_any wr w.heap.size lo lcap c.1 c.2 hl hb0.size (by omega)).mono ?_
  rintro e w' ⟨g, rfl, hb2, hr⟩
  exact ⟨g, rfl, h'.upto hb2, hr, hb2⟩
theorem dknown {w wr : World} {v : Value} {y c : Nat × Nat} (h : Dw w wr v y c) : Calls Try.prog 9 #[] wr fun e w' => e = .returned (.bool true) ∧ Dw w w' v y c := by
  refine (known_true wr).mono ?_
  rintro e w' ⟨rfl, hb⟩
  exact ⟨rfl, h.upto hb⟩
theorem dtotal {w wr : World} {v : Value} {y c : Nat × Nat} (h : Dw w wr v y c) (a : Option Addr) (len cap b off : Nat) (U : Nat → Nat) (hU : Us w a len b off U) (hlen : len ≤ 1048576) (n : Nat) :
    Calls Try.prog 13 #[.slice a len cap, .int .u64 (n : Int)] wr fun e w' => e = .returned (.int .i64 (tot U n len : Int)) ∧ Dw w w' v y c := by
  refine (total_any wr a len cap b off U (hU.below h.below hU.lt) hlen n).mono ?_
  rintro e w' ⟨rfl, hb⟩
  exact ⟨rfl, h.upto hb⟩

set_option maxHeartbeats 3200000 in
set_option maxRecDepth 100000 in
theorem puts_walk (w : World) (a : Option Addr) (len cap b off : Nat) (U : Nat → Nat) (n : Nat) (h : Us w a len b off U) :
    Calls Try.prog 3 #[.slice a len cap, .int .u64 (n : Int)] w fun e w' => e = .returned (.bool true) ∧ Below w.heap.size w w' := by
  by_cases h2 : 200 < len
  · have h1 : (200 : Int) < (len : Int) := by omega
    go_enter Try.func3, Try.ntmps3
    go_wp2_with fail
    refine (known_true _).mono ?_
    rintro e w' ⟨rfl, hb⟩
    go_wp2_with fail
    go_ret
    exact ⟨rfl, hb⟩
  · have h1 : ¬ (200 : Int) < (len : Int) := by omega
    have H := hid h
    have hw0 := new_writer' w 28 _ (Nat.le_refl _)
    have hb0 : Below w.heap.size w (w.alloc (.cells #[.slice none 0 0, .int .u64 0, .int .i64 0] 28)) := (Below.refl _ _).alloc (Nat.le_refl _) _
    have HB0 := hid hb0
    have HLT := hid h.lt
    clear h hb0
    go_enter Try.func3, Try.ntmps3
    go_wp2_with fail
    generalize hW : (w.alloc (.cells #[.slice none 0 0, .int .u64 0, .int .i64 0] 28)) = W at *
    clear hW
    by_cases hn : spn n
    · have hd0 := decide_eq_true hn
      by_cases hal : allB U n len
      · refine (putall_ok w.heap.size w.heap.size 0 a len cap b off U n hn none 0 0 0 W hw0 (H.out.below HB0.out H.out.lt) (fun h0 => ⟨by have := HLT.out h0; omega, by simp [blk]⟩) hal (by decide) (by omega)).mono ?_
        rintro e w1 ⟨rfl, ao1, cap1, hw1, hp1⟩
        have hb1 : Below w.heap.size w w1 := HB0.out.trans (pushed_below hp1 (Nat.le_refl _) (fun g hg => by simp [blk] at hg) HB0.out.size)
        have HB1 := hid hb1
        clear hw0 hp1 HB0 hb1
        go_wp2_with fail
        refine (rspan n _).mono ?_
        rintro e w' ⟨rfl, rfl⟩
        rw [hd0]
        go_wp2_with fail
        refine (rbelow_any w1 a len cap b off U (H.out.below HB1.out H.out.lt) n).mono ?_
        rintro e w' ⟨x, rfl, rfl, hx⟩
        obtain rfl : x = true := hx.2 hal
        clear hx
        go_wp2_with fail
        refine (rcodes_any w1 a len cap b off U (H.out.below HB1.out H.out.lt) n (by omega)).mono ?_
        rintro e w2 ⟨lo, lcap, rfl, hnw⟩
        have hlst : Lst w2 w.heap.size lo lcap (cds U n 0 0 len).1 (cds U n 0 0 len).2 := Lst.base_le hnw.lst HB1.out.size
        have hs : Dw w w2 (.slice lo (cds U n 0 0 len).2 lcap) (cds U n 0 0 len) (cds U n 0 0 len) := ⟨ao1, cap1, lo, lcap, rfl, WrN.upto hw1 hnw.below, hlst, HB1.out.trans (hnw.below.mono HB1.out.size)⟩
        have hcl := (cds_le U n 0 0 len).2
        have HTO := hid fun wr (h : Dw w wr (.slice lo (cds U n 0 0 len).2 lcap) (cds U n 0 0 len) (cds U n 0 0 len)) => by
          have ht := dtotal h a len cap b off U H.out (by omega) n
          rw [← cds_tot U n len] at ht
          exact ht
        clear hw1 HB1 hnw hlst
        generalize cds U n 0 0 len = cj at *
        go_wp2_with fail
        have hs6 := hs.drew
        clear hs
        go_region_with (first
          | (go_at_call 12; (with_reducible refine (dlen ‹Dw w _ _ _ _› (by first | omega | (simp only []; omega))).mono ?_); rintro e w5 ⟨rfl, hs5⟩)
          | (go_at_call 13; (with_reducible refine (HTO.out _ ‹Dw w _ _ _ _›).mono ?_); rintro e w4 ⟨rfl, hs4⟩)
          | (go_at_call 16; (with_reducible refine (dbytes ‹Dw w _ _ _ _› (by first | omega | (simp only []; omega))).mono ?_); rintro e w9 ⟨rfl, hs9, hr9, hb9⟩; have hc9 := hr9.conv)
          | (go_at_call 17; (with_reducible refine (dbytes_l ‹Dw w _ _ _ _› (by first | omega | (simp only []; omega))).mono ?_); rintro e w8 ⟨g8, rfl, hs8, hr8, hb8⟩; have hc8 := hr8.conv; have hc7 := (hr9.upto hb8).conv)
          | (go_at_call 9; (with_reducible refine (dknown ‹Dw w _ _ _ _›).mono ?_); rintro e w2 ⟨rfl, hs2⟩))
        all_goals
          have hfin := hs2.below
          clear hc9 hc8 hc7 hr9 hr8 hb9 hb8 hs9 hs8 hs6 hs5 hs4 hs2
          go_wp2_with fail
          go_ret
          exact ⟨rfl, hfin⟩
      · refine (putall_range _ a len cap b off U n hn W (H.out.below HB0.out H.out.lt) hal).mono ?_
        rintro e w1 ⟨rfl, b1⟩
        have hw1 := WrN.upto hw0 b1
        have HB1 := hid (HB0.out.trans (b1.mono HB0.out.size))
        have HCT := hid (cds_tot U n len)
        clear hw0 b1 HB0
        go_wp2_with fail
        refine (rspan n _).mono ?_
        rintro e w' ⟨rfl, rfl⟩
        rw [hd0]
        go_wp2_with fail
        refine (rbelow_any w1 a len cap b off U (H.out.below HB1.out H.out.lt) n).mono ?_
        rintro e w' ⟨x, rfl, rfl, hx⟩
        obtain rfl : x = false := by
          cases x with
          | false => rfl
          | true => exact absurd (hx.1 rfl) hal
        clear hx
        go_wp2_with fail
        refine (len_any hw1 (by decide)).mono ?_
        rintro e w2 ⟨rfl, nq, rfl⟩
        have HB2 : Hid (Below w.heap.size w (w1.drewN nq)) := hid (HB1.out.trans ⟨rfl, rfl, rfl, Nat.le_refl _, fun _ _ => rfl⟩)
        clear hw1 HB1
        generalize w1.drewN nq = w2 at *
        go_wp2_with fail
        refine (total_any w2 a len cap b off U (H.out.below HB2.out H.out.lt) (by omega) n).mono ?_
        rintro e w3 ⟨rfl, b3⟩
        have HB3 := hid (HB2.out.trans (b3.mono HB2.out.size))
        rw [← HCT.out]
        clear b3 HB2 HCT
        go_wp2_with fail
        refine (rcodes_any w3 a len cap b off U (H.out.below HB3.out H.out.lt) n (by omega)).mono ?_
        rintro e w4 ⟨lo, lcap, rfl, hnw⟩
        have HB4 := hid (HB3.out.trans (hnw.below.mono HB3.out.size))
        clear hnw HB3
        go_wp2_with fail
        refine (known_true _).mono ?_
        rintro e w6 ⟨rfl, hb6⟩
        have hfin := HB4.out.trans (hb6.mono HB4.out.size)
        clear hb6
        go_wp2_with fail
        go_ret
        exact ⟨rfl, hfin⟩
    · have hd0 := decide_eq_false hn
      refine (putall_arg _ _ n hn W).mono ?_
      rintro e w1 ⟨rfl, b1⟩
      have hw1 := WrN.upto hw0 b1
      have HB1 := hid (HB0.out.trans (b1.mono HB0.out.size))
      have HCT := hid (tot_no U hn len)
      clear hw0 b1 HB0
      go_wp2_with fail
      refine (rspan n _).mono ?_
      rintro e w' ⟨rfl, rfl⟩
      rw [hd0]
      go_wp2_with fail
      refine (len_any hw1 (by decide)).mono ?_
      rintro e w2 ⟨rfl, nq, rfl⟩
      have HB2 : Hid (Below w.heap.size w (w1.drewN nq)) := hid (HB1.out.trans ⟨rfl, rfl, rfl, Nat.le_refl _, fun _ _ => rfl⟩)
      clear hw1 HB1
      generalize w1.drewN nq = w2 at *
      go_wp2_with fail
      refine (total_any w2 a len cap b off U (H.out.below HB2.out H.out.lt) (by omega) n).mono ?_
      rintro e w3 ⟨rfl, b3⟩
      have HB3 := hid (HB2.out.trans (b3.mono HB2.out.size))
      rw [HCT.out]
      clear b3 HB2 HCT
      go_wp2_with fail
      refine (known_true _).mono ?_
      rintro e w6 ⟨rfl, hb6⟩
      have hfin := HB3.out.trans (hb6.mono HB3.out.size)
      clear hb6
      go_wp2_with fail
      go_ret
      exact ⟨rfl, hfin⟩
end Go.Proofs.Ytfpmdfbggifjiaa.Even
