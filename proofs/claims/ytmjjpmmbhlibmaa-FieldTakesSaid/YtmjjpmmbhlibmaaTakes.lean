/- The walk of FieldTakes: whatever is taken of any bytes, a taker answers, and stands, as the document says. Conditions: none beyond the form's own. -/
import Derived.Test.YtmjjpmmbhlibmaaAsks
import Derived.Test.YtmjjpmmbhlibmaaAns4
import Derived.Deep.RegionWith
namespace Go.Proofs.Ytmjjpmmbhlibmaa.Fld
open Go.RowKit Gen

theorem ans_any {w0 w : World} {q r cap : Nat} {a : Option Addr} {L : List Nat} {s : TS} (hS : Src w0 a cap L) (ht : TkS w q s) (hr : RtS w r a cap L s) (hb : Below w0.heap.size w0 w) (hq : w0.heap.size ≤ q) (hqr : q < r) (K N : Int) (S : ByteArray) (hT : S.size ≤ 300) :
    Calls Try.prog 14 #[.pointer (some ⟨q, 0, none⟩), .pointer (some ⟨r, 0, none⟩), .agg #[.int .i64 K, .int .i64 N, .string S]] w (AnsP w0 q r a cap L (ask s K N S)) := by
  by_cases h0 : K = 0
  · subst h0; exact ans_0 hS ht hr hb hq hqr N S
  by_cases h1 : K = 1
  · subst h1; exact ans_1 hS ht hr hb hq hqr N S
  by_cases h2 : K = 2
  · subst h2; exact ans_2 hS ht hr hb hq hqr N S
  by_cases h3 : K = 3
  · subst h3; exact ans_3 hS ht hr hb hq hqr N S
  by_cases h4 : K = 4
  · subst h4; exact ans_4 hS ht hr hb hq hqr N S hT
  · exact ans_x ht hr hb hq hqr K N S h0 h1 h2 h3 h4

/-- Questions in memory. -/
structure Asks (w : World) (a : Option Addr) (len : Nat) (K N : Nat → Int) (S : Nat → ByteArray) : Prop where
  at_ : ∀ j, j < len → ∃ b off, a = some ⟨b, off, none⟩ ∧ w.cell? ⟨b, off + j * 3, none⟩ = some (.int .i64 (K j)) ∧ w.cell? ⟨b, off + j * 3 + 1, none⟩ = some (.int .i64 (N j)) ∧ w.cell? ⟨b, off + j * 3 + 2, none⟩ = some (.string (S j))
theorem Asks.keep {w w' : World} {a : Option Addr} {len : Nat} {K N : Nat → Int} {S : Nat → ByteArray} (h : Asks w a len K N S) (e : Below w.heap.size w w') : Asks w' a len K N S :=
  ⟨fun j hj => by
    obtain ⟨b, off, ha, h0, h1, h2⟩ := h.at_ j hj
    have hl := World.block_lt_of_cell? w _ h0
    exact ⟨b, off, ha, (e.cell (p := ⟨b, off + j * 3, none⟩) hl).trans h0, (e.cell (p := ⟨b, off + j * 3 + 1, none⟩) hl).trans h1, (e.cell (p := ⟨b, off + j * 3 + 2, none⟩) hl).trans h2⟩⟩

/-- Both takers behind some questions. -/
def Both (w wr : World) (q r : Nat) (a : Option Addr) (cap : Nat) (L : List Nat) (s : TS) : Prop := TkS wr q s ∧ RtS wr r a cap L s ∧ Below w.heap.size w wr

theorem new_taker {w w1 : World} {q cap : Nat} {a : Option Addr} {L : List Nat} (hb : Below w.heap.size w w1) (ht : TkS w1 q ⟨0, L, 0⟩) :
    Both w (w1.alloc (.cells #[.slice a L.length cap, .int .i64 0, .int .i64 0] 44)) q w1.heap.size a cap L ⟨0, L, 0⟩ := by
  have hb1 := bel_alloc w1 (.cells #[.slice a L.length cap, .int .i64 0, .int .i64 0] 44)
  refine ⟨ht.below hb1, ⟨⟨?_, ?_, ?_, ?_, ?_, Nat.zero_le _⟩, rfl⟩, hb.trans (hb1.mono hb.size)⟩
  · simp
  · simp
  · simp
  · simp
  · simp

set_option maxHeartbeats 16000000 in
set_option maxRecDepth 100000 in
theorem takes_yes {w : World} {a la : Option Addr} {cap ll lcap : Nat} {L : List Nat} {K N : Nat → Int} {S : Nat → ByteArray} (hS : Src w a cap L) (hA : Asks w la ll K N S) (hL : L.length ≤ 500) (hl : ll ≤ 60) :
    Calls Try.prog 4 #[.slice a L.length cap, .slice la ll lcap] w fun e w' => e = .returned (.bool true) ∧ Below w.heap.size w w' := by
  have HS := hid hS
  have HA := hid hA
  clear hS hA
  go_enter Try.func4, Try.ntmps4
  go_wp2_with fail
  refine (take_any HS.out.bytes (fun e => by have h1 := HS.out.nil e; have h2 := HS.out.room; omega) (by omega)).mono ?_
  rintro e w1 ⟨q, rfl, hq, ht, hbel⟩
  have hqr := ht.lt
  have hst := hid (new_taker (a := a) (cap := cap) hbel ht)
  clear ht hbel
  go_wp2_with fail
  generalize w1.alloc (.cells #[.slice a L.length cap, .int .i64 0, .int .i64 0] 44) = W at *
  generalize w1.heap.size = r at *
  go_loopw [7] (fun i wr => ∃ (k : Nat) (s : TS), k ≤ ll ∧ i = .int .i64 k ∧ Both w wr q r a cap L s) (fun i _ => ll - (intOf i).toNat)
  case atStart => exact ⟨0, ⟨0, L, 0⟩, Nat.zero_le _, rfl, hst.out⟩
  case round =>
    obtain ⟨k, s, hk, rfl, hm⟩ := hrel
    have HM := hid hm
    clear hm hst
    by_cases hlt : k < ll
    · obtain ⟨b, off, rfl, h0, h1, h2⟩ := (HA.out.keep HM.out.2.2).at_ k hlt
      have hlt1 : (k : Int) < (ll : Int) := by omega
      by_cases hs : 300 < (S k).size
      · have hs1 : (300 : Int) < ((S k).size : Int) := by omega
        go_wp2_with fail
        refine (known_true _).mono ?_
        rintro e w3 ⟨rfl, hb3⟩
        have HB3 := hid (HM.out.2.2.trans (hb3.mono HM.out.2.2.size))
        clear hb3
        go_wp2_with fail
        go_ret
        exact ⟨rfl, HB3.out⟩
      · have hs1 : ¬ (300 : Int) < ((S k).size : Int) := by omega
        have hs2 : (S k).size ≤ 300 := by omega
        have HN := hid (And.intro hs2 (And.intro hq hqr))
        clear hs hs2 hq hqr
        go_wp2_with fail
        have hdr := hid (show Both w wr.drew q r a cap L s from ⟨HM.out.1.below ⟨rfl, rfl, rfl, Nat.le_refl _, fun _ _ => rfl⟩, HM.out.2.1.drewN 1, HM.out.2.2.trans ⟨rfl, rfl, rfl, Nat.le_refl _, fun _ _ => rfl⟩⟩)
        obtain ⟨ht0, hr0, hb0⟩ := hdr.out
        obtain ⟨hs2, hq1, hqr1⟩ := HN.out
        have HT := hid hr0
        clear HM hdr hr0 HN
        go_region_with (first
          | (go_at_call 14; (with_reducible refine (ans_any HS.out ht0 HT.out hb0 hq1 hqr1 (K k) (N k) (S k) hs2).mono ?_); rintro e w9 ⟨rfl, ht9, hr9, hb9⟩; have c1 := hr9.1.c1; have c2 := hr9.1.c2)
          | (go_at_call 15; (with_reducible refine (terr_any ht9).mono ?_); rintro e w8 ⟨rfl, rfl⟩)
          | (go_at_call 16; (with_reducible refine (tat_any ht9).mono ?_); rintro e w8 ⟨rfl, rfl⟩)
          | (go_at_call 17; (with_reducible refine (tleft_any ht9).mono ?_); rintro e w8 ⟨rfl, rfl⟩)
          | (go_at_call 18; (with_reducible refine (rleft_any hr9 HS.out.len).mono ?_); rintro e w8 ⟨rfl, m9, rfl⟩))
        all_goals
          go_wp2_with fail
          go_roundw
          case rel => exact ⟨k + 1, _, by omega, by go_num, ht9.drewN _, hr9.drewN _, hb9.trans ⟨rfl, rfl, rfl, Nat.le_refl _, fun _ _ => rfl⟩⟩
          case measure => simp [intOf]; omega
    · obtain rfl : k = ll := by omega
      go_wp2_with fail
      refine (known_true _).mono ?_
      rintro e w3 ⟨rfl, hb3⟩
      have HB3 := hid (HM.out.2.2.trans (hb3.mono HM.out.2.2.size))
      clear hb3
      go_wp2_with fail
      go_ret
      exact ⟨rfl, HB3.out⟩

theorem takes_walk {w : World} {a la : Option Addr} {len cap ll lcap : Nat} {L : List Nat} {K N : Nat → Int} {S : Nat → ByteArray} (hlen : L.length = len) (hS : len ≤ 500 → Src w a cap L) (hA : Asks w la ll K N S) (hm : len ≤ 9223372036854775807) (hm2 : ll ≤ 9223372036854775807) :
    Calls Try.prog 4 #[.slice a len cap, .slice la ll lcap] w fun e w' => e = .returned (.bool true) ∧ Below w.heap.size w w' := by
  by_cases h1 : len ≤ 500
  · by_cases h2 : ll ≤ 60
    · have := hS h1
      subst hlen
      exact takes_yes this hA h1 h2
    · have t1 : ¬ (500 : Int) < (len : Int) := by omega
      have t2 : (60 : Int) < (ll : Int) := by omega
      clear hS hA h1 h2 hlen
      go_enter Try.func4, Try.ntmps4
      go_wp2_with fail
      refine (known_true _).mono ?_
      rintro e w3 ⟨rfl, hb3⟩
      have HB3 := hid hb3
      clear hb3
      go_wp2_with fail
      go_ret
      exact ⟨rfl, HB3.out⟩
  · have t1 : (500 : Int) < (len : Int) := by omega
    clear hS hA h1 hlen
    go_enter Try.func4, Try.ntmps4
    go_wp2_with fail
    refine (known_true _).mono ?_
    rintro e w3 ⟨rfl, hb3⟩
    have HB3 := hid hb3
    clear hb3
    go_wp2_with fail
    go_ret
    exact ⟨rfl, HB3.out⟩
end Go.Proofs.Ytmjjpmmbhlibmaa.Fld
