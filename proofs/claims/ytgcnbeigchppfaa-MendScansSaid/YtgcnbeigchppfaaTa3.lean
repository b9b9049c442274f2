/- The taker's signed numbers, bytes, texts, and whether bytes are these. Conditions: fewer than 2^40 bytes. -/
import Derived.Test.YtgcnbeigchppfaaTa2
namespace Go.Proofs.Ytgcnbeigchppfaa.Fld
open Go.RowKit Gen

/-- The signed number of a field's bytes. -/
def sgn (t : List Nat) : Int := if 2 ^ (8 * t.length - 1) ≤ lev t then (lev t : Int) - 2 ^ (8 * t.length) else lev t

set_option maxRecDepth 100000 in
theorem nx_len (s : TS) (n : Int) (f : Bool) : (nx s n f).1 = [] ∨ ((nx s n f).1.length = n.toNat ∧ 0 ≤ n) := by
  unfold nx
  split
  · exact .inl rfl
  · split
    · exact .inl rfl
    · split
      · exact .inl rfl
      · exact .inr ⟨by rw [List.length_take]; omega, by omega⟩
set_option maxRecDepth 100000 in
theorem TkS.blt {w : World} {q : Nat} {s : TS} (h : TkS w q s) (n : Int) (f : Bool) : ∀ b ∈ (nx s n f).1, b < 256 := by
  obtain ⟨a, cap, ht, _, _⟩ := h
  unfold nx
  split
  · intro b hb; cases hb
  · split
    · intro b hb; cases hb
    · split
      · intro b hb; cases hb
      · exact fun b hb => ht.bytes.lt b (List.mem_of_mem_take hb)
set_option maxRecDepth 100000 in
theorem nx_bad1 {w : World} {q : Nat} {s : TS} (h : TkS w q s) {n : Int} (hn : n < 1 ∨ 8 < n) : (nx s n true).1 = [] := by
  obtain ⟨a, cap, ht, _, _⟩ := h
  rw [nx_bad ht hn]
set_option maxRecDepth 100000 in
theorem sgn_shift (t : List Nat) (k : Nat) (h1 : 1 ≤ k) (h8 : k ≤ 8) (ht : ∀ b ∈ t, b < 256) (hl : t = [] ∨ t.length = k) :
    wrap64 (IntKind.u64.wrap ((lev t : Int) * 2 ^ (64 - 8 * k))) / 2 ^ (64 - 8 * k) = sgn t := by
  rcases hl with rfl | hl
  · simp only [lev, sgn, List.length_nil]
    rw [show ((0 : Nat) : Int) * 2 ^ (64 - 8 * k) = 0 from by simp]
    rw [show wrap64 (IntKind.u64.wrap 0) = 0 from by unfold wrap64; simp [IntKind.wrap, IntKind.bits, IntKind.signed]]
    simp
  · have hlt := lev_lt t ht
    unfold sgn
    rw [hl] at hlt ⊢
    generalize lev t = v at *
    have hk : k = 1 ∨ k = 2 ∨ k = 3 ∨ k = 4 ∨ k = 5 ∨ k = 6 ∨ k = 7 ∨ k = 8 := by omega
    rw [show IntKind.u64.wrap ((v : Int) * 2 ^ (64 - 8 * k)) = ((v : Int) * 2 ^ (64 - 8 * k)) % 18446744073709551616 from by simp [IntKind.wrap, IntKind.bits, IntKind.signed]]
    unfold wrap64
    rcases hk with rfl | rfl | rfl | rfl | rfl | rfl | rfl | rfl <;> simp only [Nat.reduceMul, Nat.reduceSub, Nat.reducePow, Int.reducePow] at hlt ⊢ <;> split <;> omega

set_option maxRecDepth 100000 in
theorem clone_nil (w : World) : Calls Try.prog 32 #[.slice none 0 0] w fun e w' => e = .returned (.slice none 0 0) ∧ w = w' := by
  have he := fun w => eql_nil w none 0 0
  go_enter Try.func32, Try.ntmps32
  go_wp2_with fail
  go_ret
  exact ⟨rfl, rfl⟩
set_option maxRecDepth 100000 in
theorem raw_nil (n : Int) (w : World) : Calls Try.prog 79 #[.pointer none, .int .i64 n] w fun e w' => e = .returned (.slice none 0 0) ∧ w = w' := by
  by_cases hn : n < 0
  · go_enter Try.func79, Try.ntmps79
    go_wp2_with fail
    refine (tfail_nil _ _).mono ?_
    rintro e w1 ⟨rfl, rfl⟩
    go_wp2_with fail
    go_ret
    exact ⟨rfl, rfl⟩
  · go_enter Try.func79, Try.ntmps79
    go_wp2_with fail
    refine (next_nil _ _).mono ?_
    rintro e w1 ⟨rfl, rfl⟩
    go_wp2_with fail
    refine (clone_nil _).mono ?_
    rintro e w1 ⟨rfl, rfl⟩
    go_wp2_with fail
    go_ret
    exact ⟨rfl, rfl⟩

set_option maxRecDepth 100000 in
theorem fr_below {w w' : World} {q : Nat} (h : Below w.heap.size w w') : Fr (fun b => b = q) w w' := ⟨h.os, h.tape, h.output, h.size, fun k hk _ => h.block k hk⟩

/-- What Raw leaves. -/
def RawPost (w : World) (q : Nat) (s : TS) (n : Int) (e : Ending) (w' : World) : Prop :=
  ∃ ao cap, e = .returned (.slice ao (nx s n false).1.length cap) ∧ Byts w' ao (nx s n false).1 ∧ TkS w' q (nx s n false).2 ∧ Fr (fun b => b = q) w w' ∧ ∀ b off, ao = some ⟨b, off, none⟩ → w.heap.size ≤ b

set_option maxRecDepth 100000 in
set_option maxHeartbeats 800000 in
theorem traw_any {w : World} {q : Nat} {s : TS} (h : TkS w q s) (n : Int) :
    Calls Try.prog 79 #[.pointer (some ⟨q, 0, none⟩), .int .i64 n] w (RawPost w q s n) := by
  obtain ⟨a, cap, ht, hc, hp⟩ := h
  by_cases hn : n < 0
  · have hnx := nx_neg ht hn
    have HX := hid hnx
    clear hnx
    go_enter Try.func79, Try.ntmps79
    go_wp2_with fail
    refine (tfail_any ht 1).mono ?_
    rintro e w1 ⟨rfl, ht1, hf1⟩
    have HH := hid (And.intro ht1 hf1)
    clear ht1 hf1 ht
    go_wp2_with fail
    go_ret
    unfold RawPost
    rw [HX.out]
    exact ⟨none, 0, rfl, Byts.nil _ _, ⟨none, 0, HH.out.1, by omega, by show s.pos + 0 ≤ _; omega⟩, HH.out.2, (fun b off e => by cases e)⟩
  · obtain ⟨k, rfl⟩ : ∃ k : Nat, n = k := ⟨n.toNat, by omega⟩
    by_cases hl : (s.l.length : Int) < (k : Int)
    · have hnx := nx_end (f := false) ht (by omega) (fun e => by cases e) hl
      have HX := hid hnx
      clear hnx
      go_enter Try.func79, Try.ntmps79
      go_wp2_with fail
      refine (next_end ht k hl).mono ?_
      rintro e w1 ⟨rfl, ht1, hf1⟩
      have HH := hid (And.intro ht1 hf1)
      clear ht1 hf1 ht
      go_wp2_with fail
      refine (clone_nil _).mono ?_
      rintro e w2 ⟨rfl, rfl⟩
      go_wp2_with fail
      go_ret
      unfold RawPost
      rw [HX.out]
      exact ⟨none, 0, rfl, Byts.nil _ _, ⟨none, 0, HH.out.1, by omega, by show s.pos + 0 ≤ _; omega⟩, HH.out.2, (fun b off e => by cases e)⟩
    · have hnx : nx s (k : Int) false = (s.l.take k, ⟨s.F, s.l.drop k, s.pos + k⟩) := by
        by_cases hF : s.F = 0
        · rw [nx_ok hF (fun e => by cases e) (by omega), hF]
        · have hll := ht.err hF
          have hk0 : k = 0 := by rw [hll] at hl; simpa using hl
          subst hk0
          unfold nx
          rw [if_pos hF]
          rw [List.take_zero, List.drop_zero, Nat.add_zero]
      have HX := hid hnx
      have hkl : k ≤ s.l.length := by omega
      clear hnx
      go_enter Try.func79, Try.ntmps79
      go_wp2_with fail
      refine (next_ok ht k hkl hc (by omega)).mono ?_
      rintro e w1 ⟨rfl, ⟨a', cap', ht1, hcc⟩, hf1⟩
      have hb : Byts w1 a (s.l.take k) := (ht.bytes.take k).stay hf1 (fun b off e e2 => by
        obtain ⟨b', off', e1, e3, _⟩ := ht.spot _ e
        cases e1; exact Nat.ne_of_lt e3 e2)
      have hlen : (s.l.take k).length = k := by rw [List.length_take]; omega
      have hnn : a = none → (s.l.take k).length = 0 ∧ cap = 0 := fun e => by
        have h1 := hb.none_len e
        exact ⟨by rw [h1]; rfl, ht.none e⟩
      have HH := hid (And.intro ht1 hf1)
      have HB := hid hb
      have HN := hid hnn
      have HL := hid hlen
      clear ht1 hf1 hb ht hnn hlen
      go_wp2_with fail
      have hcl := clone_any (c := cap) HB.out HN.out (by rw [HL.out]; omega)
      rw [HL.out] at hcl
      refine hcl.mono ?_
      rintro e w2 ⟨ao, cap2, rfl, hown, hbel⟩
      have hby := Byts.of_row HB.out.lt hown
      have H2 := hid (And.intro hby hbel)
      have HLO := hid (show ∀ b off, ao = some ⟨b, off, none⟩ → w1.heap.size ≤ b from fun b off e => (hown.lt b (by rw [e]; rfl)).1)
      clear hown hbel hby hcl
      go_wp2_with fail
      go_ret
      unfold RawPost
      rw [HX.out]
      exact ⟨ao, cap2, by show _ = Ending.returned (.slice ao (s.l.take k).length cap2); rw [HL.out]; rfl, H2.out.1, TkS.below ⟨a', cap', HH.out.1, by omega, by show s.pos + k + (s.l.drop k).length ≤ _; rw [List.length_drop]; omega⟩ H2.out.2, HH.out.2.trans (fr_below H2.out.2), fun b off e => Nat.le_trans HH.out.2.size (HLO.out b off e)⟩
end Go.Proofs.Ytgcnbeigchppfaa.Fld
