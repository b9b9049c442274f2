/- The taker's texts, and whether bytes are these; a taker of bytes. Conditions: fewer than 2^40 bytes. -/
import Derived.Test.YtgcnbeigchppfaaTa3
namespace Go.Proofs.Ytgcnbeigchppfaa.Fld
open Go.RowKit Gen

/-- What taking n bytes leaves, for every n. -/
def NextP (w : World) (q : Nat) (s : TS) (n : Nat) (e : Ending) (w' : World) : Prop :=
  ∃ ao cap, e = .returned (.slice ao (nx s n false).1.length cap) ∧ Byts w' ao (nx s n false).1 ∧ TkS w' q (nx s n false).2 ∧ Fr (fun b => b = q) w w'
set_option maxRecDepth 100000 in
theorem tnext_any {w : World} {q : Nat} {s : TS} (h : TkS w q s) (n : Nat) :
    Calls Try.prog 85 #[.pointer (some ⟨q, 0, none⟩), .int .i64 (n : Int)] w (NextP w q s n) := by
  obtain ⟨a, cap, ht, hc, hp⟩ := h
  by_cases hl : (s.l.length : Int) < (n : Int)
  · refine (next_end ht n hl).mono ?_
    rintro e w1 ⟨rfl, ht1, hf1⟩
    unfold NextP
    rw [nx_end (f := false) ht (by omega) (fun e => by cases e) hl]
    exact ⟨none, 0, rfl, Byts.nil _ _, ⟨none, 0, ht1, by omega, by show s.pos + 0 ≤ _; omega⟩, hf1⟩
  · have hnx : nx s (n : Int) false = (s.l.take n, ⟨s.F, s.l.drop n, s.pos + n⟩) := by
      by_cases hF : s.F = 0
      · rw [nx_ok hF (fun e => by cases e) (by omega), hF]
      · have hll := ht.err hF
        have hk0 : n = 0 := by rw [hll] at hl; simpa using hl
        subst hk0
        unfold nx
        rw [if_pos hF]
        rw [List.take_zero, List.drop_zero, Nat.add_zero]
    have hkl : n ≤ s.l.length := by omega
    refine (next_ok ht n hkl hc (by omega)).mono ?_
    rintro e w1 ⟨rfl, ⟨a', cap', ht1, hcc⟩, hf1⟩
    have hb : Byts w1 a (s.l.take n) := (ht.bytes.take n).stay hf1 (fun b off e e2 => by
      obtain ⟨b', off', e1, e3, _⟩ := ht.spot _ e
      cases e1; exact Nat.ne_of_lt e3 e2)
    unfold NextP
    rw [hnx]
    exact ⟨a, cap, by show _ = Ending.returned (.slice a (s.l.take n).length cap); rw [List.length_take, Nat.min_eq_left hkl], hb, ⟨a', cap', ht1, by omega, by show s.pos + n + (s.l.drop n).length ≤ _; rw [List.length_drop]; omega⟩, hf1⟩

/-- Whether the next bytes are these. -/
def isB (s : TS) (m : List Nat) : Bool := decide ((nx s m.length false).2.F = 0) && decide ((nx s m.length false).1 = m)

/-- The next text, and the state behind it. -/
def tx (s : TS) (n : Int) : List Nat × TS :=
  if (nx s n true).2.l.length < lev (nx s n true).1 then ([], ⟨fst (nx s n true).2.F 10, [], s.pos⟩) else nx (nx s n true).2 (lev (nx s n true).1 : Nat) false

set_option maxRecDepth 100000 in
theorem nx_room {w : World} {q : Nat} {s : TS} (h : TkS w q s) : s.l.length ≤ 1099511627776 ∧ s.pos ≤ 1099511627776 := by
  obtain ⟨a, cap, ht, hc, hp⟩ := h
  omega
set_option maxRecDepth 100000 in
theorem lev_u64 {t : List Nat} (ht : ∀ b ∈ t, b < 256) (hl : t.length ≤ 8) : lev t < 18446744073709551616 := Nat.lt_of_lt_of_le (lev_lt t ht) (Nat.le_trans (Nat.pow_le_pow_right (by decide) (show 8 * t.length ≤ 64 by omega)) (by decide))
set_option maxRecDepth 100000 in
theorem nx_field {w : World} {q : Nat} {s : TS} (h : TkS w q s) (n : Int) : (nx s n true).1.length ≤ 8 := by
  by_cases hn : n < 1 ∨ 8 < n
  · rw [nx_bad1 h hn]; simp
  · rcases nx_len s n true with e | e
    · rw [e]; simp
    · omega

set_option maxRecDepth 100000 in
set_option maxHeartbeats 800000 in
theorem take_any {w : World} {a : Option Addr} {l : List Nat} {c : Nat} (hb : Byts w a l) (hn : a = none → l.length = 0 ∧ c = 0) (hlen : l.length ≤ 549755813888) :
    Calls Try.prog 74 #[.slice a l.length c] w fun e w' => ∃ q, e = .returned (.pointer (some ⟨q, 0, none⟩)) ∧ w.heap.size ≤ q ∧ TkS w' q ⟨0, l, 0⟩ ∧ Below w.heap.size w w' := by
  go_enter Try.func74, Try.ntmps74
  go_wp2_with fail
  refine (clone_any hb hn (by omega)).mono ?_
  rintro e w1 ⟨ao, cap, rfl, hown, hbel⟩
  have hby := Byts.of_row hb.lt hown
  have hsh : (ao = none → cap = 0) ∧ l.length ≤ cap ∧ cap ≤ maxLen ∧ ∀ ad, ao = some ad → ∃ b off, ad = ⟨b, off, none⟩ ∧ b < w1.heap.size := by
    obtain ⟨_, h⟩ := hown
    rcases h with ⟨hv, h1⟩ | ⟨g, cap2, cur, hv, _, h2, h3, h4, _⟩
    · injection hv with e1 e2 e3
      subst e1 e3
      exact ⟨(fun _ => rfl), by omega, by unfold maxLen; omega, (fun ad e => by cases e)⟩
    · injection hv with e1 e2 e3
      subst e1 e3
      exact ⟨(fun e => by cases e), h3, h4, (fun ad e => by cases e; exact ⟨g, 0, rfl, (Array.getElem?_eq_some_iff.1 h2).1⟩)⟩
  unfold maxLen at hsh
  have H := hid (And.intro hby (And.intro hsh hbel))
  clear hb hn hby hsh hbel hown
  go_wp2_with fail
  go_ret
  obtain ⟨hby, ⟨h1, h2, h3, h4⟩, hbel⟩ := H.out
  refine ⟨w1.heap.size, rfl, hbel.size, ⟨ao, cap, ⟨?_, ?_, ?_, ?_, ?_, ?_, ?_, ?_, h2, h1, fun e => absurd rfl e⟩, by omega, by show 0 + l.length ≤ _; omega⟩, hbel.alloc hbel.size _⟩
  · simp
  · simp
  · simp
  · simp
  · simp
  · simp
  · exact hby.keep ((Below.refl _ _).alloc (Nat.le_refl _) _)
  · intro ad e
    obtain ⟨b, off, e1, e2⟩ := h4 ad e
    exact ⟨b, off, e1, by omega, by simp; omega⟩

/-- A maker that was made since w. -/
def MkN (w : World) (s : Nat × List Nat) (w' : World) : Prop := ∃ ao cap, MkA w' w.heap.size w.heap.size ao cap s.1 s.2 ∧ Below w.heap.size w w'
set_option maxRecDepth 100000 in
theorem MkN.next {w w1 w2 : World} {s s' : Nat × List Nat} {ao : Option Addr} {cap : Nat} (h : MkA w1 w.heap.size w.heap.size ao cap s.1 s.2) (hb : Below w.heap.size w w1) (h2 : Aft w1 w.heap.size w.heap.size ao s' w2) : MkN w s' w2 := by
  obtain ⟨ao2, cap2, hm, hP⟩ := h2
  exact ⟨ao2, cap2, hm, hb.trans (hP.below (Nat.le_refl _) (fun g hg => (h.rlt g hg).1) hb.size)⟩

end Go.Proofs.Ytgcnbeigchppfaa.Fld
