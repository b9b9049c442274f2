/- The taker's texts, and whether bytes are these; a taker of bytes. Conditions: fewer than 2^40 bytes. -/
import Derived.Test.YtfkklmklbmdlhaaDoorTa3
namespace Go.Proofs.YtfkklmklbmdlhaaDoor.Fld
open Go.RowKit Gen

/-- What taking n bytes leaves, for every n. -/
def NextP (w : World) (q : Nat) (s : TS) (n : Nat) (e : Ending) (w' : World) : Prop :=
  ∃ ao cap, e = .returned (.slice ao (nx s n false).1.length cap) ∧ Byts w' ao (nx s n false).1 ∧ TkS w' q (nx s n false).2 ∧ Fr (fun b => b = q) w w'
theorem tnext_any {w : World} {q : Nat} {s : TS} (h : TkS w q s) (n : Nat) :
    Calls Tryd.prog 70 #[.pointer (some ⟨q, 0, none⟩), .int .i64 (n : Int)] w (NextP w q s n) := by
  obtain ⟨a, cap, ht, hc, hp⟩ := h
  by_cases hl : (s.l.length : Int) < (n : Int)
  · refine (next_end ht n hl).mono ?_
    rintro e w1 ⟨rfl, ht1, hf1⟩
    unfold NextP
    rw [nx_end (f := false) ht (by omega) (fun e => by cases e) hl]
    exact ⟨none, 0, rfl, Byts.nil _ _, ⟨none, 0, ht1, by omega, by show s.pos + 0 ≤ _; omega⟩, hf1⟩
  · have hnx : nx s (n : Int) false = (s.l.take n, ⟨s.F, s.l.drop n, s.pos + n⟩) := by
      by_cases hF : s.F = 0
      · rw [nx_ok hF (fun e => by cases e) (by omega), hF]
      · have hll := ht.err hF
        have hk0 : n = 0 := by rw [hll] at hl; simpa using hl
        subst hk0
        unfold nx
        rw [if_pos hF]
        rw [List.take_zero, List.drop_zero, Nat.add_zero]
    have hkl : n ≤ s.l.length := by omega
    refine (next_ok ht n hkl hc (by omega)).mono ?_
    rintro e w1 ⟨rfl, ⟨a', cap', ht1, hcc⟩, hf1⟩
    have hb : Byts w1 a (s.l.take n) := (ht.bytes.take n).stay hf1 (fun b off e e2 => by
      obtain ⟨b', off', e1, e3, _⟩ := ht.spot _ e
      cases e1; exact Nat.ne_of_lt e3 e2)
    unfold NextP
    rw [hnx]
    exact ⟨a, cap, by show _ = Ending.returned (.slice a (s.l.take n).length cap); rw [List.length_take, Nat.min_eq_left hkl], hb, ⟨a', cap', ht1, by omega, by show s.pos + n + (s.l.drop n).length ≤ _; rw [List.length_drop]; omega⟩, hf1⟩

/-- Whether the next bytes are these. -/
def isB (s : TS) (m : List Nat) : Bool := decide ((nx s m.length false).2.F = 0) && decide ((nx s m.length false).1 = m)

/-- The next text, and the state behind it. -/
def tx (s : TS) (n : Int) : List Nat × TS :=
  if (nx s n true).2.l.length < lev (nx s n true).1 then ([], ⟨fst (nx s n true).2.F 10, [], s.pos⟩) else nx (nx s n true).2 (lev (nx s n true).1 : Nat) false

theorem ttext_nil (n : Int) (w : World) : Calls Tryd.prog 68 #[.pointer none, .int .i64 n] w fun e w' => e = .returned (.string (tos [])) ∧ w = w' := by
  have hcv := (Byts.nil w none).conv 0
  rw [show ([] : List Nat).length = 0 from rfl] at hcv
  go_enter Tryd.func68, Tryd.ntmps68
  go_wp2_with fail
  refine (tat_nil _).mono ?_
  rintro e w1 ⟨rfl, rfl⟩
  go_wp2_with fail
  refine (tku_nil n _).mono ?_
  rintro e w1 ⟨rfl, rfl⟩
  go_wp2_with fail
  refine (tleft_nil _).mono ?_
  rintro e w1 ⟨rfl, rfl⟩
  go_wp2_with fail
  refine (next_nil _ _).mono ?_
  rintro e w1 ⟨rfl, rfl⟩
  go_wp2_with fail
  go_ret
  exact ⟨rfl, rfl⟩

theorem nx_room {w : World} {q : Nat} {s : TS} (h : TkS w q s) : s.l.length ≤ 1099511627776 ∧ s.pos ≤ 1099511627776 := by
  obtain ⟨a, cap, ht, hc, hp⟩ := h
  omega
theorem lev_u64 {t : List Nat} (ht : ∀ b ∈ t, b < 256) (hl : t.length ≤ 8) : lev t < 18446744073709551616 := Nat.lt_of_lt_of_le (lev_lt t ht) (Nat.le_trans (Nat.pow_le_pow_right (by decide) (show 8 * t.length ≤ 64 by omega)) (by decide))
theorem nx_field {w : World} {q : Nat} {s : TS} (h : TkS w q s) (n : Int) : (nx s n true).1.length ≤ 8 := by
  by_cases hn : n < 1 ∨ 8 < n
  · rw [nx_bad1 h hn]; simp
  · rcases nx_len s n true with e | e
    · rw [e]; simp
    · omega

set_option maxHeartbeats 800000 in
theorem ttext_any {w : World} {q : Nat} {s : TS} (h : TkS w q s) (n : Int) :
    Calls Tryd.prog 68 #[.pointer (some ⟨q, 0, none⟩), .int .i64 n] w (Took w q (tx s n).2 (.string (tos (tx s n).1))) := by
  have hv := lev_u64 (h.blt n true) (nx_field h n)
  have hp := (nx_room h).2
  go_enter Tryd.func68, Tryd.ntmps68
  go_wp2_with fail
  refine (tat_any h).mono ?_
  rintro e w1 ⟨rfl, rfl⟩
  go_wp2_with fail
  refine (tku_any h n).mono ?_
  rintro e w1 ⟨rfl, ht1, hf1⟩
  have hr := (nx_room ht1).1
  have HH := hid (And.intro ht1 hf1)
  clear ht1 hf1 h
  go_wp2_with fail
  refine (tleft_any HH.out.1).mono ?_
  rintro e w2 ⟨rfl, rfl⟩
  by_cases hlt : (nx s n true).2.l.length < lev (nx s n true).1
  · have HX := hid (show tx s n = ([], ⟨fst (nx s n true).2.F 10, [], s.pos⟩) by unfold tx; rw [if_pos hlt])
    have hlt1 : ((nx s n true).2.l.length : Int) < (lev (nx s n true).1 : Int) := by omega
    generalize lev (nx s n true).1 = v at *
    generalize (nx s n true).2 = s1 at *
    obtain ⟨a, cap, ht2, hc, _⟩ := HH.out.1
    go_wp2_with fail
    refine (tfail_any ht2 10).mono ?_
    rintro e w2 ⟨rfl, ht3, hf3⟩
    have c2 := ht3.c2
    have f2 := ht3.f2
    have H3 := hid (And.intro ht3 hf3)
    clear ht3 hf3 ht2
    go_wp2_with fail
    go_ret
    unfold Took
    rw [HX.out]
    exact ⟨rfl, ⟨none, 0, H3.out.1.setPos s.pos, by omega, by show s.pos + 0 ≤ _; omega⟩, (HH.out.2.trans H3.out.2).trans (frq 2 _)⟩
  · have HX := hid (show tx s n = nx (nx s n true).2 (lev (nx s n true).1 : Nat) false by unfold tx; rw [if_neg hlt])
    have hlt1 : ¬ ((nx s n true).2.l.length : Int) < (lev (nx s n true).1 : Int) := by omega
    generalize lev (nx s n true).1 = v at *
    generalize (nx s n true).2 = s1 at *
    have hv2 : (v : Int) ≤ 9223372036854775807 := by omega
    go_wp2_with fail
    refine (tnext_any HH.out.1 v).mono ?_
    rintro e w2 ⟨ao, cap, rfl, hb1, ht2, hf2⟩
    have hcv := hb1.conv cap
    have H2 := hid (And.intro ht2 hf2)
    clear ht2 hf2 hb1
    go_wp2_with fail
    go_ret
    unfold Took
    rw [HX.out]
    exact ⟨rfl, H2.out.1, HH.out.2.trans H2.out.2⟩

set_option maxHeartbeats 800000 in
theorem take_any {w : World} {a : Option Addr} {l : List Nat} {c : Nat} (hb : Byts w a l) (hn : a = none → l.length = 0 ∧ c = 0) (hlen : l.length ≤ 549755813888) :
    Calls Tryd.prog 47 #[.slice a l.length c] w fun e w' => ∃ q, e = .returned (.pointer (some ⟨q, 0, none⟩)) ∧ w.heap.size ≤ q ∧ TkS w' q ⟨0, l, 0⟩ ∧ Below w.heap.size w w' := by
  go_enter Tryd.func47, Tryd.ntmps47
  go_wp2_with fail
  refine (clone_any hb hn (by omega)).mono ?_
  rintro e w1 ⟨ao, cap, rfl, hown, hbel⟩
  have hby := Byts.of_row hb.lt hown
  have hsh : (ao = none → cap = 0) ∧ l.length ≤ cap ∧ cap ≤ maxLen ∧ ∀ ad, ao = some ad → ∃ b off, ad = ⟨b, off, none⟩ ∧ b < w1.heap.size := by
    obtain ⟨_, h⟩ := hown
    rcases h with ⟨hv, h1⟩ | ⟨g, cap2, cur, hv, _, h2, h3, h4, _⟩
    · injection hv with e1 e2 e3
      subst e1 e3
      exact ⟨(fun _ => rfl), by omega, by unfold maxLen; omega, (fun ad e => by cases e)⟩
    · injection hv with e1 e2 e3
      subst e1 e3
      exact ⟨(fun e => by cases e), h3, h4, (fun ad e => by cases e; exact ⟨g, 0, rfl, (Array.getElem?_eq_some_iff.1 h2).1⟩)⟩
  unfold maxLen at hsh
  have H := hid (And.intro hby (And.intro hsh hbel))
  clear hb hn hby hsh hbel hown
  go_wp2_with fail
  go_ret
  obtain ⟨hby, ⟨h1, h2, h3, h4⟩, hbel⟩ := H.out
  refine ⟨w1.heap.size, rfl, hbel.size, ⟨ao, cap, ⟨?_, ?_, ?_, ?_, ?_, ?_, ?_, ?_, h2, h1, fun e => absurd rfl e⟩, by omega, by show 0 + l.length ≤ _; omega⟩, hbel.alloc hbel.size _⟩
  · simp
  · simp
  · simp
  · simp
  · simp
  · simp
  · exact hby.keep ((Below.refl _ _).alloc (Nat.le_refl _) _)
  · intro ad e
    obtain ⟨b, off, e1, e2⟩ := h4 ad e
    exact ⟨b, off, e1, by omega, by simp; omega⟩

theorem new_maker (w : World) : MkA (w.alloc (.cells #[.int .i64 0, .slice none 0 0] 68)) w.heap.size w.heap.size none 0 0 [] := by
  refine ⟨?_, ?_, ?_, ?_, World.ownsRow_nil _ _ _ _, by simp [blk], Nat.le_refl _, (fun _ h => by cases h), (fun e => absurd rfl e)⟩
  · simp
  · simp
  · simp
  · simp
/-- A maker that was made since w. -/
def MkN (w : World) (s : Nat × List Nat) (w' : World) : Prop := ∃ ao cap, MkA w' w.heap.size w.heap.size ao cap s.1 s.2 ∧ Below w.heap.size w w'
theorem MkN.start (w : World) : MkN w (0, []) (w.alloc (.cells #[.int .i64 0, .slice none 0 0] 68)) := ⟨none, 0, new_maker w, (Below.refl _ _).alloc (Nat.le_refl _) _⟩
theorem MkN.next {w w1 w2 : World} {s s' : Nat × List Nat} {ao : Option Addr} {cap : Nat} (h : MkA w1 w.heap.size w.heap.size ao cap s.1 s.2) (hb : Below w.heap.size w w1) (h2 : Aft w1 w.heap.size w.heap.size ao s' w2) : MkN w s' w2 := by
  obtain ⟨ao2, cap2, hm, hP⟩ := h2
  exact ⟨ao2, cap2, hm, hb.trans (hP.below (Nat.le_refl _) (fun g hg => (h.rlt g hg).1) hb.size)⟩

end Go.Proofs.YtfkklmklbmdlhaaDoor.Fld
