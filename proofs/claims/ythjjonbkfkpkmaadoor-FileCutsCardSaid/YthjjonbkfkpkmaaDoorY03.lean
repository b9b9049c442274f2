/- The taker's numbers: what is taken, and where the taker stands. Conditions: fewer than 2^40 bytes. -/
import Derived.Test.YthjjonbkfkpkmaaDoorY02
import Derived.Laws.Bits64
import Derived.Laws.Bits64b
namespace Go.Proofs.YthjjonbkfkpkmaaDoor.Fld
open Go.RowKit Gen

/-- A taker's state: its first error, what is left, how many were taken. -/
structure TS where
  F : Nat
  l : List Nat
  pos : Nat
/-- A taker in such a state. -/
def TkS (w : World) (q : Nat) (s : TS) : Prop := ∃ a cap, TkA w q a cap s.F s.l s.pos ∧ cap ≤ 9223372036854775807 ∧ s.pos + s.l.length ≤ 1099511627776
/-- The next n bytes, and the state behind them. -/
def nx (s : TS) (n : Int) (field : Bool) : List Nat × TS :=
  if s.F ≠ 0 then ([], s) else if n < 0 ∨ (field = true ∧ (n < 1 ∨ 8 < n)) then ([], ⟨1, [], s.pos⟩) else if (s.l.length : Int) < n then ([], ⟨10, [], s.pos⟩) else (s.l.take n.toNat, ⟨0, s.l.drop n.toNat, s.pos + n.toNat⟩)
set_option maxRecDepth 100000 in
theorem TkS.below {w w' : World} {q : Nat} {s : TS} (h : TkS w q s) (hb : Below w.heap.size w w') : TkS w' q s := by
  obtain ⟨a, cap, ht, h1, h2⟩ := h
  exact ⟨a, cap, ht.below hb, h1, h2⟩
set_option maxRecDepth 100000 in
theorem TkS.lt {w : World} {q : Nat} {s : TS} (h : TkS w q s) : q < w.heap.size := by
  obtain ⟨a, cap, ht, h1, h2⟩ := h
  exact ht.lt
set_option maxRecDepth 100000 in
theorem ts_late {s : TS} {w : World} {q cap : Nat} {a : Option Addr} (h : TkA w q a cap s.F s.l s.pos) (hF : s.F ≠ 0) : s = ⟨s.F, [], s.pos⟩ := by
  have := h.err hF
  cases s; simp_all
set_option maxRecDepth 100000 in
theorem nx_bad {s : TS} {n : Int} {w : World} {q cap : Nat} {a : Option Addr} (h : TkA w q a cap s.F s.l s.pos) (hn : n < 1 ∨ 8 < n) : nx s n true = ([], ⟨fst s.F 1, [], s.pos⟩) := by
  unfold nx fst
  by_cases hF : s.F = 0
  · simp [hF, hn]
  · have := ts_late h hF
    simp only [hF, ne_eq, not_false_eq_true, if_true, if_false]
    rw [← this]
set_option maxRecDepth 100000 in
theorem nx_neg {s : TS} {n : Int} {w : World} {q cap : Nat} {a : Option Addr} (h : TkA w q a cap s.F s.l s.pos) (hn : n < 0) : nx s n false = ([], ⟨fst s.F 1, [], s.pos⟩) := by
  unfold nx fst
  by_cases hF : s.F = 0
  · simp [hF, hn]
  · have := ts_late h hF
    simp only [hF, ne_eq, not_false_eq_true, if_true, if_false]
    rw [← this]
set_option maxRecDepth 100000 in
theorem nx_end {s : TS} {n : Int} {f : Bool} {w : World} {q cap : Nat} {a : Option Addr} (h : TkA w q a cap s.F s.l s.pos) (hn : 0 ≤ n) (hg : f = true → 1 ≤ n ∧ n ≤ 8) (hl : (s.l.length : Int) < n) : nx s n f = ([], ⟨fst s.F 10, [], s.pos⟩) := by
  unfold nx fst
  by_cases hF : s.F = 0
  · have h2 : ¬ (n < 0 ∨ (f = true ∧ (n < 1 ∨ 8 < n))) := by
      rintro (h | ⟨hf, h⟩)
      · omega
      · have := hg hf; omega
    simp only [hF, ne_eq, not_true_eq_false, if_false, if_true, h2, hl]
  · have := ts_late h hF
    simp only [hF, ne_eq, not_false_eq_true, if_true, if_false]
    rw [← this]
set_option maxRecDepth 100000 in
theorem nx_ok {s : TS} {k : Nat} {f : Bool} (hF : s.F = 0) (hg : f = true → 1 ≤ k ∧ k ≤ 8) (hl : k ≤ s.l.length) : nx s (k : Int) f = (s.l.take k, ⟨0, s.l.drop k, s.pos + k⟩) := by
  have h2 : ¬ ((k : Int) < 0 ∨ (f = true ∧ ((k : Int) < 1 ∨ 8 < (k : Int)))) := by
    rintro (h | ⟨hf, h⟩)
    · omega
    · have := hg hf; omega
  have h3 : ¬ (s.l.length : Int) < (k : Int) := by omega
  unfold nx
  simp only [hF, ne_eq, not_true_eq_false, if_false, h2, h3, Int.toNat_natCast]

set_option maxRecDepth 100000 in
theorem terr_nil (w : World) : Calls Tryd.prog 48 #[.pointer none] w fun e w' => e = .returned (.int .i64 2) ∧ w = w' := by
  go_enter Tryd.func48, Tryd.ntmps48
  go_wp2_with fail
  go_ret
  exact ⟨rfl, rfl⟩
set_option maxRecDepth 100000 in
theorem terr_any {w : World} {q : Nat} {s : TS} (h : TkS w q s) : Calls Tryd.prog 48 #[.pointer (some ⟨q, 0, none⟩)] w fun e w' => e = .returned (.int .i64 (s.F : Int)) ∧ w = w' := by
  obtain ⟨a, cap, ht, _, _⟩ := h
  have c0 := ht.c0
  go_enter Tryd.func48, Tryd.ntmps48
  go_wp2_with fail
  go_ret
  exact ⟨rfl, rfl⟩
set_option maxRecDepth 100000 in
theorem tat_nil (w : World) : Calls Tryd.prog 44 #[.pointer none] w fun e w' => e = .returned (.int .i64 0) ∧ w = w' := by
  go_enter Tryd.func44, Tryd.ntmps44
  go_wp2_with fail
  go_ret
  exact ⟨rfl, rfl⟩
set_option maxRecDepth 100000 in
theorem tat_any {w : World} {q : Nat} {s : TS} (h : TkS w q s) : Calls Tryd.prog 44 #[.pointer (some ⟨q, 0, none⟩)] w fun e w' => e = .returned (.int .i64 (s.pos : Int)) ∧ w = w' := by
  obtain ⟨a, cap, ht, _, _⟩ := h
  have c2 := ht.c2
  go_enter Tryd.func44, Tryd.ntmps44
  go_wp2_with fail
  go_ret
  exact ⟨rfl, rfl⟩
set_option maxRecDepth 100000 in
theorem tleft_nil (w : World) : Calls Tryd.prog 95 #[.pointer none] w fun e w' => e = .returned (.int .i64 0) ∧ w = w' := by
  go_enter Tryd.func95, Tryd.ntmps95
  go_wp2_with fail
  go_ret
  exact ⟨rfl, rfl⟩
set_option maxRecDepth 100000 in
theorem tleft_any {w : World} {q : Nat} {s : TS} (h : TkS w q s) : Calls Tryd.prog 95 #[.pointer (some ⟨q, 0, none⟩)] w fun e w' => e = .returned (.int .i64 (s.l.length : Int)) ∧ w = w' := by
  obtain ⟨a, cap, ht, _, _⟩ := h
  have c1 := ht.c1
  go_enter Tryd.func95, Tryd.ntmps95
  go_wp2_with fail
  go_ret
  exact ⟨rfl, rfl⟩

/-- What a call that takes leaves. -/
def Took (w : World) (q : Nat) (s' : TS) (v : Value) (e : Ending) (w' : World) : Prop := e = .returned v ∧ TkS w' q s' ∧ Fr (fun b => b = q) w w'

set_option maxRecDepth 100000 in
theorem lev_step (l : List Nat) (j x : Nat) (hx : l[j]? = some x) : lev (l.take (j + 1)) = lev (l.take j) + 2 ^ (8 * j) * x := by
  have hjl : j < l.length := (List.getElem?_eq_some_iff.1 hx).1
  have hxe : l[j] = x := (List.getElem?_eq_some_iff.1 hx).2
  rw [List.take_succ_eq_append_getElem hjl, lev_app, hxe, List.length_take, Nat.min_eq_left (by omega)]
  simp [lev]
set_option maxRecDepth 100000 in
theorem or_shift (l : List Nat) (j x : Nat) (hj : l.length = j) (hl : ∀ b ∈ l, b < 256) (hx : x < 256) (hj8 : j ≤ 7) :
    bits .or .u64 (lev l : Int) (IntKind.u64.wrap ((x : Int) * 2 ^ (8 * j))) = ((lev l + 2 ^ (8 * j) * x : Nat) : Int) := by
  have h1 := lev_lt l hl
  rw [hj] at h1
  have hp : 2 ^ (8 * j) ≤ 2 ^ 56 := Nat.pow_le_pow_right (by decide) (by omega)
  have hm : 2 ^ (8 * j) * x ≤ 2 ^ 56 * 255 := Nat.mul_le_mul hp (by omega)
  have e1 : ((x : Int) * 2 ^ (8 * j)) = ((2 ^ (8 * j) * x : Nat) : Int) := by push_cast; exact Int.mul_comm _ _
  rw [e1, IntWalk.u64_in _ ⟨Int.natCast_nonneg _, by omega⟩, bits_or_u64_nat _ _ (by omega) (by omega)]
  congr 1
  rw [Nat.or_comm, ← Nat.two_pow_add_eq_or_of_lt h1, Nat.add_comm]

set_option maxRecDepth 100000 in
theorem tku_nil (n : Int) (w : World) : Calls Tryd.prog 45 #[.pointer none, .int .i64 n] w fun e w' => e = .returned (.int .u64 0) ∧ w = w' := by
  by_cases hn : n < 1 ∨ 8 < n
  · go_enter Tryd.func45, Tryd.ntmps45
    go_wp2_with fail
    refine (width_no n hn _).mono ?_
    rintro e w1 ⟨rfl, rfl⟩
    go_wp2_with fail
    refine (tfail_nil _ _).mono ?_
    rintro e w1 ⟨rfl, rfl⟩
    go_wp2_with fail
    go_ret
    exact ⟨rfl, rfl⟩
  · go_enter Tryd.func45, Tryd.ntmps45
    go_wp2_with fail
    refine (width_yes n (by omega) (by omega) _).mono ?_
    rintro e w1 ⟨rfl, rfl⟩
    go_wp2_with fail
    refine (next_nil _ _).mono ?_
    rintro e w1 ⟨rfl, rfl⟩
    go_wp2_with fail
    refine wp_loop_rounds 1 ?_
    rw [rounds_succ]
    go_wp2_with fail
    go_ret
    exact ⟨rfl, rfl⟩

set_option maxRecDepth 100000 in
set_option maxHeartbeats 800000 in
theorem tku_any {w : World} {q : Nat} {s : TS} (h : TkS w q s) (n : Int) :
    Calls Tryd.prog 45 #[.pointer (some ⟨q, 0, none⟩), .int .i64 n] w (Took w q (nx s n true).2 (.int .u64 (lev (nx s n true).1 : Int))) := by
  obtain ⟨a, cap, ht, hc, hp⟩ := h
  by_cases hn : n < 1 ∨ 8 < n
  · rw [nx_bad ht hn]
    go_enter Tryd.func45, Tryd.ntmps45
    go_wp2_with fail
    refine (width_no n hn _).mono ?_
    rintro e w1 ⟨rfl, rfl⟩
    go_wp2_with fail
    refine (tfail_any ht 1).mono ?_
    rintro e w1 ⟨rfl, ht1, hf1⟩
    have HH := hid (And.intro ht1 hf1)
    clear ht1 hf1 ht
    go_wp2_with fail
    go_ret
    exact ⟨rfl, ⟨none, 0, HH.out.1, by omega, by show s.pos + 0 ≤ _; omega⟩, HH.out.2⟩
  · obtain ⟨k, rfl⟩ : ∃ k : Nat, n = k := ⟨n.toNat, by omega⟩
    by_cases hl : (s.l.length : Int) < (k : Int)
    · rw [nx_end ht (by omega) (fun _ => by omega) hl]
      go_enter Tryd.func45, Tryd.ntmps45
      go_wp2_with fail
      refine (width_yes k (by omega) (by omega) _).mono ?_
      rintro e w1 ⟨rfl, rfl⟩
      go_wp2_with fail
      refine (next_end ht k hl).mono ?_
      rintro e w1 ⟨rfl, ht1, hf1⟩
      have HH := hid (And.intro ht1 hf1)
      clear ht1 hf1 ht
      go_wp2_with fail
      refine wp_loop_rounds 1 ?_
      rw [rounds_succ]
      go_wp2_with fail
      go_ret
      exact ⟨rfl, ⟨none, 0, HH.out.1, by omega, by show s.pos + 0 ≤ _; omega⟩, HH.out.2⟩
    · have hF : s.F = 0 := by
        rcases Nat.eq_zero_or_pos s.F with h | h
        · exact h
        · have := ht.err (by omega); rw [this] at hl; simp at hl; omega
      rw [nx_ok hF (fun _ => by omega) (by omega)]
      go_enter Tryd.func45, Tryd.ntmps45
      go_wp2_with fail
      refine (width_yes k (by omega) (by omega) _).mono ?_
      rintro e w1 ⟨rfl, rfl⟩
      go_wp2_with fail
      refine (next_ok ht k (by omega) hc (by omega)).mono ?_
      rintro e w1 ⟨rfl, ⟨a', cap', ht1, hcc⟩, hf1⟩
      have hb : Byts w1 a (s.l.take k) := (ht.bytes.take k).stay hf1 (fun b off e e2 => by
        obtain ⟨b', off', e1, e3, _⟩ := ht.spot _ e
        cases e1; exact Nat.ne_of_lt e3 e2)
      have HH := hid (And.intro ht1 hf1)
      have HB := hid hb
      have HP := hid hp
      have hk1 : 1 ≤ k := by omega
      have hk8 : k ≤ 8 := by omega
      have hkl : k ≤ s.l.length := by omega
      clear ht1 hf1 hb ht hp
      go_wp2_with fail
      go_loop [5, 6, 7, 17] (fun v _ _ i => ∃ j : Nat, j ≤ k ∧ i = .int .i64 j ∧ v = .int .u64 (lev (s.l.take j) : Int)) (fun _ _ _ i => k - (intOf i).toNat)
      case atStart => exact ⟨0, Nat.zero_le _, rfl, rfl⟩
      case round =>
        obtain ⟨j, hj, rfl, rfl⟩ := hrel
        by_cases hlt : j < k
        · have hjl : j < s.l.length := by omega
          obtain ⟨x, hx⟩ : ∃ x, s.l[j]? = some x := ⟨_, List.getElem?_eq_getElem hjl⟩
          have hx2 : (s.l.take k)[j]? = some x := by rw [List.getElem?_take, if_pos hlt]; exact hx
          obtain ⟨b, off, rfl, hcell⟩ := HB.out.at_ j x hx2
          have hxl : x < 256 := HB.out.lt x (List.mem_of_getElem? hx2)
          have hlev := lev_step s.l j x hx
          have hor := or_shift (s.l.take j) j x (by rw [List.length_take]; omega) (fun b hb => HB.out.lt b (by
            have : s.l.take j = (s.l.take k).take j := by rw [List.take_take, Nat.min_eq_left (by omega)]
            rw [this] at hb; exact List.mem_of_mem_take hb)) hxl (by omega)
          rw [← hlev] at hor
          have HO := hid hor
          clear hx hx2 hor hlev
          have hs1 : (0 : Int) ≤ 8 * (j : Int) := by omega
          have hs2 : 8 * (j : Int) ≤ 56 := by omega
          go_wp2_with fail
          go_round
          case rel => exact ⟨j + 1, by omega, by go_num, congrArg (Value.int .u64) HO.out⟩
          case measure => simp [intOf]; omega
        · obtain rfl : j = k := by omega
          go_wp2_with fail
          go_ret
          exact ⟨rfl, ⟨a', cap', by have := HH.out.1; rw [hF] at this; exact this, by omega, by have := HP.out; show s.pos + j + (s.l.drop j).length ≤ _; rw [List.length_drop]; omega⟩, HH.out.2⟩
end Go.Proofs.YthjjonbkfkpkmaaDoor.Fld
namespace Go.Proofs.YthjjonbkfkpkmaaDoor.Fld
open Go.RowKit Gen

/-- The signed number of a field's bytes. -/
def sgn (t : List Nat) : Int := if 2 ^ (8 * t.length - 1) ≤ lev t then (lev t : Int) - 2 ^ (8 * t.length) else lev t

set_option maxRecDepth 100000 in
theorem nx_len (s : TS) (n : Int) (f : Bool) : (nx s n f).1 = [] ∨ ((nx s n f).1.length = n.toNat ∧ 0 ≤ n) := by
  unfold nx
  split
  · exact .inl rfl
  · split
    · exact .inl rfl
    · split
      · exact .inl rfl
      · exact .inr ⟨by rw [List.length_take]; omega, by omega⟩
set_option maxRecDepth 100000 in
theorem TkS.blt {w : World} {q : Nat} {s : TS} (h : TkS w q s) (n : Int) (f : Bool) : ∀ b ∈ (nx s n f).1, b < 256 := by
  obtain ⟨a, cap, ht, _, _⟩ := h
  unfold nx
  split
  · intro b hb; cases hb
  · split
    · intro b hb; cases hb
    · split
      · intro b hb; cases hb
      · exact fun b hb => ht.bytes.lt b (List.mem_of_mem_take hb)
set_option maxRecDepth 100000 in
theorem nx_bad1 {w : World} {q : Nat} {s : TS} (h : TkS w q s) {n : Int} (hn : n < 1 ∨ 8 < n) : (nx s n true).1 = [] := by
  obtain ⟨a, cap, ht, _, _⟩ := h
  rw [nx_bad ht hn]
set_option maxRecDepth 100000 in
theorem sgn_shift (t : List Nat) (k : Nat) (h1 : 1 ≤ k) (h8 : k ≤ 8) (ht : ∀ b ∈ t, b < 256) (hl : t = [] ∨ t.length = k) :
    wrap64 (IntKind.u64.wrap ((lev t : Int) * 2 ^ (64 - 8 * k))) / 2 ^ (64 - 8 * k) = sgn t := by
  rcases hl with rfl | hl
  · simp only [lev, sgn, List.length_nil]
    rw [show ((0 : Nat) : Int) * 2 ^ (64 - 8 * k) = 0 from by simp]
    rw [show wrap64 (IntKind.u64.wrap 0) = 0 from by unfold wrap64; simp [IntKind.wrap, IntKind.bits, IntKind.signed]]
    simp
  · have hlt := lev_lt t ht
    unfold sgn
    rw [hl] at hlt ⊢
    generalize lev t = v at *
    have hk : k = 1 ∨ k = 2 ∨ k = 3 ∨ k = 4 ∨ k = 5 ∨ k = 6 ∨ k = 7 ∨ k = 8 := by omega
    rw [show IntKind.u64.wrap ((v : Int) * 2 ^ (64 - 8 * k)) = ((v : Int) * 2 ^ (64 - 8 * k)) % 18446744073709551616 from by simp [IntKind.wrap, IntKind.bits, IntKind.signed]]
    unfold wrap64
    rcases hk with rfl | rfl | rfl | rfl | rfl | rfl | rfl | rfl <;> simp only [Nat.reduceMul, Nat.reduceSub, Nat.reducePow, Int.reducePow] at hlt ⊢ <;> split <;> omega

set_option maxRecDepth 100000 in
theorem clone_nil (w : World) : Calls Tryd.prog 60 #[.slice none 0 0] w fun e w' => e = .returned (.slice none 0 0) ∧ w = w' := by
  have he := fun w => eql_nil w none 0 0
  go_enter Tryd.func60, Tryd.ntmps60
  go_wp2_with fail
  go_ret
  exact ⟨rfl, rfl⟩
set_option maxRecDepth 100000 in
theorem raw_nil (n : Int) (w : World) : Calls Tryd.prog 73 #[.pointer none, .int .i64 n] w fun e w' => e = .returned (.slice none 0 0) ∧ w = w' := by
  by_cases hn : n < 0
  · go_enter Tryd.func73, Tryd.ntmps73
    go_wp2_with fail
    refine (tfail_nil _ _).mono ?_
    rintro e w1 ⟨rfl, rfl⟩
    go_wp2_with fail
    go_ret
    exact ⟨rfl, rfl⟩
  · go_enter Tryd.func73, Tryd.ntmps73
    go_wp2_with fail
    refine (next_nil _ _).mono ?_
    rintro e w1 ⟨rfl, rfl⟩
    go_wp2_with fail
    refine (clone_nil _).mono ?_
    rintro e w1 ⟨rfl, rfl⟩
    go_wp2_with fail
    go_ret
    exact ⟨rfl, rfl⟩

set_option maxRecDepth 100000 in
theorem fr_below {w w' : World} {q : Nat} (h : Below w.heap.size w w') : Fr (fun b => b = q) w w' := ⟨h.os, h.tape, h.output, h.size, fun k hk _ => h.block k hk⟩

/-- What Raw leaves. -/
def RawPost (w : World) (q : Nat) (s : TS) (n : Int) (e : Ending) (w' : World) : Prop :=
  ∃ ao cap, e = .returned (.slice ao (nx s n false).1.length cap) ∧ Byts w' ao (nx s n false).1 ∧ TkS w' q (nx s n false).2 ∧ Fr (fun b => b = q) w w' ∧ ∀ b off, ao = some ⟨b, off, none⟩ → w.heap.size ≤ b

set_option maxRecDepth 100000 in
set_option maxHeartbeats 800000 in
theorem traw_any {w : World} {q : Nat} {s : TS} (h : TkS w q s) (n : Int) :
    Calls Tryd.prog 73 #[.pointer (some ⟨q, 0, none⟩), .int .i64 n] w (RawPost w q s n) := by
  obtain ⟨a, cap, ht, hc, hp⟩ := h
  by_cases hn : n < 0
  · have hnx := nx_neg ht hn
    have HX := hid hnx
    clear hnx
    go_enter Tryd.func73, Tryd.ntmps73
    go_wp2_with fail
    refine (tfail_any ht 1).mono ?_
    rintro e w1 ⟨rfl, ht1, hf1⟩
    have HH := hid (And.intro ht1 hf1)
    clear ht1 hf1 ht
    go_wp2_with fail
    go_ret
    unfold RawPost
    rw [HX.out]
    exact ⟨none, 0, rfl, Byts.nil _ _, ⟨none, 0, HH.out.1, by omega, by show s.pos + 0 ≤ _; omega⟩, HH.out.2, (fun b off e => by cases e)⟩
  · obtain ⟨k, rfl⟩ : ∃ k : Nat, n = k := ⟨n.toNat, by omega⟩
    by_cases hl : (s.l.length : Int) < (k : Int)
    · have hnx := nx_end (f := false) ht (by omega) (fun e => by cases e) hl
      have HX := hid hnx
      clear hnx
      go_enter Tryd.func73, Tryd.ntmps73
      go_wp2_with fail
      refine (next_end ht k hl).mono ?_
      rintro e w1 ⟨rfl, ht1, hf1⟩
      have HH := hid (And.intro ht1 hf1)
      clear ht1 hf1 ht
      go_wp2_with fail
      refine (clone_nil _).mono ?_
      rintro e w2 ⟨rfl, rfl⟩
      go_wp2_with fail
      go_ret
      unfold RawPost
      rw [HX.out]
      exact ⟨none, 0, rfl, Byts.nil _ _, ⟨none, 0, HH.out.1, by omega, by show s.pos + 0 ≤ _; omega⟩, HH.out.2, (fun b off e => by cases e)⟩
    · have hnx : nx s (k : Int) false = (s.l.take k, ⟨s.F, s.l.drop k, s.pos + k⟩) := by
        by_cases hF : s.F = 0
        · rw [nx_ok hF (fun e => by cases e) (by omega), hF]
        · have hll := ht.err hF
          have hk0 : k = 0 := by rw [hll] at hl; simpa using hl
          subst hk0
          unfold nx
          rw [if_pos hF]
          rw [List.take_zero, List.drop_zero, Nat.add_zero]
      have HX := hid hnx
      have hkl : k ≤ s.l.length := by omega
      clear hnx
      go_enter Tryd.func73, Tryd.ntmps73
      go_wp2_with fail
      refine (next_ok ht k hkl hc (by omega)).mono ?_
      rintro e w1 ⟨rfl, ⟨a', cap', ht1, hcc⟩, hf1⟩
      have hb : Byts w1 a (s.l.take k) := (ht.bytes.take k).stay hf1 (fun b off e e2 => by
        obtain ⟨b', off', e1, e3, _⟩ := ht.spot _ e
        cases e1; exact Nat.ne_of_lt e3 e2)
      have hlen : (s.l.take k).length = k := by rw [List.length_take]; omega
      have hnn : a = none → (s.l.take k).length = 0 ∧ cap = 0 := fun e => by
        have h1 := hb.none_len e
        exact ⟨by rw [h1]; rfl, ht.none e⟩
      have HH := hid (And.intro ht1 hf1)
      have HB := hid hb
      have HN := hid hnn
      have HL := hid hlen
      clear ht1 hf1 hb ht hnn hlen
      go_wp2_with fail
      have hcl := clone_any (c := cap) HB.out HN.out (by rw [HL.out]; omega)
      rw [HL.out] at hcl
      refine hcl.mono ?_
      rintro e w2 ⟨ao, cap2, rfl, hown, hbel⟩
      have hby := Byts.of_row HB.out.lt hown
      have H2 := hid (And.intro hby hbel)
      have HLO := hid (show ∀ b off, ao = some ⟨b, off, none⟩ → w1.heap.size ≤ b from fun b off e => (hown.lt b (by rw [e]; rfl)).1)
      clear hown hbel hby hcl
      go_wp2_with fail
      go_ret
      unfold RawPost
      rw [HX.out]
      exact ⟨ao, cap2, by show _ = Ending.returned (.slice ao (s.l.take k).length cap2); rw [HL.out]; rfl, H2.out.1, TkS.below ⟨a', cap', HH.out.1, by omega, by show s.pos + k + (s.l.drop k).length ≤ _; rw [List.length_drop]; omega⟩ H2.out.2, HH.out.2.trans (fr_below H2.out.2), fun b off e => Nat.le_trans HH.out.2.size (HLO.out b off e)⟩
end Go.Proofs.YthjjonbkfkpkmaaDoor.Fld
namespace Go.Proofs.YthjjonbkfkpkmaaDoor.Fld
open Go.RowKit Gen

/-- What taking n bytes leaves, for every n. -/
def NextP (w : World) (q : Nat) (s : TS) (n : Nat) (e : Ending) (w' : World) : Prop :=
  ∃ ao cap, e = .returned (.slice ao (nx s n false).1.length cap) ∧ Byts w' ao (nx s n false).1 ∧ TkS w' q (nx s n false).2 ∧ Fr (fun b => b = q) w w'
set_option maxRecDepth 100000 in
theorem tnext_any {w : World} {q : Nat} {s : TS} (h : TkS w q s) (n : Nat) :
    Calls Tryd.prog 75 #[.pointer (some ⟨q, 0, none⟩), .int .i64 (n : Int)] w (NextP w q s n) := by
  obtain ⟨a, cap, ht, hc, hp⟩ := h
  by_cases hl : (s.l.length : Int) < (n : Int)
  · refine (next_end ht n hl).mono ?_
    rintro e w1 ⟨rfl, ht1, hf1⟩
    unfold NextP
    rw [nx_end (f := false) ht (by omega) (fun e => by cases e) hl]
    exact ⟨none, 0, rfl, Byts.nil _ _, ⟨none, 0, ht1, by omega, by show s.pos + 0 ≤ _; omega⟩, hf1⟩
  · have hnx : nx s (n : Int) false = (s.l.take n, ⟨s.F, s.l.drop n, s.pos + n⟩) := by
      by_cases hF : s.F = 0
      · rw [nx_ok hF (fun e => by cases e) (by omega), hF]
      · have hll := ht.err hF
        have hk0 : n = 0 := by rw [hll] at hl; simpa using hl
        subst hk0
        unfold nx
        rw [if_pos hF]
        rw [List.take_zero, List.drop_zero, Nat.add_zero]
    have hkl : n ≤ s.l.length := by omega
    refine (next_ok ht n hkl hc (by omega)).mono ?_
    rintro e w1 ⟨rfl, ⟨a', cap', ht1, hcc⟩, hf1⟩
    have hb : Byts w1 a (s.l.take n) := (ht.bytes.take n).stay hf1 (fun b off e e2 => by
      obtain ⟨b', off', e1, e3, _⟩ := ht.spot _ e
      cases e1; exact Nat.ne_of_lt e3 e2)
    unfold NextP
    rw [hnx]
    exact ⟨a, cap, by show _ = Ending.returned (.slice a (s.l.take n).length cap); rw [List.length_take, Nat.min_eq_left hkl], hb, ⟨a', cap', ht1, by omega, by show s.pos + n + (s.l.drop n).length ≤ _; rw [List.length_drop]; omega⟩, hf1⟩

/-- Whether the next bytes are these. -/
def isB (s : TS) (m : List Nat) : Bool := decide ((nx s m.length false).2.F = 0) && decide ((nx s m.length false).1 = m)

/-- The next text, and the state behind it. -/
def tx (s : TS) (n : Int) : List Nat × TS :=
  if (nx s n true).2.l.length < lev (nx s n true).1 then ([], ⟨fst (nx s n true).2.F 10, [], s.pos⟩) else nx (nx s n true).2 (lev (nx s n true).1 : Nat) false

set_option maxRecDepth 100000 in
theorem ttext_nil (n : Int) (w : World) : Calls Tryd.prog 76 #[.pointer none, .int .i64 n] w fun e w' => e = .returned (.string (tos [])) ∧ w = w' := by
  have hcv := (Byts.nil w none).conv 0
  rw [show ([] : List Nat).length = 0 from rfl] at hcv
  go_enter Tryd.func76, Tryd.ntmps76
  go_wp2_with fail
  refine (tat_nil _).mono ?_
  rintro e w1 ⟨rfl, rfl⟩
  go_wp2_with fail
  refine (tku_nil n _).mono ?_
  rintro e w1 ⟨rfl, rfl⟩
  go_wp2_with fail
  refine (tleft_nil _).mono ?_
  rintro e w1 ⟨rfl, rfl⟩
  go_wp2_with fail
  refine (next_nil _ _).mono ?_
  rintro e w1 ⟨rfl, rfl⟩
  go_wp2_with fail
  go_ret
  exact ⟨rfl, rfl⟩

set_option maxRecDepth 100000 in
theorem nx_room {w : World} {q : Nat} {s : TS} (h : TkS w q s) : s.l.length ≤ 1099511627776 ∧ s.pos ≤ 1099511627776 := by
  obtain ⟨a, cap, ht, hc, hp⟩ := h
  omega
set_option maxRecDepth 100000 in
theorem lev_u64 {t : List Nat} (ht : ∀ b ∈ t, b < 256) (hl : t.length ≤ 8) : lev t < 18446744073709551616 := Nat.lt_of_lt_of_le (lev_lt t ht) (Nat.le_trans (Nat.pow_le_pow_right (by decide) (show 8 * t.length ≤ 64 by omega)) (by decide))
set_option maxRecDepth 100000 in
theorem nx_field {w : World} {q : Nat} {s : TS} (h : TkS w q s) (n : Int) : (nx s n true).1.length ≤ 8 := by
  by_cases hn : n < 1 ∨ 8 < n
  · rw [nx_bad1 h hn]; simp
  · rcases nx_len s n true with e | e
    · rw [e]; simp
    · omega

set_option maxRecDepth 100000 in
set_option maxHeartbeats 800000 in
theorem ttext_any {w : World} {q : Nat} {s : TS} (h : TkS w q s) (n : Int) :
    Calls Tryd.prog 76 #[.pointer (some ⟨q, 0, none⟩), .int .i64 n] w (Took w q (tx s n).2 (.string (tos (tx s n).1))) := by
  have hv := lev_u64 (h.blt n true) (nx_field h n)
  have hp := (nx_room h).2
  go_enter Tryd.func76, Tryd.ntmps76
  go_wp2_with fail
  refine (tat_any h).mono ?_
  rintro e w1 ⟨rfl, rfl⟩
  go_wp2_with fail
  refine (tku_any h n).mono ?_
  rintro e w1 ⟨rfl, ht1, hf1⟩
  have hr := (nx_room ht1).1
  have HH := hid (And.intro ht1 hf1)
  clear ht1 hf1 h
  go_wp2_with fail
  refine (tleft_any HH.out.1).mono ?_
  rintro e w2 ⟨rfl, rfl⟩
  by_cases hlt : (nx s n true).2.l.length < lev (nx s n true).1
  · have HX := hid (show tx s n = ([], ⟨fst (nx s n true).2.F 10, [], s.pos⟩) by unfold tx; rw [if_pos hlt])
    have hlt1 : ((nx s n true).2.l.length : Int) < (lev (nx s n true).1 : Int) := by omega
    generalize lev (nx s n true).1 = v at *
    generalize (nx s n true).2 = s1 at *
    obtain ⟨a, cap, ht2, hc, _⟩ := HH.out.1
    go_wp2_with fail
    refine (tfail_any ht2 10).mono ?_
    rintro e w2 ⟨rfl, ht3, hf3⟩
    have c2 := ht3.c2
    have f2 := ht3.f2
    have H3 := hid (And.intro ht3 hf3)
    clear ht3 hf3 ht2
    go_wp2_with fail
    go_ret
    unfold Took
    rw [HX.out]
    exact ⟨rfl, ⟨none, 0, H3.out.1.setPos s.pos, by omega, by show s.pos + 0 ≤ _; omega⟩, (HH.out.2.trans H3.out.2).trans (frq 2 _)⟩
  · have HX := hid (show tx s n = nx (nx s n true).2 (lev (nx s n true).1 : Nat) false by unfold tx; rw [if_neg hlt])
    have hlt1 : ¬ ((nx s n true).2.l.length : Int) < (lev (nx s n true).1 : Int) := by omega
    generalize lev (nx s n true).1 = v at *
    generalize (nx s n true).2 = s1 at *
    have hv2 : (v : Int) ≤ 9223372036854775807 := by omega
    go_wp2_with fail
    refine (tnext_any HH.out.1 v).mono ?_
    rintro e w2 ⟨ao, cap, rfl, hb1, ht2, hf2⟩
    have hcv := hb1.conv cap
    have H2 := hid (And.intro ht2 hf2)
    clear ht2 hf2 hb1
    go_wp2_with fail
    go_ret
    unfold Took
    rw [HX.out]
    exact ⟨rfl, H2.out.1, HH.out.2.trans H2.out.2⟩

set_option maxRecDepth 100000 in
set_option maxHeartbeats 800000 in
theorem take_any {w : World} {a : Option Addr} {l : List Nat} {c : Nat} (hb : Byts w a l) (hn : a = none → l.length = 0 ∧ c = 0) (hlen : l.length ≤ 549755813888) :
    Calls Tryd.prog 42 #[.slice a l.length c] w fun e w' => ∃ q, e = .returned (.pointer (some ⟨q, 0, none⟩)) ∧ w.heap.size ≤ q ∧ TkS w' q ⟨0, l, 0⟩ ∧ Below w.heap.size w w' := by
  go_enter Tryd.func42, Tryd.ntmps42
  go_wp2_with fail
  refine (clone_any hb hn (by omega)).mono ?_
  rintro e w1 ⟨ao, cap, rfl, hown, hbel⟩
  have hby := Byts.of_row hb.lt hown
  have hsh : (ao = none → cap = 0) ∧ l.length ≤ cap ∧ cap ≤ maxLen ∧ ∀ ad, ao = some ad → ∃ b off, ad = ⟨b, off, none⟩ ∧ b < w1.heap.size := by
    obtain ⟨_, h⟩ := hown
    rcases h with ⟨hv, h1⟩ | ⟨g, cap2, cur, hv, _, h2, h3, h4, _⟩
    · injection hv with e1 e2 e3
      subst e1 e3
      exact ⟨(fun _ => rfl), by omega, by unfold maxLen; omega, (fun ad e => by cases e)⟩
    · injection hv with e1 e2 e3
      subst e1 e3
      exact ⟨(fun e => by cases e), h3, h4, (fun ad e => by cases e; exact ⟨g, 0, rfl, (Array.getElem?_eq_some_iff.1 h2).1⟩)⟩
  unfold maxLen at hsh
  have H := hid (And.intro hby (And.intro hsh hbel))
  clear hb hn hby hsh hbel hown
  go_wp2_with fail
  go_ret
  obtain ⟨hby, ⟨h1, h2, h3, h4⟩, hbel⟩ := H.out
  refine ⟨w1.heap.size, rfl, hbel.size, ⟨ao, cap, ⟨?_, ?_, ?_, ?_, ?_, ?_, ?_, ?_, h2, h1, fun e => absurd rfl e⟩, by omega, by show 0 + l.length ≤ _; omega⟩, hbel.alloc hbel.size _⟩
  · simp
  · simp
  · simp
  · simp
  · simp
  · simp
  · exact hby.keep ((Below.refl _ _).alloc (Nat.le_refl _) _)
  · intro ad e
    obtain ⟨b, off, e1, e2⟩ := h4 ad e
    exact ⟨b, off, e1, by omega, by simp; omega⟩

set_option maxRecDepth 100000 in
theorem new_maker (w : World) : MkA (w.alloc (.cells #[.int .i64 0, .slice none 0 0] 93)) w.heap.size w.heap.size none 0 0 [] := by
  refine ⟨?_, ?_, ?_, ?_, World.ownsRow_nil _ _ _ _, by simp [blk], Nat.le_refl _, (fun _ h => by cases h), (fun e => absurd rfl e)⟩
  · simp
  · simp
  · simp
  · simp
/-- A maker that was made since w. -/
def MkN (w : World) (s : Nat × List Nat) (w' : World) : Prop := ∃ ao cap, MkA w' w.heap.size w.heap.size ao cap s.1 s.2 ∧ Below w.heap.size w w'
set_option maxRecDepth 100000 in
theorem MkN.start (w : World) : MkN w (0, []) (w.alloc (.cells #[.int .i64 0, .slice none 0 0] 93)) := ⟨none, 0, new_maker w, (Below.refl _ _).alloc (Nat.le_refl _) _⟩
set_option maxRecDepth 100000 in
theorem MkN.next {w w1 w2 : World} {s s' : Nat × List Nat} {ao : Option Addr} {cap : Nat} (h : MkA w1 w.heap.size w.heap.size ao cap s.1 s.2) (hb : Below w.heap.size w w1) (h2 : Aft w1 w.heap.size w.heap.size ao s' w2) : MkN w s' w2 := by
  obtain ⟨ao2, cap2, hm, hP⟩ := h2
  exact ⟨ao2, cap2, hm, hb.trans (hP.below (Nat.le_refl _) (fun g hg => (h.rlt g hg).1) hb.size)⟩

end Go.Proofs.YthjjonbkfkpkmaaDoor.Fld
