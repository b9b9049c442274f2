/- The taker's numbers: what is taken, and where the taker stands. Conditions: fewer than 2^40 bytes. -/
import Derived.Test.YtgcnbeigchppfaaTa
import Derived.Laws.Bits64
import Derived.Laws.Bits64b
namespace Go.Proofs.Ytgcnbeigchppfaa.Fld
open Go.RowKit Gen

/-- A taker's state: its first error, what is left, how many were taken. -/
structure TS where
  F : Nat
  l : List Nat
  pos : Nat
/-- A taker in such a state. -/
def TkS (w : World) (q : Nat) (s : TS) : Prop := ∃ a cap, TkA w q a cap s.F s.l s.pos ∧ cap ≤ 9223372036854775807 ∧ s.pos + s.l.length ≤ 1099511627776
/-- The next n bytes, and the state behind them. -/
def nx (s : TS) (n : Int) (field : Bool) : List Nat × TS :=
  if s.F ≠ 0 then ([], s) else if n < 0 ∨ (field = true ∧ (n < 1 ∨ 8 < n)) then ([], ⟨1, [], s.pos⟩) else if (s.l.length : Int) < n then ([], ⟨10, [], s.pos⟩) else (s.l.take n.toNat, ⟨0, s.l.drop n.toNat, s.pos + n.toNat⟩)
set_option maxRecDepth 100000 in
theorem TkS.below {w w' : World} {q : Nat} {s : TS} (h : TkS w q s) (hb : Below w.heap.size w w') : TkS w' q s := by
  obtain ⟨a, cap, ht, h1, h2⟩ := h
  exact ⟨a, cap, ht.below hb, h1, h2⟩
set_option maxRecDepth 100000 in
theorem TkS.lt {w : World} {q : Nat} {s : TS} (h : TkS w q s) : q < w.heap.size := by
  obtain ⟨a, cap, ht, h1, h2⟩ := h
  exact ht.lt
set_option maxRecDepth 100000 in
theorem ts_late {s : TS} {w : World} {q cap : Nat} {a : Option Addr} (h : TkA w q a cap s.F s.l s.pos) (hF : s.F ≠ 0) : s = ⟨s.F, [], s.pos⟩ := by
  have := h.err hF
  cases s; simp_all
set_option maxRecDepth 100000 in
theorem nx_bad {s : TS} {n : Int} {w : World} {q cap : Nat} {a : Option Addr} (h : TkA w q a cap s.F s.l s.pos) (hn : n < 1 ∨ 8 < n) : nx s n true = ([], ⟨fst s.F 1, [], s.pos⟩) := by
  unfold nx fst
  by_cases hF : s.F = 0
  · simp [hF, hn]
  · have := ts_late h hF
    simp only [hF, ne_eq, not_false_eq_true, if_true, if_false]
    rw [← this]
set_option maxRecDepth 100000 in
theorem nx_neg {s : TS} {n : Int} {w : World} {q cap : Nat} {a : Option Addr} (h : TkA w q a cap s.F s.l s.pos) (hn : n < 0) : nx s n false = ([], ⟨fst s.F 1, [], s.pos⟩) := by
  unfold nx fst
  by_cases hF : s.F = 0
  · simp [hF, hn]
  · have := ts_late h hF
    simp only [hF, ne_eq, not_false_eq_true, if_true, if_false]
    rw [← this]
set_option maxRecDepth 100000 in
theorem nx_end {s : TS} {n : Int} {f : Bool} {w : World} {q cap : Nat} {a : Option Addr} (h : TkA w q a cap s.F s.l s.pos) (hn : 0 ≤ n) (hg : f = true → 1 ≤ n ∧ n ≤ 8) (hl : (s.l.length : Int) < n) : nx s n f = ([], ⟨fst s.F 10, [], s.pos⟩) := by
  unfold nx fst
  by_cases hF : s.F = 0
  · have h2 : ¬ (n < 0 ∨ (f = true ∧ (n < 1 ∨ 8 < n))) := by
      rintro (h | ⟨hf, h⟩)
      · omega
      · have := hg hf; omega
    simp only [hF, ne_eq, not_true_eq_false, if_false, if_true, h2, hl]
  · have := ts_late h hF
    simp only [hF, ne_eq, not_false_eq_true, if_true, if_false]
    rw [← this]
set_option maxRecDepth 100000 in
theorem nx_ok {s : TS} {k : Nat} {f : Bool} (hF : s.F = 0) (hg : f = true → 1 ≤ k ∧ k ≤ 8) (hl : k ≤ s.l.length) : nx s (k : Int) f = (s.l.take k, ⟨0, s.l.drop k, s.pos + k⟩) := by
  have h2 : ¬ ((k : Int) < 0 ∨ (f = true ∧ ((k : Int) < 1 ∨ 8 < (k : Int)))) := by
    rintro (h | ⟨hf, h⟩)
    · omega
    · have := hg hf; omega
  have h3 : ¬ (s.l.length : Int) < (k : Int) := by omega
  unfold nx
  simp only [hF, ne_eq, not_true_eq_false, if_false, h2, h3, Int.toNat_natCast]

/-- What a call that takes leaves. -/
def Took (w : World) (q : Nat) (s' : TS) (v : Value) (e : Ending) (w' : World) : Prop := e = .returned v ∧ TkS w' q s' ∧ Fr (fun b => b = q) w w'

set_option maxRecDepth 100000 in
theorem lev_step (l : List Nat) (j x : Nat) (hx : l[j]? = some x) : lev (l.take (j + 1)) = lev (l.take j) + 2 ^ (8 * j) * x := by
  have hjl : j < l.length := (List.getElem?_eq_some_iff.1 hx).1
  have hxe : l[j] = x := (List.getElem?_eq_some_iff.1 hx).2
  rw [List.take_succ_eq_append_getElem hjl, lev_app, hxe, List.length_take, Nat.min_eq_left (by omega)]
  simp [lev]
set_option maxRecDepth 100000 in
theorem or_shift (l : List Nat) (j x : Nat) (hj : l.length = j) (hl : ∀ b ∈ l, b < 256) (hx : x < 256) (hj8 : j ≤ 7) :
    bits .or .u64 (lev l : Int) (IntKind.u64.wrap ((x : Int) * 2 ^ (8 * j))) = ((lev l + 2 ^ (8 * j) * x : Nat) : Int) := by
  have h1 := lev_lt l hl
  rw [hj] at h1
  have hp : 2 ^ (8 * j) ≤ 2 ^ 56 := Nat.pow_le_pow_right (by decide) (by omega)
  have hm : 2 ^ (8 * j) * x ≤ 2 ^ 56 * 255 := Nat.mul_le_mul hp (by omega)
  have e1 : ((x : Int) * 2 ^ (8 * j)) = ((2 ^ (8 * j) * x : Nat) : Int) := by push_cast; exact Int.mul_comm _ _
  rw [e1, IntWalk.u64_in _ ⟨Int.natCast_nonneg _, by omega⟩, bits_or_u64_nat _ _ (by omega) (by omega)]
  congr 1
  rw [Nat.or_comm, ← Nat.two_pow_add_eq_or_of_lt h1, Nat.add_comm]

set_option maxRecDepth 100000 in
theorem tku_nil (n : Int) (w : World) : Calls Try.prog 75 #[.pointer none, .int .i64 n] w fun e w' => e = .returned (.int .u64 0) ∧ w = w' := by
  by_cases hn : n < 1 ∨ 8 < n
  · go_enter Try.func75, Try.ntmps75
    go_wp2_with fail
    refine (width_no n hn _).mono ?_
    rintro e w1 ⟨rfl, rfl⟩
    go_wp2_with fail
    refine (tfail_nil _ _).mono ?_
    rintro e w1 ⟨rfl, rfl⟩
    go_wp2_with fail
    go_ret
    exact ⟨rfl, rfl⟩
  · go_enter Try.func75, Try.ntmps75
    go_wp2_with fail
    refine (width_yes n (by omega) (by omega) _).mono ?_
    rintro e w1 ⟨rfl, rfl⟩
    go_wp2_with fail
    refine (next_nil _ _).mono ?_
    rintro e w1 ⟨rfl, rfl⟩
    go_wp2_with fail
    refine wp_loop_rounds 1 ?_
    rw [rounds_succ]
    go_wp2_with fail
    go_ret
    exact ⟨rfl, rfl⟩

set_option maxRecDepth 100000 in
set_option maxHeartbeats 800000 in
theorem tku_any {w : World} {q : Nat} {s : TS} (h : TkS w q s) (n : Int) :
    Calls Try.prog 75 #[.pointer (some ⟨q, 0, none⟩), .int .i64 n] w (Took w q (nx s n true).2 (.int .u64 (lev (nx s n true).1 : Int))) := by
  obtain ⟨a, cap, ht, hc, hp⟩ := h
  by_cases hn : n < 1 ∨ 8 < n
  · rw [nx_bad ht hn]
    go_enter Try.func75, Try.ntmps75
    go_wp2_with fail
    refine (width_no n hn _).mono ?_
    rintro e w1 ⟨rfl, rfl⟩
    go_wp2_with fail
    refine (tfail_any ht 1).mono ?_
    rintro e w1 ⟨rfl, ht1, hf1⟩
    have HH := hid (And.intro ht1 hf1)
    clear ht1 hf1 ht
    go_wp2_with fail
    go_ret
    exact ⟨rfl, ⟨none, 0, HH.out.1, by omega, by show s.pos + 0 ≤ _; omega⟩, HH.out.2⟩
  · obtain ⟨k, rfl⟩ : ∃ k : Nat, n = k := ⟨n.toNat, by omega⟩
    by_cases hl : (s.l.length : Int) < (k : Int)
    · rw [nx_end ht (by omega) (fun _ => by omega) hl]
      go_enter Try.func75, Try.ntmps75
      go_wp2_with fail
      refine (width_yes k (by omega) (by omega) _).mono ?_
      rintro e w1 ⟨rfl, rfl⟩
      go_wp2_with fail
      refine (next_end ht k hl).mono ?_
      rintro e w1 ⟨rfl, ht1, hf1⟩
      have HH := hid (And.intro ht1 hf1)
      clear ht1 hf1 ht
      go_wp2_with fail
      refine wp_loop_rounds 1 ?_
      rw [rounds_succ]
      go_wp2_with fail
      go_ret
      exact ⟨rfl, ⟨none, 0, HH.out.1, by omega, by show s.pos + 0 ≤ _; omega⟩, HH.out.2⟩
    · have hF : s.F = 0 := by
        rcases Nat.eq_zero_or_pos s.F with h | h
        · exact h
        · have := ht.err (by omega); rw [this] at hl; simp at hl; omega
      rw [nx_ok hF (fun _ => by omega) (by omega)]
      go_enter Try.func75, Try.ntmps75
      go_wp2_with fail
      refine (width_yes k (by omega) (by omega) _).mono ?_
      rintro e w1 ⟨rfl, rfl⟩
      go_wp2_with fail
      refine (next_ok ht k (by omega) hc (by omega)).mono ?_
      rintro e w1 ⟨rfl, ⟨a', cap', ht1, hcc⟩, hf1⟩
      have hb : Byts w1 a (s.l.take k) := (ht.bytes.take k).stay hf1 (fun b off e e2 => by
        obtain ⟨b', off', e1, e3, _⟩ := ht.spot _ e
        cases e1; exact Nat.ne_of_lt e3 e2)
      have HH := hid (And.intro ht1 hf1)
      have HB := hid hb
      have HP := hid hp
      have hk1 : 1 ≤ k := by omega
      have hk8 : k ≤ 8 := by omega
      have hkl : k ≤ s.l.length := by omega
      clear ht1 hf1 hb ht hp
      go_wp2_with fail
      go_loop [5, 6, 7, 17] (fun v _ _ i => ∃ j : Nat, j ≤ k ∧ i = .int .i64 j ∧ v = .int .u64 (lev (s.l.take j) : Int)) (fun _ _ _ i => k - (intOf i).toNat)
      case atStart => exact ⟨0, Nat.zero_le _, rfl, rfl⟩
      case round =>
        obtain ⟨j, hj, rfl, rfl⟩ := hrel
        by_cases hlt : j < k
        · have hjl : j < s.l.length := by omega
          obtain ⟨x, hx⟩ : ∃ x, s.l[j]? = some x := ⟨_, List.getElem?_eq_getElem hjl⟩
          have hx2 : (s.l.take k)[j]? = some x := by rw [List.getElem?_take, if_pos hlt]; exact hx
          obtain ⟨b, off, rfl, hcell⟩ := HB.out.at_ j x hx2
          have hxl : x < 256 := HB.out.lt x (List.mem_of_getElem? hx2)
          have hlev := lev_step s.l j x hx
          have hor := or_shift (s.l.take j) j x (by rw [List.length_take]; omega) (fun b hb => HB.out.lt b (by
            have : s.l.take j = (s.l.take k).take j := by rw [List.take_take, Nat.min_eq_left (by omega)]
            rw [this] at hb; exact List.mem_of_mem_take hb)) hxl (by omega)
          rw [← hlev] at hor
          have HO := hid hor
          clear hx hx2 hor hlev
          have hs1 : (0 : Int) ≤ 8 * (j : Int) := by omega
          have hs2 : 8 * (j : Int) ≤ 56 := by omega
          go_wp2_with fail
          go_round
          case rel => exact ⟨j + 1, by omega, by go_num, congrArg (Value.int .u64) HO.out⟩
          case measure => simp [intOf]; omega
        · obtain rfl : j = k := by omega
          go_wp2_with fail
          go_ret
          exact ⟨rfl, ⟨a', cap', by have := HH.out.1; rw [hF] at this; exact this, by omega, by have := HP.out; show s.pos + j + (s.l.drop j).length ≤ _; rw [List.length_drop]; omega⟩, HH.out.2⟩
end Go.Proofs.Ytgcnbeigchppfaa.Fld
