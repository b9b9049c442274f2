/- Get of rice, and the document's: both answer the same, and stand at the same place. Conditions: the parameter is one; fewer than 2^20 bytes. -/
import Derived.Test.YtjimamjhakainaaOnes
import Derived.Test.YtjimamjhakainaaCo
namespace Go.Proofs.Ytjimamjhakainaa.Rice
open Go.RowKit Bit

/-- What Get of bits answers, and where it leads. -/
def getN (M T p n : Nat) : Nat × Int × Nat := if 8 * T < p + n then (0, 10, p) else (seg M (8 * T) p n, 0, p + n)
theorem getN_end {M T p n : Nat} (h : 8 * T < p + n) : getN M T p n = (0, 10, p) := if_pos h
theorem getN_ok {M T p n : Nat} (h : ¬ 8 * T < p + n) : getN M T p n = (seg M (8 * T) p n, 0, p + n) := if_neg h
/-- A number that is written whole. -/
def getW (M T p k : Nat) : Nat × Int × Nat := if 8 * T < p + 40 then (0, 10, p) else if seg M (8 * T) p 40 / 2 ^ k < 24 then (0, 12, p + 40) else (seg M (8 * T) p 40, 0, p + 40)
/-- What Get answers behind its bits 1. -/
def getF (M T k : Nat) (r : Int × Int × Nat) : Nat × Int × Nat :=
  if r.2.1 ≠ 0 then (0, r.2.1, r.2.2) else if r.1 = 24 then getW M T r.2.2 k else if 8 * T < r.2.2 + k then (0, 10, r.2.2) else (r.1.toNat * 2 ^ k + seg M (8 * T) r.2.2 k, 0, r.2.2 + k)
def GetR (M T p k : Nat) (x : Nat × Int × Nat) : Prop := ∃ r, OnesR M T p 24 r ∧ x = getF M T k r
theorem GetR.one {M T p k : Nat} {x y : Nat × Int × Nat} (h : GetR M T p k x) (g : GetR M T p k y) : x = y := by
  obtain ⟨r, hr, rfl⟩ := h
  obtain ⟨s, hs, rfl⟩ := g
  rw [hr.one hs]

theorem ones_cases {M T p : Nat} {r : Int × Int × Nat} (h : OnesR M T p 24 r) : (∃ q c : Nat, q ≤ 24 ∧ r = ((q : Int), 0, c) ∧ p + q ≤ c ∧ c ≤ 8 * T ∧ (q < 24 → p + q + 1 = c)) ∨ r = (0, 10, p) := by
  rcases h with ⟨m, h1, h2, h3, rfl⟩ | ⟨k, h1, h2, h3, h4, rfl⟩ | ⟨k, h1, h2, h3, rfl⟩ | ⟨h1, rfl⟩
  · exact .inl ⟨24, p + m, by decide, rfl, by omega, by omega, by omega⟩
  · exact .inl ⟨k, p + k + 1, by omega, rfl, by omega, by omega, by omega⟩
  · exact .inr rfl
  · omega

def GetNPost (w : World) (q g M T p n : Nat) (e : Ending) (w' : World) : Prop := e = .returned (.tuple #[.int .u64 ((getN M T p n).1 : Int), .int .i64 (getN M T p n).2.1]) ∧ Rd w' q g M T (getN M T p n).2.2 ∧ Fr (fun b => b = q) w w'
theorem get_n {w : World} {q g M T p : Nat} (h : Rd w q g M T p) (hp : p ≤ 8 * T) (hT : T ≤ 1099511627776) (n : Nat) (hn : n ≤ 64) : Calls Try.prog 54 #[.pointer (some ⟨q, 0, none⟩), .int .i64 (n : Int)] w (GetNPost w q g M T p n) := by
  unfold GetNPost
  by_cases h1 : 8 * T < p + n
  · rw [getN_end h1]
    refine (get_end h hp hT n hn h1).mono ?_
    rintro e w' ⟨rfl, nq, rfl⟩
    exact ⟨rfl, h.drewN nq, (Fr.refl _ _).drewN nq⟩
  · rw [getN_ok h1]
    refine (get_ok h hT n hn (by omega)).mono ?_
    rintro e w' ⟨rfl, h2, h3⟩
    exact ⟨rfl, h2, h3⟩
def RGetNPost (w : World) (B q : Nat) (lo : Option Addr) (lcap M T p n : Nat) (e : Ending) (w' : World) : Prop := e = .returned (.tuple #[.int .u64 ((getN M T p n).1 : Int), .int .i64 (getN M T p n).2.1]) ∧ Rf w' B q lo lcap M T (getN M T p n).2.2 ∧ Fr (fun b => b = q) w w'
def GetPost (w : World) (q g M T p k : Nat) (e : Ending) (w' : World) : Prop := ∃ x : Nat × Int × Nat, GetR M T p k x ∧ e = .returned (.tuple #[.int .u64 (x.1 : Int), .int .i64 x.2.1]) ∧ Rd w' q g M T x.2.2 ∧ Fr (fun b => b = q) w w'
def RGetPost (w : World) (B q : Nat) (lo : Option Addr) (lcap M T p k : Nat) (e : Ending) (w' : World) : Prop := ∃ x : Nat × Int × Nat, GetR M T p k x ∧ e = .returned (.tuple #[.int .u64 (x.1 : Int), .int .i64 x.2.1]) ∧ Rf w' B q lo lcap M T x.2.2 ∧ Fr (fun b => b = q) w w'

def WholePost (w : World) (q g M T p k : Nat) (e : Ending) (w' : World) : Prop := e = .returned (.tuple #[.int .u64 ((getW M T p k).1 : Int), .int .i64 (getW M T p k).2.1]) ∧ Rd w' q g M T (getW M T p k).2.2 ∧ Fr (fun b => b = q) w w'
theorem whole_any {w : World} {q g M T p : Nat} (h : Rd w q g M T p) (hp : p ≤ 8 * T) (hT : T ≤ 1099511627776) (k : Nat) (hk : k ≤ 30) : Calls Try.prog 128 #[.pointer (some ⟨q, 0, none⟩), .int .i64 (k : Int)] w (WholePost w q g M T p k) := by
  have hg := get_n h hp hT 40 (by decide)
  unfold GetNPost at hg
  unfold WholePost
  by_cases h1 : 8 * T < p + 40
  · rw [getN_end h1] at hg
    rw [show getW M T p k = (0, 10, p) from if_pos h1]
    clear h
    go_enter Try.func128, Try.ntmps128
    go_wp2_with fail
    refine hg.mono ?_
    rintro e w1 ⟨rfl, h2, h3⟩
    clear hg
    go_wp2_with fail
    go_ret2
    exact ⟨rfl, h2, h3⟩
  · rw [getN_ok h1] at hg
    have hiw := fun w => iswhole (seg M (8 * T) p 40) k hk w
    by_cases h2 : seg M (8 * T) p 40 / 2 ^ k < 24
    · rw [show getW M T p k = (0, 12, p + 40) from by unfold getW; rw [if_neg h1, if_pos h2]]
      rw [decide_eq_false (show ¬ 24 ≤ seg M (8 * T) p 40 / 2 ^ k by omega)] at hiw
      clear h h2
      generalize seg M (8 * T) p 40 = v at *
      go_enter Try.func128, Try.ntmps128
      go_wp2_with fail
      refine hg.mono ?_
      rintro e w1 ⟨rfl, h2, h3⟩
      clear hg
      go_wp2_with fail
      refine (hiw _).mono ?_
      rintro e w2 ⟨rfl, rfl⟩
      go_wp2_with fail
      go_ret2
      exact ⟨rfl, h2, h3⟩
    · rw [show getW M T p k = (seg M (8 * T) p 40, 0, p + 40) from by unfold getW; rw [if_neg h1, if_neg h2]]
      rw [decide_eq_true (show 24 ≤ seg M (8 * T) p 40 / 2 ^ k by omega)] at hiw
      clear h h2
      generalize seg M (8 * T) p 40 = v at *
      go_enter Try.func128, Try.ntmps128
      go_wp2_with fail
      refine hg.mono ?_
      rintro e w1 ⟨rfl, h2, h3⟩
      clear hg
      go_wp2_with fail
      refine (hiw _).mono ?_
      rintro e w2 ⟨rfl, rfl⟩
      go_wp2_with fail
      go_ret2
      exact ⟨rfl, h2, h3⟩

theorem quot_lt (q k v : Nat) (hq : q < 24) (hk : k ≤ 30) (hv : v < 2 ^ k) : q * 2 ^ k + v < 25769803776 := by
  have h1 : (q + 1) * 2 ^ k ≤ 24 * 2 ^ 30 := Nat.mul_le_mul (by omega) (Nat.pow_le_pow_right (by decide) hk)
  rw [Nat.add_mul] at h1
  omega

set_option maxHeartbeats 800000 in
theorem rice_get {w : World} {q g M T p : Nat} (h : Rd w q g M T p) (hp : p ≤ 8 * T) (hT : T ≤ 1099511627776) (k : Nat) (hk : k ≤ 30) : Calls Try.prog 124 #[.pointer (some ⟨q, 0, none⟩), .int .i64 (k : Int)] w (GetPost w q g M T p k) := by
  have hkk : okK (k : Int) := ⟨by omega, by omega⟩
  have hones := ones_any h hp hT 24 (by decide)
  clear h
  go_enter Try.func124, Try.ntmps124
  go_wp2_with fail
  refine (isparam _ _).mono ?_
  rintro e w1 ⟨rfl, rfl⟩
  rw [decide_eq_true hkk]
  go_wp2_with fail
  refine hones.mono ?_
  rintro e w1 ⟨r, hr, rfl, hr1, hf1⟩
  have HR := hid hr
  rcases ones_cases hr with ⟨qq, c, hqq, rfl, _, hc, _⟩ | rfl
  · clear hr hones
    by_cases h24 : qq = 24
    · subst h24
      have hwh := whole_any hr1 hc hT k hk
      have HX : Hid (getF M T k (((24 : Nat) : Int), 0, c) = getW M T c k) := hid rfl
      clear hr1
      unfold WholePost at hwh
      generalize getW M T c k = x at *
      go_wp2_with fail
      refine hwh.mono ?_
      rintro e w2 ⟨rfl, hr2, hf2⟩
      clear hwh
      have hf := hf1.trans hf2
      go_wp2_with fail
      go_ret2
      exact ⟨x, ⟨_, HR.out, HX.out.symm⟩, rfl, hr2, hf⟩
    · have hlt : qq < 24 := by omega
      have h24' : ((qq : Int) == 24) = false := beq_eq_false_iff_ne.2 (by omega)
      have hg := get_n hr1 hc hT k (by omega)
      unfold GetNPost at hg
      clear hr1
      by_cases h1 : 8 * T < c + k
      · rw [getN_end h1] at hg
        have HX : Hid (getF M T k ((qq : Int), 0, c) = (0, 10, c)) := hid (by unfold getF; rw [if_neg (show ¬ (0 : Int) ≠ 0 from fun h => h rfl), if_neg (show ¬ (qq : Int) = 24 by omega), if_pos h1])
        go_wp2_with fail
        refine hg.mono ?_
        rintro e w2 ⟨rfl, hr2, hf2⟩
        clear hg
        have hf := hf1.trans hf2
        go_wp2_with fail
        go_ret2
        exact ⟨_, ⟨_, HR.out, HX.out.symm⟩, rfl, hr2, hf⟩
      · rw [getN_ok h1] at hg
        have HX : Hid (getF M T k ((qq : Int), 0, c) = (qq * 2 ^ k + seg M (8 * T) c k, 0, c + k)) := hid (by unfold getF; rw [if_neg (show ¬ (0 : Int) ≠ 0 from fun h => h rfl), if_neg (show ¬ (qq : Int) = 24 by omega), if_neg h1, Int.toNat_natCast])
        have hsl := seg_lt M (8 * T) c k
        generalize seg M (8 * T) c k = v at *
        have HV := hid (shl_or qq v k hsl (by have := quot_lt qq k v hlt hk hsl; omega))
        go_wp2_with fail
        refine hg.mono ?_
        rintro e w2 ⟨rfl, hr2, hf2⟩
        clear hg
        have hf := hf1.trans hf2
        go_wp2_with fail
        go_ret2
        exact ⟨_, ⟨_, HR.out, HX.out.symm⟩, congrArg (fun z : Int => Ending.returned (.tuple #[.int .u64 z, .int .i64 0])) HV.out, hr2, hf⟩
  · clear hr hones
    go_wp2_with fail
    go_ret2
    exact ⟨_, ⟨_, HR.out, rfl⟩, rfl, hr1, hf1⟩

theorem power_gen (k y : Nat) (hk : k ≤ 30) (hy : 2 ^ k = y) (w : World) : Calls Try.prog 43 #[.int .i64 (k : Int)] w fun e w' => e = .returned (.int .i64 (y : Int)) ∧ w = w' := by
  have HY := hid hy
  clear hy
  go_enter Try.func43, Try.ntmps43
  go_wp2_with fail
  go_loopg [3, 4] k (fun g x i wr => ∃ j : Nat, j ≤ k ∧ g = k - j ∧ x = .int .i64 ((2 ^ j : Nat) : Int) ∧ i = .int .i64 j ∧ w = wr)
  case atStart => exact ⟨0, Nat.zero_le _, rfl, rfl, rfl, rfl⟩
  case round =>
    obtain ⟨j, hj, hg, rfl, rfl, rfl⟩ := hrel
    have HG := hid hg
    clear hg
    have hp : 2 ^ j ≤ 2 ^ 30 := Nat.pow_le_pow_right (by decide) (by omega)
    have HN : Hid (2 ^ (j + 1) = 2 ^ j * 2) := hid (Nat.pow_succ _ _)
    generalize hxx : 2 ^ j = x at *
    have HXX := hid hxx
    clear hxx
    by_cases hlt : j < k
    · have g1 : (j : Int) < (k : Int) := by omega
      have g2 : (j : Int) < 62 := by omega
      have g3 : (x : Int) ≤ 1073741824 := by omega
      go_wp2_with fail
      go_roundg (k - (j + 1))
      case measure => rw [HG.out]; omega
      case rel => exact ⟨j + 1, by omega, rfl, congrArg (Value.int .i64) (by rw [HN.out]; omega), by go_num, rfl⟩
    · have g1 : ¬ (j : Int) < (k : Int) := by omega
      obtain rfl : j = k := by omega
      go_wp2_with fail
      go_ret
      exact ⟨congrArg (fun z : Nat => Ending.returned (.int .i64 (z : Int))) (HXX.out.symm.trans HY.out), rfl⟩
theorem power_any (k : Nat) (hk : k ≤ 30) (w : World) : Calls Try.prog 43 #[.int .i64 (k : Int)] w fun e w' => e = .returned (.int .i64 ((2 ^ k : Nat) : Int)) ∧ w = w' := power_gen k _ hk rfl w

end Go.Proofs.Ytjimamjhakainaa.Rice
