/- Check of pcm: which sound may be, and else why not. Conditions: sound lies in memory as its lists. -/
import Derived.Test.YtkdpalmdcnpnoaaSn
namespace Go.Proofs.Ytkdpalmdcnpnoaa.Pcm
open Go.RowKit Gen

set_option maxRecDepth 20000 in
theorem w64 (x : Int) (h0 : -9223372036854775808 ≤ x) (h1 : x ≤ 9223372036854775807) : wrap64 x = x := by unfold wrap64; omega
set_option maxRecDepth 20000 in
theorem range_any (m P : Nat) (hm : m ≤ 61) (hP : 2 ^ m = P) (w : World) : Calls Try.prog 81 #[.int .i64 ((m + 1 : Nat) : Int)] w fun e w' => e = .returned (.tuple #[.int .i64 (-(P : Int)), .int .i64 ((P : Int) - 1)]) ∧ w = w' := by
  have h0 : ¬ ((m + 1 : Nat) : Int) < 1 := by omega
  have h1 : ¬ (62 : Int) < ((m + 1 : Nat) : Int) := by omega
  have h2 : (0 : Int) ≤ ((m + 1 : Nat) : Int) - 1 := by omega
  have h3 : (((m + 1 : Nat) : Int) - 1).toNat = m := by omega
  have hb : 2 ^ m ≤ 2 ^ 61 := Nat.pow_le_pow_right (by decide) hm
  have he : wrap64 ((2 : Int) ^ m) = (P : Int) := by
    have e : ((2 : Int) ^ m) = ((2 ^ m : Nat) : Int) := by push_cast; rfl
    rw [e, hP]
    have : P ≤ 2 ^ 61 := hP ▸ hb
    exact w64 _ (by omega) (by omega)
  have hPb : P ≤ 2 ^ 61 := hP ▸ hb
  have HE := hid he
  have H1 : Hid (wrap64 (-(P : Int)) = -(P : Int)) := hid (w64 _ (by omega) (by omega))
  have H2 : Hid (wrap64 ((P : Int) - 1) = (P : Int) - 1) := hid (w64 _ (by omega) (by omega))
  clear he hb hP hPb
  go_enter Try.func81, Try.ntmps81
  go_wp2_with fail
  rw [HE.out, H1.out, H2.out]
  go_ret2
  exact ⟨rfl, rfl⟩

set_option maxRecDepth 20000 in
theorem reach1 (x lo hi : Int) (p q : Addr) (w : World) (h1 : w.cell? p = some (.int .i64 lo)) (h2 : w.cell? q = some (.int .i64 hi)) :
    Calls Try.prog 83 #[.int .i64 x, .pointer (some p), .pointer (some q)] w fun e w' => e = .returned (.bool (!decide (lo ≤ x ∧ x ≤ hi))) ∧ w = w' := by
  have hf := isfrom x lo hi w
  generalize decide (lo ≤ x ∧ x ≤ hi) = b at *
  go_enter Try.func83, Try.ntmps83
  go_wp2_with fail
  refine hf.mono ?_
  rintro e w' ⟨rfl, rfl⟩
  go_wp2_with fail
  go_ret
  exact ⟨rfl, rfl⟩

/-- Is there one of the first? -/
def anyB (q : Nat → Bool) : Nat → Bool
  | 0 => false
  | k + 1 => anyB q k || q k
set_option maxRecDepth 20000 in
theorem any_iff (q : Nat → Bool) : ∀ n, (anyB q n = true ↔ ∃ i, i < n ∧ q i = true)
  | 0 => ⟨fun h => absurd (show false = true from h) Bool.false_ne_true, fun ⟨i, hi, _⟩ => absurd hi (Nat.not_lt_zero _)⟩
  | k + 1 => by
    show (anyB q k || q k) = true ↔ _
    rw [Bool.or_eq_true, any_iff q k]
    constructor
    · rintro (⟨i, hi, h⟩ | h)
      · exact ⟨i, by omega, h⟩
      · exact ⟨k, by omega, h⟩
    · rintro ⟨i, hi, h⟩
      by_cases e : i = k
      · exact .inr (e ▸ h)
      · exact .inl ⟨i, by omega, h⟩
set_option maxRecDepth 20000 in
theorem HasPost.any {q : Nat → Bool} {len : Nat} {w : World} {e : Ending} {w' : World} (h : HasPost q len w e w') : e = .returned (.bool (anyB q len)) ∧ Below w.heap.size w w' := by
  obtain ⟨x, rfl, hb, hx⟩ := h
  refine ⟨?_, hb⟩
  have : x = anyB q len := by
    have ha := any_iff q len
    rw [← hx] at ha
    cases x with
    | false => cases h : anyB q len with
      | false => rfl
      | true => exact absurd (ha.1 h) (by decide)
    | true => exact (ha.2 rfl).symm
  rw [this]

/-- Is a number beyond P, or below -P? -/
def beyond (P : Nat) (x : Int) : Bool := !decide (-(P : Int) ≤ x ∧ x ≤ (P : Int) - 1)
set_option maxRecDepth 20000 in
theorem reach_any (w : World) (a : Option Addr) (len cap : Nat) (X : Nat → Int) (h : Is w a len X) (m P : Nat) (hm : m ≤ 61) (hP : 2 ^ m = P) :
    Calls Try.prog 56 #[.slice a len cap, .int .i64 ((m + 1 : Nat) : Int)] w fun e w' => e = .returned (.bool (anyB (fun i => beyond P (X i)) len)) ∧ Below w.heap.size w w' := by
  have hb : Below w.heap.size w ((w.alloc (.cells #[.int .i64 (-(P : Int))] 3)).alloc (.cells #[.int .i64 ((P : Int) - 1)] 3)) := ((Below.refl _ _).alloc (Nat.le_refl _) _).alloc (by simp) _
  have hz : ((w.alloc (.cells #[.int .i64 (-(P : Int))] 3)).alloc (.cells #[.int .i64 ((P : Int) - 1)] 3)).heap.size = w.heap.size + 2 := by simp
  have hc1 : ((w.alloc (.cells #[.int .i64 (-(P : Int))] 3)).alloc (.cells #[.int .i64 ((P : Int) - 1)] 3)).cell? ⟨w.heap.size, 0, none⟩ = some (.int .i64 (-(P : Int))) := by
    rw [World.cell?_of_block (a := ⟨w.heap.size, 0, none⟩) (RowKit.Below.heap_alloc _ _ _ (by simp))]; simp
  have hc2 : ((w.alloc (.cells #[.int .i64 (-(P : Int))] 3)).alloc (.cells #[.int .i64 ((P : Int) - 1)] 3)).cell? ⟨w.heap.size + 1, 0, none⟩ = some (.int .i64 ((P : Int) - 1)) := by
    rw [World.cell?_alloc_at _ _ _ _ (by simp)]; rfl
  obtain ⟨b, off, h⟩ := h
  have HI := hid (h.below hb h.lt)
  have HR := hid (range_any m P hm hP w)
  have HB := hid hb
  have HZ := hid hz
  have HC1 := hid hc1
  have HC2 := hid hc2
  clear h hb hP hz hc1 hc2
  go_enter Try.func56, Try.ntmps56
  go_wp2_with fail
  refine HR.out.mono ?_
  rintro e w' ⟨rfl, rfl⟩
  go_wp2_with fail
  generalize ((w.alloc (.cells #[.int .i64 (-(P : Int))] 3)).alloc (.cells #[.int .i64 ((P : Int) - 1)] 3)) = W at *
  refine (has_i (fun i => beyond P (X i)) 83 _ (fun args w => Try.call83 args w) W a len cap b off X HI.out ?_).mono ?_
  · intro i hi w' hw'
    have hlt : w.heap.size < W.heap.size := by have := HZ.out; omega
    refine (reach1 (X i) (-(P : Int)) ((P : Int) - 1) ⟨w.heap.size, 0, none⟩ ⟨w.heap.size + 1, 0, none⟩ w' ((hw'.cell (p := ⟨w.heap.size, 0, none⟩) hlt).trans HC1.out) ((hw'.cell (p := ⟨w.heap.size + 1, 0, none⟩) (by have := HZ.out; show w.heap.size + 1 < _; omega)).trans HC2.out)).mono ?_
    rintro e w'' ⟨rfl, rfl⟩
    exact ⟨rfl, Below.refl _ _⟩
  · rintro e w1 hp
    obtain ⟨rfl, hb1⟩ := hp.any
    have hfin := HB.out.trans (hb1.mono HB.out.size)
    clear hp hb1
    go_wp2_with fail
    go_ret
    exact ⟨rfl, hfin⟩

set_option maxRecDepth 20000 in
theorem unlike_any (a : Option Addr) (len cap : Nat) (n : Int) (p : Addr) (w : World) (hc : w.cell? p = some (.int .i64 n)) :
    Calls Try.prog 54 #[.slice a len cap, .pointer (some p)] w fun e w' => e = .returned (.bool ((len : Int) != n)) ∧ w = w' := by
  go_enter Try.func54, Try.ntmps54
  go_wp2_with fail
  go_ret
  exact ⟨rfl, rfl⟩
set_option maxRecDepth 20000 in
theorem beyond_any (w : World) (a : Option Addr) (len cap : Nat) (X : Nat → Int) (h : Is w a len X) (m P : Nat) (hm : m ≤ 61) (hP : 2 ^ m = P) (p : Nat) (hc : w.cell? ⟨p, 1, none⟩ = some (.int .i64 ((m + 1 : Nat) : Int))) :
    Calls Try.prog 55 #[.slice a len cap, .pointer (some ⟨p, 0, none⟩)] w fun e w' => e = .returned (.bool (anyB (fun i => beyond P (X i)) len)) ∧ Below w.heap.size w w' := by
  have HR := hid (reach_any w a len cap X h m P hm hP)
  generalize anyB (fun i => beyond P (X i)) len = x at *
  clear h hP
  go_enter Try.func55, Try.ntmps55
  go_wp2_with fail
  refine HR.out.mono ?_
  rintro e w1 ⟨rfl, hb⟩
  clear hc
  go_wp2_with fail
  go_ret
  exact ⟨rfl, hb⟩
end Go.Proofs.Ytkdpalmdcnpnoaa.Pcm
