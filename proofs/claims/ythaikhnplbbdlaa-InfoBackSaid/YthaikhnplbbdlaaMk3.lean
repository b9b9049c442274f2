/- The maker's numbers, signed ones, bytes, texts: what they lay. Conditions: fewer than 2^39 bytes. -/
import Derived.Test.YthaikhnplbbdlaaMk2
namespace Go.Proofs.Ythaikhnplbbdlaa.Fld
open Go.RowKit Gen

/-- What a call makes of a maker: the error that it has, or the bytes that it lays. -/
def put (s : Nat × List Nat) (e : Nat) (m : List Nat) : Nat × List Nat := if s.1 = 0 then (if e = 0 then (0, s.2 ++ m) else (e, [])) else (s.1, [])
def uErr (v : Nat) (n : Int) : Nat := if n < 1 ∨ 8 < n then 1 else if 2 ^ (8 * n.toNat) ≤ v then 3 else 0

/-- What stands behind a call of a maker. -/
def Aft (w : World) (B p : Nat) (ao : Option Addr) (s : Nat × List Nat) (w' : World) : Prop := ∃ ao' cap', MkA w' B p ao' cap' s.1 s.2 ∧ Psh w w' p ao ao'

theorem put_err {F E : Nat} (l m : List Nat) (hE : E ≠ 0) : put (F, l) E m = (fst F E, []) := by
  unfold put fst
  by_cases h : F = 0
  · simp [h, hE]
  · simp [h]

set_option maxHeartbeats 800000 in
theorem u_any {w : World} {B p cap F : Nat} {ao : Option Addr} {l : List Nat} (h : MkA w B p ao cap F l) (hB : B ≤ w.heap.size) (v : Nat) (n : Int) (hv : v < 18446744073709551616) (hlen : l.length ≤ 549755813888) :
    Calls Try.prog 24 #[.pointer (some ⟨p, 0, none⟩), .int .u64 (v : Int), .int .i64 n] w fun e w' => e = .returned (.tuple #[]) ∧ Aft w B p ao (put (F, l) (uErr v n) (le v n.toNat)) w' := by
  by_cases hn : n < 1 ∨ 8 < n
  · have he : uErr v n = 1 := by unfold uErr; rw [if_pos hn]
    go_enter Try.func24, Try.ntmps24
    go_wp2_with fail
    refine (width_no n hn _).mono ?_
    rintro e w1 ⟨rfl, rfl⟩
    go_wp2_with fail
    refine (mfail_any h 1).mono ?_
    rintro e w1 ⟨rfl, hm, hP⟩
    have HH := hid (And.intro hm hP)
    clear hm hP h
    go_wp2_with fail
    go_end0
    exact ⟨rfl, by rw [he, put_err _ _ (by decide)]; exact ⟨_, _, HH.out.1, HH.out.2⟩⟩
  · obtain ⟨k, rfl⟩ : ∃ k : Nat, n = k := ⟨n.toNat, by omega⟩
    have hk1 : 1 ≤ k := by omega
    have hk8 : k ≤ 8 := by omega
    go_enter Try.func24, Try.ntmps24
    go_wp2_with fail
    refine (width_yes k (by omega) (by omega) _).mono ?_
    rintro e w1 ⟨rfl, rfl⟩
    have hs1 : (0 : Int) ≤ 8 * (k : Int) := by omega
    have hs2 : 8 * (k : Int) ≤ 64 := by omega
    by_cases hov : 2 ^ (8 * k) ≤ v
    · have he : uErr v (k : Int) = 3 := by unfold uErr; rw [if_neg hn, Int.toNat_natCast, if_pos hov]
      have ht : ((v : Int) / 2 ^ (8 * k) != 0) = true := by
        rw [bne_iff_ne, show (v : Int) / 2 ^ (8 * k) = ((v / 2 ^ (8 * k) : Nat) : Int) from by push_cast; rfl]
        have := (Nat.le_div_iff_mul_le (Nat.two_pow_pos (8 * k))).2 (by rw [Nat.one_mul]; exact hov)
        omega
      have HE := hid he
      clear he hov
      go_wp2_with fail
      refine (mfail_any h 3).mono ?_
      rintro e w1 ⟨rfl, hm, hP⟩
      have HH := hid (And.intro hm hP)
      clear hm hP h
      go_wp2_with fail
      go_end0
      exact ⟨rfl, by rw [HE.out, put_err _ _ (by decide)]; exact ⟨_, _, HH.out.1, HH.out.2⟩⟩
    · have he : uErr v (k : Int) = 0 := by unfold uErr; rw [if_neg hn, Int.toNat_natCast, if_neg hov]
      have ht : ((v : Int) / 2 ^ (8 * k) != 0) = false := by
        rw [show (v : Int) / 2 ^ (8 * k) = ((v / 2 ^ (8 * k) : Nat) : Int) from by push_cast; rfl, Nat.div_eq_of_lt (by omega)]
        rfl
      have HE := hid he
      clear he hov
      by_cases hF : F = 0
      · subst hF
        go_wp2_with fail
        refine (number_ok h hB v k hv hk8 hlen).mono ?_
        rintro e w1 ⟨rfl, ao', cap', hm, hP⟩
        have HH := hid (And.intro hm hP)
        clear hm hP h
        go_wp2_with fail
        go_end0
        exact ⟨rfl, by rw [HE.out]; exact ⟨ao', cap', HH.out.1, HH.out.2⟩⟩
      · have HF := hid hF
        clear hF
        go_wp2_with fail
        refine (number_err h HF.out v k hv hk8).mono ?_
        rintro e w1 ⟨rfl, hb⟩
        have hm := h.below hb
        rw [h.err HF.out] at hm
        have HH := hid (And.intro hm (Psh.new hb p ao))
        have HL := hid (h.err HF.out)
        clear hm hb h
        go_wp2_with fail
        go_end0
        exact ⟨rfl, by rw [HE.out]; unfold put; rw [if_neg HF.out]; exact ⟨ao, cap, HH.out.1, HH.out.2⟩⟩

def iErr (v n : Int) : Nat := if n < 1 ∨ 8 < n then 1 else if v < -2 ^ (8 * n.toNat - 1) ∨ 2 ^ (8 * n.toNat - 1) ≤ v then 3 else 0
/-- A number's 64 bits. -/
def u64 (v : Int) : Nat := (v % 18446744073709551616).toNat

theorem u64_lt (v : Int) : u64 v < 18446744073709551616 := by unfold u64; omega
theorem u64_wrap (v : Int) : IntKind.u64.wrap v = (u64 v : Int) := by
  rw [show IntKind.u64.wrap v = v % 18446744073709551616 from by simp [IntKind.wrap, IntKind.bits, IntKind.signed]]
  unfold u64; omega
theorem quo_in (v d : Int) (hd : 0 < d) (h : ¬ (v < -d ∨ d ≤ v)) : v / d = 0 ∨ v / d = -1 := by
  by_cases hv : 0 ≤ v
  · exact .inl (Int.ediv_eq_zero_of_lt hv (by omega))
  · have h1 : -1 ≤ v / d := Int.le_ediv_of_mul_le hd (by omega)
    have h2 : v / d < 0 := Int.ediv_neg_of_neg_of_pos (by omega) hd
    omega
theorem quo_out (v d : Int) (hd : 0 < d) (h : v < -d ∨ d ≤ v) : v / d ≠ 0 ∧ v / d ≠ -1 := by
  rcases h with h | h
  · have h1 : v / d < -1 := Int.ediv_lt_of_lt_mul hd (by omega)
    omega
  · have h1 : 1 ≤ v / d := Int.le_ediv_of_mul_le hd (by omega)
    omega

/-- The rest of I, where the number fits. -/
theorem i_lay {w : World} {B p cap F : Nat} {ao : Option Addr} {l : List Nat} (h : MkA w B p ao cap F l) (hB : B ≤ w.heap.size) (v k : Nat) (hv : v < 18446744073709551616) (hk8 : k ≤ 8) (hlen : l.length ≤ 549755813888) :
    Calls Try.prog 43 #[.pointer (some ⟨p, 0, none⟩), .int .u64 (v : Int), .int .i64 (k : Int)] w fun e w' => e = .returned (.tuple #[]) ∧ Aft w B p ao (put (F, l) 0 (le v k)) w' := by
  by_cases hF : F = 0
  · subst hF
    refine (number_ok h hB v k hv hk8 hlen).mono ?_
    rintro e w1 ⟨rfl, ao', cap', hm, hP⟩
    exact ⟨rfl, ao', cap', hm, hP⟩
  · refine (number_err h hF v k hv hk8).mono ?_
    rintro e w1 ⟨rfl, hb⟩
    have hm := h.below hb
    rw [h.err hF] at hm
    exact ⟨rfl, by unfold put; rw [if_neg hF]; exact ⟨ao, cap, hm, Psh.new hb p ao⟩⟩

end Go.Proofs.Ythaikhnplbbdlaa.Fld
