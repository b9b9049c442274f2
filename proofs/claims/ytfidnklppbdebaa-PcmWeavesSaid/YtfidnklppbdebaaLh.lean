/- A sound's weave, parted, is the sound; a list's parts, woven, are the list. Conditions: the sound is right; the list can be parted. -/
import Derived.Test.YtfidnklppbdebaaLg
import Derived.Test.YtfidnklppbdebaaLa
import Derived.Test.YtfidnklppbdebaaKe
import Derived.Test.YtfidnklppbdebaaKn
import Derived.Test.YtfidnklppbdebaaSm
namespace Go.Proofs.Ytfidnklppbdebaa.Pcm
open Go.RowKit Gen

theorem pcode_ok {f : Fmt} {L : Nat} {X : Nat → Int} (h : pcode f L X = 0) : f.right ∧ (L : Int) % f.ch = 0 ∧ pfar f L X = false := by
  unfold pcode at h
  by_cases h1 : f.right
  · rw [if_neg (fun g => g h1)] at h
    by_cases h2 : (L : Int) % f.ch = 0
    · rw [if_neg (fun g => g h2)] at h
      cases h3 : pfar f L X with
      | true => rw [if_pos h3] at h; cases h
      | false => exact ⟨h1, h2, rfl⟩
    · rw [if_pos h2] at h; cases h
  · rw [if_pos h1] at h; cases h
theorem pcode_0 {f : Fmt} {L : Nat} {X : Nat → Int} (h1 : f.right) (h2 : (L : Int) % f.ch = 0) (h3 : pfar f L X = false) : pcode f L X = 0 := by
  unfold pcode
  rw [if_neg (fun g => g h1), if_neg (fun g => g h2), if_neg (by rw [h3]; decide)]
theorem any_not {q : Nat → Bool} {n i : Nat} (h : anyB q n = false) (hi : i < n) : q i = false := by
  cases hq : q i with
  | false => rfl
  | true => rw [(any_iff q n).2 ⟨i, hi, hq⟩] at h; cases h
theorem any_none {q : Nat → Bool} {n : Nat} (h : ∀ i, i < n → q i = false) : anyB q n = false := by
  cases hq : anyB q n with
  | false => rfl
  | true => obtain ⟨i, hi, h2⟩ := (any_iff q n).1 hq; rw [h i hi] at h2; cases h2
theorem weave_part {d : Dat} (h : d.chk = 0) : pcode d.f (d.n * d.cnt) d.wv = 0 ∧ ∀ s, PartOk d.f (d.n * d.cnt) d.wv s → same s d = true := by
  obtain ⟨h1, h2, h3, h4, h5, h6, h7⟩ := chk_ok h
  refine ⟨pcode_0 h1 ?_ ?_, fun s hs => ?_⟩
  · rw [← h2, rem_nat, Nat.mul_mod_right]; rfl
  · refine any_none fun i hi => ?_
    unfold Dat.wv
    have hi1 : i % d.n < d.n := Nat.mod_lt _ h4
    have hi2 : i / d.n < d.cnt := Nat.div_lt_of_lt_mul hi
    have := any_not h7 hi1
    exact any_not (show anyB (fun j => beyond (2 ^ (d.f.bits.toNat - 1)) (d.X (i % d.n) j)) (d.ln (i % d.n)) = false from this) (by rw [h6 _ hi1]; exact hi2)
  · obtain ⟨e1, e2, e3⟩ := hs
    have e4 : s.n = d.n := by omega
    rw [same_yes e1]
    refine eqS_all e4 fun k hk => ?_
    obtain ⟨e5, e6⟩ := e3 k hk
    unfold eqL
    rw [e5, e6, e4, Nat.mul_div_cancel_left _ h4, h6 k (by omega)]
    refine eqI_all fun m hm => ?_
    unfold Dat.wv
    rw [Nat.mul_add_mod, Nat.mod_eq_of_lt (by omega), Nat.mul_add_div h4, Nat.div_eq_of_lt (by omega), Nat.add_zero]
theorem part_weave {f : Fmt} {L : Nat} {X : Nat → Int} {p : Dat} (h : pcode f L X = 0) (hp : PartOk f L X p) (hL : L ≤ 4294967295) : p.chk = 0 ∧ p.n * p.cnt = L ∧ ∀ i, i < L → p.wv i = X i := by
  obtain ⟨h1, h2, h3⟩ := pcode_ok h
  obtain ⟨e1, e2, e3⟩ := hp
  have hc1 := h1.1.1
  have h0 : 0 < p.n := by omega
  have hcnt : p.cnt = L / p.n := cnt_of h0 fun k hk => (e3 k hk).1
  have hmod : L % p.n = 0 := by
    rw [← e2, rem_nat] at h2
    omega
  have hprod : p.n * (L / p.n) = L := by have := Nat.div_add_mod L p.n; omega
  have hle := Nat.div_le_self L p.n
  refine ⟨?_, by rw [hcnt]; exact hprod, fun i hi => ?_⟩
  · unfold Dat.chk
    rw [if_neg (fun g => g (by rw [e1]; exact h1)), if_neg, if_neg]
    · intro g
      obtain ⟨i, hi, g2⟩ := (any_iff _ _).1 g
      obtain ⟨j, hj, g3⟩ := (any_iff _ _).1 g2
      rw [(e3 i hi).1] at hj
      rw [(e3 i hi).2, e1] at g3
      have := any_not h3 (show p.n * j + i < L by rw [← hprod]; exact place_lt hj hi)
      simp only [] at g3
      rw [this] at g3
      cases g3
    · rintro (g | g | g)
      · exact g (by rw [e1, e2])
      · omega
      · obtain ⟨i, hi, g2⟩ := (any_iff _ _).1 g
        exact bne_iff_ne.1 g2 (by rw [(e3 i hi).1, hcnt])
  · unfold Dat.wv
    rw [(e3 _ (Nat.mod_lt _ h0)).2]
    show X (p.n * (i / p.n) + i % p.n) = X i
    rw [Nat.div_add_mod]
theorem part_same {f : Fmt} {L : Nat} {X : Nat → Int} {p q : Dat} (hp : PartOk f L X p) (hq : PartOk f L X q) : same p q = true := by
  obtain ⟨e1, e2, e3⟩ := hp
  obtain ⟨g1, g2, g3⟩ := hq
  have e4 : p.n = q.n := by omega
  rw [same_yes (e1.trans g1.symm)]
  refine eqS_all e4 fun k hk => ?_
  unfold eqL
  rw [(e3 k hk).1, (e3 k hk).2, (g3 k (by omega)).1, (g3 k (by omega)).2, e4]
  exact eqI_all fun _ _ => rfl
theorem nil_same : same Dat.nil Dat.nil = true := by rw [same_yes rfl]; exact eqS_all rfl fun i hi => absurd hi (Nat.not_lt_zero i)
theorem Row.below {w w' : World} {B : Nat} {lo : Option Addr} {lcap len : Nat} {f : Nat → Int} (h : Row w B lo lcap f len) (hb : Below w.heap.size w w') : Row w' B lo lcap f len := h.upto hb

end Go.Proofs.Ytfidnklppbdebaa.Pcm
