/- What is put is got, and the other way round: of lists of bytes alone. Conditions: info that is right, bytes. -/
import Derived.Test.YthaikhnplbbdlaaNh
namespace Go.Proofs.Ythaikhnplbbdlaa.Inf
open Go.RowKit Gen Fld
open Crc hiding hid

theorem le_lev : ∀ (n : Nat) (m : List Nat), m.length = n → (∀ b ∈ m, b < 256) → ∀ u, le (lev m + 2 ^ (8 * n) * u) n = m
  | 0, m, hl, _, u => by rw [List.eq_nil_of_length_eq_zero hl]; rfl
  | n + 1, m, hl, hb, u => by
    have hne : m ≠ [] := fun e => by rw [e] at hl; simp at hl
    have hm := (List.dropLast_concat_getLast hne).symm
    obtain ⟨d, hd⟩ : ∃ d, d = m.dropLast := ⟨_, rfl⟩
    obtain ⟨x, hx⟩ : ∃ x, x = m.getLast hne := ⟨_, rfl⟩
    rw [← hd, ← hx] at hm
    have hdl : d.length = n := by rw [hd, List.length_dropLast]; omega
    have hxb : x < 256 := hb x (by rw [hx]; exact List.getLast_mem hne)
    have hdb : ∀ b ∈ d, b < 256 := fun b h => hb b (by rw [hm]; exact List.mem_append_left _ h)
    have ih := le_lev n d hdl hdb (x + 256 * u)
    have hlt := lev_lt d hdb
    rw [hdl] at hlt
    have e1 : lev m + 2 ^ (8 * (n + 1)) * u = lev d + 2 ^ (8 * n) * (x + 256 * u) := by
      rw [hm, lev_app, hdl, show 8 * (n + 1) = 8 * n + 8 from by omega, Nat.pow_add]
      show lev d + 2 ^ (8 * n) * (x + 256 * 0) + 2 ^ (8 * n) * 256 * u = _
      rw [Nat.mul_add, Nat.mul_assoc, Nat.mul_add]; omega
    show le _ n ++ [_ / 2 ^ (8 * n) % 256] = m
    rw [e1, ih, Nat.add_mul_div_left _ _ (Nat.pow_pos (by decide)), Nat.div_eq_of_lt hlt, Nat.zero_add, Nat.add_mul_mod_self_left, Nat.mod_eq_of_lt hxb, ← hm]
theorem le_of_lev {m : List Nat} {n : Nat} (hl : m.length = n) (hb : ∀ b ∈ m, b < 256) : le (lev m) n = m := by
  have := le_lev n m hl hb 0
  rwa [Nat.mul_zero, Nat.add_zero] at this
theorem tk {A B : List Nat} {k : Nat} (h : A.length = k) : (A ++ B).take k = A := by subst h; simp
theorem dp {A B : List Nat} {k : Nat} (h : A.length = k) : (A ++ B).drop k = B := by subst h; simp
theorem at_mid {l P R : List Nat} {v j n : Nat} (hl : l = P ++ (le v n ++ R)) (hP : P.length = j) (hv : v < 2 ^ (8 * n)) : at_ l j n = v := by
  unfold at_
  rw [hl, dp hP, tk (le_len v n), lev_le, Nat.mod_eq_of_lt hv]
theorem le_at_ {l : List Nat} (hb : ∀ b ∈ l, b < 256) (j n : Nat) (h : j + n ≤ l.length) : le (at_ l j n) n = (l.drop j).take n :=
  le_of_lev (by rw [List.length_take, List.length_drop]; omega) (fun b h => hb b (List.mem_of_mem_drop (List.mem_of_mem_take h)))
theorem take_more (l : List Nat) (j n : Nat) : l.take j ++ (l.drop j).take n = l.take (j + n) := by rw [List.take_add]
/-- What is put is got, whatever stands behind it. -/
theorem get_iby (i : If) (hr : Rt i) (q : List Nat) : getE (iby i ++ q) = 0 ∧ getI (iby i ++ q) = i := by
  have hlen := iby_len i
  obtain ⟨k, ch, bits, rate, bk, sh, rfl, lk, lch, lbi, lra, lbk, lsh⟩ := rt_nat i hr
  obtain ⟨l, hl⟩ : ∃ l, l = iby ⟨(k : Int), ⟨(ch : Int), (bits : Int), (rate : Int)⟩, (bk : Int), (sh : Int)⟩ ++ q := ⟨_, rfl⟩
  rw [← hl]
  have hpre : ipre ⟨(k : Int), ⟨(ch : Int), (bits : Int), (rate : Int)⟩, (bk : Int), (sh : Int)⟩ = mk4 ++ le k 1 ++ le ch 1 ++ le bits 1 ++ le sh 1 ++ le rate 3 ++ le bk 4 := rfl
  have hpl := ipre_len ⟨(k : Int), ⟨(ch : Int), (bits : Int), (rate : Int)⟩, (bk : Int), (sh : Int)⟩
  have hcs := cs_lt (ipre_lt ⟨(k : Int), ⟨(ch : Int), (bits : Int), (rate : Int)⟩, (bk : Int), (sh : Int)⟩)
  have hll : 19 ≤ l.length := by rw [hl, List.length_append, hlen]; omega
  unfold iby smd at hl
  have h15 : l.take 15 = ipre ⟨(k : Int), ⟨(ch : Int), (bits : Int), (rate : Int)⟩, (bk : Int), (sh : Int)⟩ := by rw [hl, List.append_assoc]; exact tk hpl
  have hsm : Sm l := by
    unfold Sm
    rw [h15]
    exact at_mid (P := ipre ⟨(k : Int), ⟨(ch : Int), (bits : Int), (rate : Int)⟩, (bk : Int), (sh : Int)⟩) (R := q) (by rw [hl, List.append_assoc]) hpl hcs
  rw [hpre] at hl
  generalize le (cs (mk4 ++ le k 1 ++ le ch 1 ++ le bits 1 ++ le sh 1 ++ le rate 3 ++ le bk 4)) 4 ++ q = R at *
  have hbg : Bgn l := by
    unfold Bgn
    rw [List.take_of_length_le (l := mk4) (by show 4 ≤ l.length; omega), hl]
    simp only [List.append_assoc]
    exact tk rfl
  have e1 : at_ l 4 1 = k := at_mid (P := mk4) (by rw [hl]; simp only [List.append_assoc]; rfl) rfl (by exact lk)
  have e2 : at_ l 5 1 = ch := at_mid (P := mk4 ++ le k 1) (by rw [hl]; simp only [List.append_assoc]; rfl) (by simp only [List.length_append, le_len]; rfl) (by exact lch)
  have e3 : at_ l 6 1 = bits := at_mid (P := mk4 ++ le k 1 ++ le ch 1) (by rw [hl]; simp only [List.append_assoc]; rfl) (by simp only [List.length_append, le_len]; rfl) (by exact lbi)
  have e4 : at_ l 7 1 = sh := at_mid (P := mk4 ++ le k 1 ++ le ch 1 ++ le bits 1) (by rw [hl]; simp only [List.append_assoc]; rfl) (by simp only [List.length_append, le_len]; rfl) (by exact lsh)
  have e5 : at_ l 8 3 = rate := at_mid (P := mk4 ++ le k 1 ++ le ch 1 ++ le bits 1 ++ le sh 1) (by rw [hl]; simp only [List.append_assoc]; rfl) (by simp only [List.length_append, le_len]; rfl) (by exact lra)
  have e6 : at_ l 11 4 = bk := at_mid (P := mk4 ++ le k 1 ++ le ch 1 ++ le bits 1 ++ le sh 1 ++ le rate 3) (by rw [hl]; simp only [List.append_assoc]; rfl) (by simp only [List.length_append, le_len]; rfl) (by exact lbk)
  have hin : inl l = ⟨(k : Int), ⟨(ch : Int), (bits : Int), (rate : Int)⟩, (bk : Int), (sh : Int)⟩ := by
    unfold inl
    rw [e1, e2, e3, e4, e5, e6]
  have hge : getE l = 0 := by
    unfold getE
    rw [if_neg (fun h => h hbg), if_neg (by omega), if_neg (fun h => h hsm), hin, if_neg (fun h => h hr)]
  exact ⟨hge, (if_pos hge).trans hin⟩
/-- What is got is put as the bytes that it was. -/
theorem iby_get {l : List Nat} (hb : ∀ b ∈ l, b < 256) (h : getE l = 0) : Rt (inl l) ∧ 19 ≤ l.length ∧ iby (inl l) = l.take 19 := by
  unfold getE at h
  by_cases h1 : Bgn l
  · rw [if_neg (fun h => h h1)] at h
    by_cases h2 : l.length < 19
    · rw [if_pos h2] at h; cases h
    · rw [if_neg h2] at h
      by_cases h3 : Sm l
      · rw [if_neg (fun h => h h3)] at h
        by_cases h4 : Rt (inl l)
        · refine ⟨h4, by omega, ?_⟩
          have hp : ipre (inl l) = l.take 15 := by
            have h5 : mk4 = l.take 4 := by
              unfold Bgn at h1
              rw [h1, List.take_of_length_le (l := mk4) (by show 4 ≤ l.length; omega)]
            show mk4 ++ le (at_ l 4 1) 1 ++ le (at_ l 5 1) 1 ++ le (at_ l 6 1) 1 ++ le (at_ l 7 1) 1 ++ le (at_ l 8 3) 3 ++ le (at_ l 11 4) 4 = _
            rw [le_at_ hb 4 1 (by omega), le_at_ hb 5 1 (by omega), le_at_ hb 6 1 (by omega), le_at_ hb 7 1 (by omega), le_at_ hb 8 3 (by omega), le_at_ hb 11 4 (by omega), h5]
            rw [take_more l 4 1, take_more l 5 1, take_more l 6 1, take_more l 7 1, take_more l 8 3, take_more l 11 4]
          unfold iby smd
          rw [hp, ← (show at_ l 15 4 = cs (l.take 15) from h3), le_at_ hb 15 4 (by omega), take_more l 15 4]
        · rw [if_pos h4] at h; cases h
      · rw [if_pos h3] at h; cases h
  · rw [if_pos h1] at h; cases h
end Go.Proofs.Ythaikhnplbbdlaa.Inf
