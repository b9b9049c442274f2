/- What is read of a WAV's bytes, as lists: its format, its samples, the first error. No program. -/
import Derived.Test.YtkdpalmdcnpnoaaW3
import Derived.Test.YtkdpalmdcnpnoaaL1
import Derived.Test.YtkdpalmdcnpnoaaRi
import Derived.Test.YtkdpalmdcnpnoaaQc
import Derived.Test.YtkdpalmdcnpnoaaCm
import Derived.ChangeKeysEq
import Derived.Test.YtkdpalmdcnpnoaaAp
namespace Go.Proofs.Ytkdpalmdcnpnoaa.Wv
open Go.RowKit Gen Fld Pcm

/-- Some bytes of a list. -/
def sub (m : List Nat) (i k : Nat) : List Nat := (m.drop i).take k
theorem sub_len {m : List Nat} {i k : Nat} (h : i + k ≤ m.length) : (sub m i k).length = k := by unfold sub; rw [List.length_take, List.length_drop]; omega
theorem sub_lt {m : List Nat} (h : ∀ b ∈ m, b < 256) (i k : Nat) : ∀ b ∈ sub m i k, b < 256 := fun b hb => h b (List.mem_of_mem_drop (List.mem_of_mem_take hb))
/-- A sample of bytes, whether its free bits are 0, the bytes of a list's sample. -/
def smr (n : Int) (t : List Nat) : Int := if n = 8 then (lev t : Int) - 128 else sgn t / ((2 ^ fre n : Nat) : Int)
def smk (n : Int) (t : List Nat) : Bool := decide (n = 8 ∨ sgn t % ((2 ^ fre n : Nat) : Int) = 0)
def smt (n : Int) (m : List Nat) (i : Nat) : List Nat := sub m (i * wd n) (wd n)
def smx (n : Int) (m : List Nat) (i : Nat) : Int := smr n (smt n m i)
/-- The format that a chunk's bytes tell, and what is wrong with them. -/
def fmc (m : List Nat) : Nat := lev (sub m 2 2)
def fmn (m : List Nat) : Nat := lev (sub m 14 2)
def fmr (m : List Nat) : Nat := lev (sub m 4 4)
def fmf (m : List Nat) : Fmt := ⟨fmc m, fmn m, fmr m⟩
def fcode (m : List Nat) : Nat := if m.length ≠ 16 then 51 else if ¬ (fmf m).right ∨ m ≠ fmtb (fmc m) (fmn m) (fmr m) then 20 else 0
/-- What is wrong with a data chunk's bytes. -/
def dcode (f m : List Nat) : Nat := if m.length % (fmc f * wd (fmn f : Int)) ≠ 0 then 22 else if anyB (fun i => !smk (fmn f : Int) (smt (fmn f : Int) m i)) (m.length / wd (fmn f : Int)) = true then 21 else 0
/-- What is read, chunk by chunk: the format's bytes, those of the data, the first error. -/
def rdl (b : List Nat) : List Chk → Option (List Nat) → Option (List Nat × List Nat) → Nat × Option (List Nat × List Nat)
  | [], _, none => (51, none)
  | [], _, some s => (0, some s)
  | c :: t, F, S =>
    if c.nm = [102, 109, 116, 32] then
      if F.isSome then (51, none) else if fcode (sub b c.at_ c.sz) = 0 then rdl b t (some (sub b c.at_ c.sz)) S else (fcode (sub b c.at_ c.sz), none)
    else if c.nm = [100, 97, 116, 97] then
      match F with
      | none => (51, none)
      | some f => if S.isSome then (51, none) else if dcode f (sub b c.at_ c.sz) = 0 then rdl b t (some f) (some (f, sub b c.at_ c.sz)) else (dcode f (sub b c.at_ c.sz), none)
    else rdl b t F S
def rdw (b : List Nat) : Nat × Option (List Nat × List Nat) := if (chunks b).1 = 0 then rdl b (chunks b).2 none none else ((chunks b).1, none)
/-- The sound that is read. -/
def Rok (s : Option (List Nat × List Nat)) (d : Dat) : Prop :=
  match s with
  | none => d = Dat.nil
  | some (f, m) => PartOk (fmf f) (m.length / wd (fmn f : Int)) (smx (fmn f : Int) m) d
theorem cks_in : ∀ (f : Nat) (r : List Nat) (p N : Nat), p + r.length = N → ∀ x ∈ cks f r p, x.1.at_ + x.1.sz ≤ N ∧ (x.1.nm = [] ∨ ∃ k, x.1.nm = sub r k 4)
  | 0, _, _, _, _, x, hx => by cases hx
  | f + 1, r, p, N, hN, x, hx => by
    rw [cks] at hx
    split at hx
    · cases hx
    · split at hx
      · rename_i h1 h2
        obtain ⟨h3, _⟩ := ncode_zero h2
        rcases List.mem_cons.1 hx with rfl | hx
        · refine ⟨?_, .inr ⟨0, rfl⟩⟩
          show p + 8 + nsz4 r ≤ N
          unfold nlen at h3
          omega
        · obtain ⟨h4, h5⟩ := cks_in f _ _ N (by rw [List.length_drop]; omega) x hx
          refine ⟨h4, h5.imp id fun ⟨k, hk⟩ => ⟨nlen r + k, ?_⟩⟩
          rw [hk]
          unfold sub
          rw [List.drop_drop]
      · rw [List.mem_singleton.1 hx]
        exact ⟨Nat.zero_le _, .inl rfl⟩
theorem hcode_12 {b : List Nat} (h : hcode b = 0) : 12 ≤ b.length := by
  unfold hcode at h
  split at h
  · cases h
  · split at h
    · cases h
    · omega
theorem ends_mem (all : List (Chk × Nat)) : ∀ c ∈ (ends all).2, ∃ e, (c, e) ∈ all := by
  intro c hc
  unfold ends at hc
  split at hc
  · cases hc
  · split at hc
    · obtain ⟨x, hx, rfl⟩ := List.mem_map.1 hc
      exact ⟨x.2, hx⟩
    · cases hc
theorem chunks_in_b {b : List Nat} (hb : ∀ x ∈ b, x < 256) : ∀ c ∈ (chunks b).2, c.at_ + c.sz ≤ b.length ∧ ∀ x ∈ c.nm, x < 256 := by
  intro c hc
  unfold chunks at hc
  split at hc
  · rename_i h
    obtain ⟨e, he⟩ := ends_mem _ c hc
    obtain ⟨h1, h2⟩ := cks_in _ _ _ b.length (by rw [List.length_drop]; have := hcode_12 h; omega) _ he
    refine ⟨h1, fun x hx => ?_⟩
    rcases h2 with h2 | ⟨k, h2⟩
    · have h3 : c.nm = [] := h2
      rw [h3] at hx; cases hx
    · have h3 : c.nm = sub (b.drop 12) k 4 := h2
      rw [h3] at hx
      exact hb x (List.mem_of_mem_drop (List.mem_of_mem_drop (List.mem_of_mem_take hx)))
  · cases hc
theorem rdw_no {b : List Nat} (h : (chunks b).1 ≠ 0) : rdw b = ((chunks b).1, none) := if_neg h
end Go.Proofs.Ytkdpalmdcnpnoaa.Wv
namespace Go.Proofs.Ytkdpalmdcnpnoaa.Wv
open Go.RowKit Gen Fld Pcm

theorem le_lev : ∀ (n : Nat) (m : List Nat), m.length = n → (∀ b ∈ m, b < 256) → ∀ u, le (lev m + 2 ^ (8 * n) * u) n = m
  | 0, m, hl, _, u => by rw [List.eq_nil_of_length_eq_zero hl]; rfl
  | n + 1, m, hl, hb, u => by
    have hne : m ≠ [] := fun e => by rw [e] at hl; simp at hl
    have hm := (List.dropLast_concat_getLast hne).symm
    obtain ⟨d, hd⟩ : ∃ d, d = m.dropLast := ⟨_, rfl⟩
    obtain ⟨x, hx⟩ : ∃ x, x = m.getLast hne := ⟨_, rfl⟩
    rw [← hd, ← hx] at hm
    have hdl : d.length = n := by rw [hd, List.length_dropLast]; omega
    have hxb : x < 256 := hb x (by rw [hx]; exact List.getLast_mem hne)
    have hdb : ∀ b ∈ d, b < 256 := fun b h => hb b (by rw [hm]; exact List.mem_append_left _ h)
    have ih := le_lev n d hdl hdb (x + 256 * u)
    have hlt := lev_lt d hdb
    rw [hdl] at hlt
    have e1 : lev m + 2 ^ (8 * (n + 1)) * u = lev d + 2 ^ (8 * n) * (x + 256 * u) := by
      rw [hm, lev_app, hdl, show 8 * (n + 1) = 8 * n + 8 from by omega, Nat.pow_add]
      show lev d + 2 ^ (8 * n) * (x + 256 * 0) + 2 ^ (8 * n) * 256 * u = _
      rw [Nat.mul_add, Nat.mul_assoc, Nat.mul_add]; omega
    show le _ n ++ [_ / 2 ^ (8 * n) % 256] = m
    rw [e1, ih, Nat.add_mul_div_left _ _ (Nat.pow_pos (by decide)), Nat.div_eq_of_lt hlt, Nat.zero_add, Nat.add_mul_mod_self_left, Nat.mod_eq_of_lt hxb, ← hm]
theorem le_of_lev {m : List Nat} {n : Nat} (hl : m.length = n) (hb : ∀ b ∈ m, b < 256) : le (lev m) n = m := by
  have := le_lev n m hl hb 0
  rwa [Nat.mul_zero, Nat.add_zero] at this
theorem lev_of_le {v k : Nat} (h : v < 2 ^ (8 * k)) : lev (le v k) = v := by rw [lev_le, Nat.mod_eq_of_lt h]
theorem sub_cat (m : List Nat) (i k j : Nat) (h : j = i + k) : m.drop i = sub m i k ++ m.drop j := by
  unfold sub
  rw [h, ← List.drop_drop, List.take_append_drop]
theorem sub_all {m : List Nat} {i k : Nat} (h : i + k = m.length) : m.drop i = sub m i k := by
  unfold sub
  rw [List.take_of_length_le]
  rw [List.length_drop]; omega
theorem six_parts {m : List Nat} (hl : m.length = 16) : m = sub m 0 2 ++ (sub m 2 2 ++ (sub m 4 4 ++ (sub m 8 4 ++ (sub m 12 2 ++ sub m 14 2)))) := by
  have h0 : m = m.drop 0 := (List.drop_zero).symm
  conv => lhs; rw [h0, sub_cat m 0 2 2 rfl, sub_cat m 2 2 4 rfl, sub_cat m 4 4 8 rfl, sub_cat m 8 4 12 rfl, sub_cat m 12 2 14 rfl, sub_all (i := 14) (k := 2) (by omega)]
theorem app_inj {a b c d : List Nat} (h : a ++ b = c ++ d) (hl : a.length = c.length) : a = c ∧ b = d := List.append_inj h hl
/-- Sixteen bytes are those of a format just if the six numbers are. -/
theorem six_iff {m : List Nat} (hl : m.length = 16) (hb : ∀ b ∈ m, b < 256) (hr : (fmf m).right) : m = fmtb (fmc m) (fmn m) (fmr m) ↔
    lev (sub m 0 2) = 1 ∧ lev (sub m 8 4) = fmr m * (fmc m * wd (fmn m : Int)) ∧ lev (sub m 12 2) = fmc m * wd (fmn m : Int) := by
  have hc8 : fmc m ≤ 8 := by have h : ((fmc m : Nat) : Int) ≤ 8 := hr.1.2; omega
  have hr8 : fmr m ≤ 1048575 := by have h : ((fmr m : Nat) : Int) ≤ 1048575 := hr.2.2.2; omega
  have hy : fmc m * wd (fmn m : Int) ≤ 24 := Nat.le_trans (Nat.mul_le_mul hc8 (wd_le _)) (by decide)
  have hz : fmr m * (fmc m * wd (fmn m : Int)) ≤ 25165800 := Nat.le_trans (Nat.mul_le_mul hr8 hy) (by decide)
  have hp := six_parts hl
  have s0 : (sub m 0 2).length = 2 := sub_len (by omega)
  have s1 : (sub m 2 2).length = 2 := sub_len (by omega)
  have s2 : (sub m 4 4).length = 4 := sub_len (by omega)
  have s3 : (sub m 8 4).length = 4 := sub_len (by omega)
  have s4 : (sub m 12 2).length = 2 := sub_len (by omega)
  have s5 : (sub m 14 2).length = 2 := sub_len (by omega)
  have e1 : le (fmc m) 2 = sub m 2 2 := le_of_lev s1 (sub_lt hb _ _)
  have e2 : le (fmr m) 4 = sub m 4 4 := le_of_lev s2 (sub_lt hb _ _)
  have e5 : le (fmn m) 2 = sub m 14 2 := le_of_lev s5 (sub_lt hb _ _)
  have hf : fmtb (fmc m) (fmn m) (fmr m) = le 1 2 ++ (sub m 2 2 ++ (sub m 4 4 ++ (le (fmr m * (fmc m * wd (fmn m : Int))) 4 ++ (le (fmc m * wd (fmn m : Int)) 2 ++ sub m 14 2)))) := by
    unfold fmtb
    rw [e1, e2, e5]
    simp only [List.append_assoc]
  constructor
  · intro h
    have h1 := hp.symm.trans (h.trans hf)
    obtain ⟨a0, h2⟩ := app_inj h1 (by rw [s0, le_len])
    obtain ⟨_, h3⟩ := app_inj h2 rfl
    obtain ⟨_, h4⟩ := app_inj h3 rfl
    obtain ⟨a3, h5⟩ := app_inj h4 (by rw [s3, le_len])
    obtain ⟨a4, _⟩ := app_inj h5 (by rw [s4, le_len])
    refine ⟨by rw [a0]; decide, ?_, ?_⟩
    · rw [a3]; exact lev_of_le (by show _ < 4294967296; omega)
    · rw [a4]; exact lev_of_le (by show _ < 65536; omega)
  · rintro ⟨h0, h3, h4⟩
    have a0 : le 1 2 = sub m 0 2 := by rw [← h0]; exact le_of_lev s0 (sub_lt hb _ _)
    have a3 : le (fmr m * (fmc m * wd (fmn m : Int))) 4 = sub m 8 4 := by rw [← h3]; exact le_of_lev s3 (sub_lt hb _ _)
    have a4 : le (fmc m * wd (fmn m : Int)) 2 = sub m 12 2 := by rw [← h4]; exact le_of_lev s4 (sub_lt hb _ _)
    rw [hf, a0, a3, a4]
    exact hp
theorem fcode_right {m : List Nat} (h : fcode m = 0) : m.length = 16 ∧ (fmf m).right ∧ m = fmtb (fmc m) (fmn m) (fmr m) := by
  unfold fcode at h
  split at h
  · cases h
  · split at h
    · cases h
    · rename_i h1 h2
      exact ⟨Decidable.not_not.1 h1, Decidable.not_not.1 fun h3 => h2 (.inl h3), Decidable.not_not.1 fun h3 => h2 (.inr h3)⟩
theorem wd_pos {n : Int} (h1 : 8 ≤ n) (h2 : n ≤ 24) : 1 ≤ wd n := by
  unfold wd
  rw [if_neg (by omega)]
  split
  · omega
  · split <;> omega
/-- A sample is of its bits. -/
theorem smr_in {n : Int} {t : List Nat} (h1 : 8 ≤ n) (h2 : n ≤ 24) (hb : ∀ b ∈ t, b < 256) (hl : t.length = wd n) : beyond (2 ^ (n.toNat - 1)) (smr n t) = false := by
  have hlt := lev_lt t hb
  rw [hl] at hlt
  unfold beyond
  rw [Bool.not_eq_false', decide_eq_true_eq]
  by_cases h8 : n = 8
  · subst h8
    have hx : lev t < 256 := hlt
    unfold smr
    rw [if_pos rfl]
    show -((128 : Nat) : Int) ≤ _ ∧ _ ≤ ((128 : Nat) : Int) - 1
    omega
  · obtain ⟨w1, w2, w3⟩ := wd_fre (n := n) (by omega) h2
    unfold smr
    rw [if_neg h8]
    have hs : -(2 ^ (8 * wd n - 1) : Int) ≤ sgn t ∧ sgn t ≤ 2 ^ (8 * wd n - 1) - 1 := by
      have e : (2 : Nat) ^ (8 * wd n) = 2 * 2 ^ (8 * wd n - 1) := by
        rw [show 8 * wd n = (8 * wd n - 1) + 1 from by omega, Nat.pow_succ, Nat.mul_comm]
        simp
      have e2 : (2 : Int) ^ (8 * wd n) = 2 * 2 ^ (8 * wd n - 1) := by
        have := congrArg (fun x : Nat => (x : Int)) e
        simpa using this
      have e3 : ((2 ^ (8 * wd n - 1) : Nat) : Int) = 2 ^ (8 * wd n - 1) := by push_cast; rfl
      unfold sgn
      rw [hl, e2]
      rw [e] at hlt
      generalize (2 : Nat) ^ (8 * wd n - 1) = q at *
      rw [← e3]
      split <;> omega
    have e4 : (2 : Int) ^ (8 * wd n - 1) = ((2 ^ (n.toNat - 1) : Nat) : Int) * ((2 ^ fre n : Nat) : Int) := by
      rw [w2, show n.toNat + fre n - 1 = (n.toNat - 1) + fre n from by omega, Int.pow_add]
      push_cast; rfl
    rw [e4] at hs
    have hp : (0 : Int) < ((2 ^ fre n : Nat) : Int) := by have : 0 < 2 ^ fre n := Nat.pow_pos (by decide); omega
    generalize ((2 ^ fre n : Nat) : Int) = F at *
    generalize ((2 ^ (n.toNat - 1) : Nat) : Int) = M at *
    obtain ⟨ha, hb2⟩ := hs
    constructor
    · refine Int.le_ediv_of_mul_le hp ?_
      rw [Int.neg_mul]; exact ha
    · have : sgn t / F < M := Int.ediv_lt_of_lt_mul hp (by omega)
      omega
theorem smt_len {n : Int} {m : List Nat} {i : Nat} (h : i < m.length / wd n) : (smt n m i).length = wd n := by
  refine sub_len ?_
  have h1 : (i + 1) * wd n ≤ m.length := Nat.le_trans (Nat.mul_le_mul_right _ h) (Nat.div_mul_le_self _ _)
  rw [Nat.succ_mul] at h1
  exact h1
/-- Samples of so many bits, in whole frames of a right format, are always sound. -/
theorem part_zero {f m : List Nat} (hf : fcode f = 0) (hd : dcode f m = 0) (hb : ∀ b ∈ m, b < 256) : pcode (fmf f) (m.length / wd (fmn f : Int)) (smx (fmn f : Int) m) = 0 := by
  obtain ⟨_, hr, _⟩ := fcode_right hf
  have hn1 : 8 ≤ (fmn f : Int) := hr.2.1.1
  have hn2 : (fmn f : Int) ≤ 24 := hr.2.1.2
  have hw := wd_pos hn1 hn2
  unfold dcode at hd
  split at hd
  · cases hd
  · rename_i hm
    have hm0 : m.length % (fmc f * wd (fmn f : Int)) = 0 := Decidable.not_not.1 hm
    unfold pcode
    rw [if_neg (fun h => h hr)]
    have hdiv : ((m.length / wd (fmn f : Int) : Nat) : Int) % (fmf f).ch = 0 := by
      show ((m.length / wd (fmn f : Int) : Nat) : Int) % ((fmc f : Nat) : Int) = 0
      have h1 : fmc f ∣ m.length / wd (fmn f : Int) := by
        obtain ⟨q, hq⟩ := Nat.dvd_of_mod_eq_zero hm0
        refine ⟨q, ?_⟩
        rw [hq, Nat.mul_comm (fmc f), Nat.mul_assoc, Nat.mul_div_cancel_left _ (by omega)]
      have h2 := Nat.mod_eq_zero_of_dvd h1
      omega
    rw [if_neg (fun h => h hdiv)]
    have hfar : pfar (fmf f) (m.length / wd (fmn f : Int)) (smx (fmn f : Int) m) = false := by
      cases hp : pfar (fmf f) (m.length / wd (fmn f : Int)) (smx (fmn f : Int) m) with
      | false => rfl
      | true =>
        obtain ⟨i, hi, hx⟩ := (any_iff _ _).1 hp
        have h3 : beyond (2 ^ ((fmn f : Int).toNat - 1)) (smx (fmn f : Int) m i) = false := smr_in hn1 hn2 (sub_lt hb _ _) (smt_len hi)
        have h4 : beyond (2 ^ ((fmn f : Int).toNat - 1)) (smx (fmn f : Int) m i) = true := hx
        rw [h3] at h4; cases h4
    rw [hfar]
    rfl
end Go.Proofs.Ytkdpalmdcnpnoaa.Wv
namespace Go.Proofs.Ytkdpalmdcnpnoaa.Wv
open Go.RowKit Gen Fld Pcm

/-- How many bytes a field has, how many stand ahead of it, its number. -/
def siz (k : Nat) : Nat := if k = 2 ∨ k = 3 then 4 else 2
def ofs : Nat → Nat
  | 0 => 0
  | k + 1 => ofs k + siz k
def fld (m : List Nat) (k : Nat) : Nat := lev (sub m (ofs k) (siz k))
theorem siz_in (k : Nat) : 2 ≤ siz k ∧ siz k ≤ 4 := by unfold siz; split <;> omega
theorem ofs_le : ∀ k, k ≤ 6 → ofs k ≤ 16 := fun k hk => by
  have h : ∀ k : Fin 7, ofs k.val ≤ 16 := by decide
  exact h ⟨k, by omega⟩
theorem ofs_in (k : Nat) (h : k < 6) : ofs k + siz k ≤ 16 := ofs_le (k + 1) h
def six (m : List Nat) : Value := .agg #[.int .u64 (fld m 0 : Int), .int .u64 (fld m 1 : Int), .int .u64 (fld m 2 : Int), .int .u64 (fld m 3 : Int), .int .u64 (fld m 4 : Int), .int .u64 (fld m 5 : Int)]
theorem nx_fld {m : List Nat} (hm : m.length = 16) (k : Nat) (h : k < 6) : nx ⟨0, m.drop (ofs k), ofs k⟩ (siz k : Int) true = (sub m (ofs k) (siz k), ⟨0, m.drop (ofs (k + 1)), ofs (k + 1)⟩) := by
  have h1 := siz_in k
  have h2 := ofs_in k h
  rw [nx_ok rfl (fun _ => by omega) (by show _ ≤ (m.drop (ofs k)).length; rw [List.length_drop]; omega)]
  simp only [List.drop_drop]
  rfl
/-- The array so far. -/
def Arr (w : World) (g : Nat) (m : List Nat) (k : Nat) : Prop := ∀ i, i < 6 → (w.cell? ⟨g, i, none⟩ = some (.int .u64 ((if i < k then fld m i else 0 : Nat) : Int)) ∧ w.frozen? ⟨g, i, none⟩ = false)
def Ty68 (w : World) (g : Nat) : Prop := ∃ cs z, w.heap[g]? = some (.cells cs 68 z)
theorem Ty68.fr {w w' : World} {g : Nat} (h : Ty68 w g) {X : Nat → Prop} (hf : Fr X w w') (hg : ¬ X g) : Ty68 w' g := by
  obtain ⟨cs, z, h⟩ := h
  exact ⟨cs, z, (hf.block g (Array.getElem?_eq_some_iff.1 h).1 hg).trans h⟩
theorem Ty68.set {w : World} {g : Nat} (h : Ty68 w g) (k : Nat) (v : Value) : Ty68 (w.setCell ⟨g, k, none⟩ v) g := by
  obtain ⟨cs, z, h⟩ := h
  refine ⟨cs.setIfInBounds k v, z, ?_⟩
  unfold World.setCell
  simp [Array.getElem?_modify, h]
theorem TkS.other68 {w w' : World} {q g : Nat} {s : TS} (h : TkS w q s) (hf : Fr (fun b => b = g) w w') (hq : q ≠ g) (h68 : Ty68 w g) : TkS w' q s := by
  obtain ⟨a, cap, ht, h1, h2⟩ := h
  obtain ⟨cs, z, h3⟩ := h68
  refine ⟨a, cap, ht.keep hf hq (fun b off e hb => ?_), h1, h2⟩
  obtain ⟨b', off', e1, e2, _⟩ := ht.spot _ e
  obtain ⟨_, c5, z5, h5⟩ := e2
  cases e1
  have hb' : b = g := hb
  rw [hb', h3] at h5
  cases h5
theorem Arr.fr {w w' : World} {g k : Nat} {m : List Nat} (h : Arr w g m k) {X : Nat → Prop} (hf : Fr X w w') (hg : ¬ X g) : Arr w' g m k := fun i hi =>
  ⟨(hf.cell (p := ⟨g, i, none⟩) (World.block_lt_of_cell? w _ (h i hi).1) hg).trans (h i hi).1, (hf.frozen (p := ⟨g, i, none⟩) (World.block_lt_of_cell? w _ (h i hi).1) hg).trans (h i hi).2⟩
theorem Arr.set {w : World} {g k : Nat} {m : List Nat} (h : Arr w g m k) (hk : k < 6) : Arr (w.setCell ⟨g, k, none⟩ (.int .u64 (fld m k : Int))) g m (k + 1) := fun i hi => by
  refine ⟨?_, by rw [World.frozen?_setCell]; exact (h i hi).2⟩
  by_cases e : i = k
  · subst e
    rw [if_pos (by omega)]
    exact World.cell?_setCell_same _ _ _ (h i hi).1
  · rw [World.cell?_setCell_other _ _ _ _ (fun e2 => e (congrArg Addr.off e2).symm), (h i hi).1]
    congr 2
    by_cases e3 : i < k
    · rw [if_pos e3, if_pos (by omega)]
    · rw [if_neg e3, if_neg (by omega)]
theorem arr_new (w : World) (m : List Nat) : Arr (w.alloc (.cells #[.int .u64 0, .int .u64 0, .int .u64 0, .int .u64 0, .int .u64 0, .int .u64 0] 68)) w.heap.size m 0 := fun i hi => by
  have e := heap_alloc_new w (.cells #[.int .u64 0, .int .u64 0, .int .u64 0, .int .u64 0, .int .u64 0, .int .u64 0] 68)
  rw [if_neg (Nat.not_lt_zero i)]
  match i, hi with
  | 0, _ | 1, _ | 2, _ | 3, _ | 4, _ | 5, _ => exact ⟨by unfold World.cell?; rw [e]; rfl, by unfold World.frozen?; rw [e]; rfl⟩
set_option maxRecDepth 20000 in
set_option maxHeartbeats 2000000 in
theorem taken_any {w : World} {a : Option Addr} {c : Nat} {m : List Nat} (hb : Byts w a m) (hm : m.length = 16) : Calls Try.prog 89 #[.slice a 16 c] w fun e w' => e = .returned (six m) ∧ Below w.heap.size w w' := by
  have hnil : a = none → m.length = 0 ∧ c = 0 := fun e => by
    have := hb.none_len e
    rw [this] at hm; cases hm
  have HA0 := hid (arr_new w m)
  have hB0 := bel_new w (.cells #[.int .u64 0, .int .u64 0, .int .u64 0, .int .u64 0, .int .u64 0, .int .u64 0] 68)
  obtain ⟨W0, hW0⟩ : ∃ W0, w.alloc (.cells #[.int .u64 0, .int .u64 0, .int .u64 0, .int .u64 0, .int .u64 0, .int .u64 0] 68) = W0 := ⟨_, rfl⟩
  have hsz : W0.heap.size = w.heap.size + 1 := by rw [← hW0]; simp
  have HN0 := hid (arr_new W0 m)
  have hy0 : Ty68 (W0.alloc (.cells #[.int .u64 0, .int .u64 0, .int .u64 0, .int .u64 0, .int .u64 0, .int .u64 0] 68)) W0.heap.size := ⟨_, _, heap_alloc_new W0 _⟩
  have hB1 := bel_new W0 (.cells #[.int .u64 0, .int .u64 0, .int .u64 0, .int .u64 0, .int .u64 0, .int .u64 0] 68)
  rw [hW0] at HA0 hB0
  have hbb := hB0.trans (hB1.mono hB0.size)
  have HBB := hid hbb
  have HR0 := hid (HA0.out.fr (fr_bel (X := fun _ => False) hB1) (fun x => x))
  have htk := take_any (c := c) (hb.keep hbb) hnil (by omega)
  rw [hm] at htk
  have HTK := hid htk
  rw [hsz] at HN0 hy0
  have HY0 := hid hy0
  clear hy0
  have HSZ := hid hsz
  have HM := hid hm
  have HW0 := hid hW0
  clear hW0 hb hm hnil hB0 hB1 hbb htk hsz HA0
  go_enter Try.func89, Try.ntmps89
  go_wp2_with fail
  rw [HW0.out]
  generalize W0.alloc (.cells #[.int .u64 0, .int .u64 0, .int .u64 0, .int .u64 0, .int .u64 0, .int .u64 0] 68) = W1 at *
  refine HTK.out.mono ?_
  rintro e w2 ⟨q, rfl, hq, ht2, hb2⟩
  have hq1 : w.heap.size + 1 < q := by
    have h1 := (HN0.out 0 (by decide)).1
    have h2 : w.heap.size + 1 < W1.heap.size := World.block_lt_of_cell? _ _ h1
    omega
  have HN2 := hid (HN0.out.fr (fr_bel (X := fun _ => False) hb2) (fun x => x))
  have HR2 := hid (HR0.out.fr (fr_bel (X := fun _ => False) hb2) (fun x => x))
  have HB2 := hid (HBB.out.trans (hb2.mono HBB.out.size))
  have HT2 := hid ht2
  have HY2 := hid (HY0.out.fr (fr_bel (X := fun _ => False) hb2) (fun x => x))
  clear hb2 ht2 hq HN0 HR0 HTK HY0
  go_wp2_with fail
  go_loopg [8] 6 (fun gg i wr => ∃ k : Nat, k ≤ 6 ∧ gg = 6 - k ∧ i = .int .i64 k ∧ Hid (Arr wr (w.heap.size + 1) m k) ∧ Hid (Arr wr w.heap.size m 0) ∧ Hid (TkS wr q ⟨0, m.drop (ofs k), ofs k⟩) ∧ Hid (Below w.heap.size w wr) ∧ Hid (Ty68 wr (w.heap.size + 1)))
  case atStart => exact ⟨0, by decide, rfl, rfl, HN2, HR2, HT2, HB2, HY2⟩
  case round =>
    obtain ⟨k, hk, hg, rfl, HA, HR, HT, HB, HY⟩ := hrel
    have HG := hid hg
    clear hg HN2 HR2 HT2 HB2 HY2
    by_cases hlt : k < 6
    · have hlt2 : (k : Int) < 6 := by omega
      have HBO := hid fun w => (show Calls Try.prog 33 #[.int .i64 (k : Int)] w fun e w' => e = .returned (.int .i64 (siz k : Int)) ∧ w = w' from bytesof_any k w)
      have htu := tku_any HT.out (siz k : Int)
      rw [nx_fld HM.out k hlt] at htu
      have HTU := hid htu
      clear htu
      go_wp2_with fail
      refine (HBO.out _).mono ?_
      rintro e w4 ⟨rfl, rfl⟩
      go_wp2_with fail
      refine HTU.out.mono ?_
      rintro e w4 ⟨rfl, ht4, hf4⟩
      have HA4 := hid (HA.out.fr hf4 (by omega))
      have HR4 := hid (HR.out.fr hf4 (by omega))
      have HY4 := hid (HY.out.fr hf4 (by omega))
      have HY5 := hid (HY4.out.set k (.int .u64 (fld m k : Int)))
      have hs := (Fr.refl (fun b => b = w.heap.size + 1) w4).setCell (p := ⟨w.heap.size + 1, k, none⟩) rfl (.int .u64 (fld m k : Int))
      have HT5 := hid (TkS.other68 ht4 hs (by omega) HY4.out)
      have HR5 := hid (HR4.out.fr hs (by omega))
      have HA5 := hid (HA4.out.set hlt)
      have HB5 := hid ((HB.out.trans ⟨hf4.os, hf4.tape, hf4.output, hf4.size, fun j hj => hf4.block j (Nat.lt_of_lt_of_le hj HB.out.size) (by omega)⟩).setCell (p := ⟨w.heap.size + 1, k, none⟩) (by show w.heap.size ≤ w.heap.size + 1; omega) (.int .u64 (fld m k : Int)))
      obtain ⟨c4, f4⟩ := HA4.out k hlt
      have hfl : lev (sub m (ofs k) (siz k)) = fld m k := rfl
      rw [hfl]
      clear ht4 hf4 hs hfl
      generalize fld m k = v at *
      go_wp2_with fail
      go_roundg (6 - (k + 1))
      case measure => rw [HG.out]; omega
      case rel => exact ⟨k + 1, by omega, rfl, by go_num, HA5, HR5, HT5, HB5, HY5⟩
    · obtain rfl : k = 6 := by omega
      obtain ⟨a0, a1, a2, a3, a4, a5⟩ : _ ∧ _ ∧ _ ∧ _ ∧ _ ∧ _ := ⟨(HA.out 0 (by decide)).1, (HA.out 1 (by decide)).1, (HA.out 2 (by decide)).1, (HA.out 3 (by decide)).1, (HA.out 4 (by decide)).1, (HA.out 5 (by decide)).1⟩
      obtain ⟨b0, b1, b2, b3, b4, b5⟩ : _ ∧ _ ∧ _ ∧ _ ∧ _ ∧ _ := ⟨HR.out 0 (by decide), HR.out 1 (by decide), HR.out 2 (by decide), HR.out 3 (by decide), HR.out 4 (by decide), HR.out 5 (by decide)⟩
      rw [if_pos (by decide)] at a0 a1 a2 a3 a4 a5
      have HS := hid (six_set wr w.heap.size (.int .u64 (fld m 0 : Int)) (.int .u64 (fld m 1 : Int)) (.int .u64 (fld m 2 : Int)) (.int .u64 (fld m 3 : Int)) (.int .u64 (fld m 4 : Int)) (.int .u64 (fld m 5 : Int)) (fun i hi => ⟨_, (HR.out i hi).1⟩))
      have hbf := ((((((HB.out.setCell (p := ⟨w.heap.size, 0, none⟩) (Nat.le_refl _) (.int .u64 (fld m 0 : Int))).setCell (p := ⟨w.heap.size, 1, none⟩) (Nat.le_refl _) (.int .u64 (fld m 1 : Int))).setCell (p := ⟨w.heap.size, 2, none⟩) (Nat.le_refl _) (.int .u64 (fld m 2 : Int))).setCell (p := ⟨w.heap.size, 3, none⟩) (Nat.le_refl _) (.int .u64 (fld m 3 : Int))).setCell (p := ⟨w.heap.size, 4, none⟩) (Nat.le_refl _) (.int .u64 (fld m 4 : Int))).setCell (p := ⟨w.heap.size, 5, none⟩) (Nat.le_refl _) (.int .u64 (fld m 5 : Int)))
      have HF := hid hbf
      have HX := hid (show six m = .agg #[.int .u64 (fld m 0 : Int), .int .u64 (fld m 1 : Int), .int .u64 (fld m 2 : Int), .int .u64 (fld m 3 : Int), .int .u64 (fld m 4 : Int), .int .u64 (fld m 5 : Int)] from rfl)
      obtain ⟨p0, g0⟩ := b0
      obtain ⟨p1, g1⟩ := b1
      obtain ⟨p2, g2⟩ := b2
      obtain ⟨p3, g3⟩ := b3
      obtain ⟨p4, g4⟩ := b4
      obtain ⟨p5, g5⟩ := b5
      rw [if_neg (by decide)] at p0 p1 p2 p3 p4 p5
      clear hbf hk hlt
      generalize fld m 0 = v0 at *
      generalize fld m 1 = v1 at *
      generalize fld m 2 = v2 at *
      generalize fld m 3 = v3 at *
      generalize fld m 4 = v4 at *
      generalize fld m 5 = v5 at *
      go_wp2_with fail
      obtain ⟨y0, y1, y2, y3, y4, y5⟩ := HS.out
      obtain ⟨V, hV⟩ : ∃ V : Value, V = .agg #[.int .u64 (v0 : Int), .int .u64 (v1 : Int), .int .u64 (v2 : Int), .int .u64 (v3 : Int), .int .u64 (v4 : Int), .int .u64 (v5 : Int)] := ⟨_, rfl⟩
      refine bodyPost_ret (v := V) ?_ rfl ?_
      · rw [hV]
        simp only [results, show Try.f89.results = #[.cell 2 68] from by kernel_rfl]
        go_simp
      · exact ⟨by rw [HX.out, hV], HF.out⟩
end Go.Proofs.Ytkdpalmdcnpnoaa.Wv
namespace Go.Proofs.Ytkdpalmdcnpnoaa.Wv
open Go.RowKit Gen Fld Pcm

theorem lev_32 {m : List Nat} (hb : ∀ b ∈ m, b < 256) (i k : Nat) (hk : k ≤ 4) : lev (sub m i k) < 4294967296 := by
  have h1 := lev_lt (sub m i k) (sub_lt hb i k)
  have h2 : (sub m i k).length ≤ 4 := by unfold sub; rw [List.length_take]; omega
  exact Nat.lt_of_lt_of_le h1 (Nat.le_trans (Nat.pow_le_pow_right (by decide) (show 8 * (sub m i k).length ≤ 32 by omega)) (by decide))
theorem three_set (w : World) (q : Nat) (v0 v1 v2 : Value) (h : ∀ i, i < 3 → ∃ u, w.cell? ⟨q, i, none⟩ = some u) :
    let W := ((w.setCell ⟨q, 0, none⟩ v0).setCell ⟨q, 1, none⟩ v1).setCell ⟨q, 2, none⟩ v2
    W.cell? ⟨q, 0, none⟩ = some v0 ∧ W.cell? ⟨q, 1, none⟩ = some v1 ∧ W.cell? ⟨q, 2, none⟩ = some v2 := by
  have o : ∀ (W : World) (i j : Nat) (v : Value), i ≠ j → (W.setCell ⟨q, j, none⟩ v).cell? ⟨q, i, none⟩ = W.cell? ⟨q, i, none⟩ := fun W i j v hij => World.cell?_setCell_other _ _ _ _ (fun e => hij (congrArg Addr.off e).symm)
  have s : ∀ (W : World) (i : Nat) (v u : Value), W.cell? ⟨q, i, none⟩ = some u → (W.setCell ⟨q, i, none⟩ v).cell? ⟨q, i, none⟩ = some v := fun W i v u hu => World.cell?_setCell_same _ _ _ (by rw [hu])
  obtain ⟨u0, h0⟩ := h 0 (by decide)
  obtain ⟨u1, h1⟩ := h 1 (by decide)
  obtain ⟨u2, h2⟩ := h 2 (by decide)
  exact ⟨(o _ 0 2 _ (by decide)).trans ((o _ 0 1 _ (by decide)).trans (s _ 0 _ _ h0)), (o _ 1 2 _ (by decide)).trans (s _ 1 _ _ ((o _ 1 0 _ (by decide)).trans h1)), s _ 2 _ _ ((o _ 2 1 _ (by decide)).trans ((o _ 2 0 _ (by decide)).trans h2))⟩
set_option maxRecDepth 20000 in
set_option maxHeartbeats 1000000 in
theorem format_any {m : List Nat} (hb : ∀ b ∈ m, b < 256) (w : World) : Calls Try.prog 90 #[six m] w fun e w' => e = .returned (.agg #[.int .i64 (fmc m : Int), .int .i64 (fmn m : Int), .int .i64 (fmr m : Int)]) ∧ Below w.heap.size w w' := by
  have l1 := wr_32 (lev_32 hb 2 2 (by decide))
  have l2 := wr_32 (lev_32 hb 4 4 (by decide))
  have l5 := wr_32 (lev_32 hb 14 2 (by decide))
  have e1 : fld m 1 = fmc m := rfl
  have e2 : fld m 2 = fmr m := rfl
  have e5 : fld m 5 = fmn m := rfl
  have HX := hid (show six m = .agg #[.int .u64 (fld m 0 : Int), .int .u64 (fmc m : Int), .int .u64 (fmr m : Int), .int .u64 (fld m 3 : Int), .int .u64 (fld m 4 : Int), .int .u64 (fmn m : Int)] from rfl)
  rw [HX.out]
  have q1 : IntKind.i64.wrap ((fmc m : Nat) : Int) = ((fmc m : Nat) : Int) := l1.2
  have q2 : IntKind.i64.wrap ((fmr m : Nat) : Int) = ((fmr m : Nat) : Int) := l2.2
  have q5 : IntKind.i64.wrap ((fmn m : Nat) : Int) = ((fmn m : Nat) : Int) := l5.2
  clear l1 l2 l5 e1 e2 e5 HX hb
  generalize ((fmc m : Nat) : Int) = c at *
  generalize ((fmr m : Nat) : Int) = r at *
  generalize ((fmn m : Nat) : Int) = n at *
  generalize ((fld m 0 : Nat) : Int) = x0 at *
  generalize ((fld m 3 : Nat) : Int) = x3 at *
  generalize ((fld m 4 : Nat) : Int) = x4 at *
  have z1 : (w.alloc (.cells #[.int .u64 x0, .int .u64 c, .int .u64 r, .int .u64 x3, .int .u64 x4, .int .u64 n] 68)).heap.size = w.heap.size + 1 := by simp
  have hb1 := bel_new w (.cells #[.int .u64 x0, .int .u64 c, .int .u64 r, .int .u64 x3, .int .u64 x4, .int .u64 n] 68)
  obtain ⟨W0, hW0⟩ : ∃ W0, w.alloc (.cells #[.int .u64 x0, .int .u64 c, .int .u64 r, .int .u64 x3, .int .u64 x4, .int .u64 n] 68) = W0 := ⟨_, rfl⟩
  rw [hW0] at hb1 z1
  have hbf := hb1.trans ((bel_new W0 (.cells #[.int .i64 c, .int .i64 n, .int .i64 r] 23)).mono hb1.size)
  have hcx := Cb.new W0 (.int .i64 c) (.int .i64 n) (.int .i64 r) 23
  rw [z1] at hcx
  rw [← hW0] at hbf hcx
  have HF := hid hbf
  have HS := hid hcx
  clear hcx hbf hb1 z1 hW0
  go_enter Try.func90, Try.ntmps90
  go_wp2_with fail
  obtain ⟨y0, y1, y2, _, _, _⟩ := HS.out
  refine bodyPost_ret (v := .agg #[.int .i64 c, .int .i64 n, .int .i64 r]) ?_ rfl ?_
  · simp only [results, show Try.f90.results = #[.cell 2 23] from by kernel_rfl]
    go_simp
  · exact ⟨rfl, HF.out⟩
end Go.Proofs.Ytkdpalmdcnpnoaa.Wv
namespace Go.Proofs.Ytkdpalmdcnpnoaa.Wv
open Go.RowKit Gen Fld Pcm

/-- What is read as yet: place by place. -/
def rgv (hf hd : Bool) (f : Fmt) (d : Dat) : Nat → Value
  | 0 => .bool hf
  | 1 => .bool hd
  | 2 => .int .i64 f.ch
  | 3 => .int .i64 f.bits
  | 4 => .int .i64 f.rate
  | 5 => .int .i64 d.f.ch
  | 6 => .int .i64 d.f.bits
  | 7 => .int .i64 d.f.rate
  | _ => .slice d.a d.n d.cap
structure Bxs (w : World) (p : Nat) (V : Nat → Value) : Prop where
  at_ : ∀ i, i < 9 → w.cell? ⟨p, i, none⟩ = some (V i) ∧ w.frozen? ⟨p, i, none⟩ = false
theorem Bxs.lt {w : World} {p : Nat} {V : Nat → Value} (h : Bxs w p V) : p < w.heap.size := World.block_lt_of_cell? w _ (h.at_ 0 (by decide)).1
theorem Bxs.fr {w w' : World} {p : Nat} {V : Nat → Value} (h : Bxs w p V) {X : Nat → Prop} (hf : Fr X w w') (hp : ¬ X p) : Bxs w' p V := ⟨fun i hi =>
  ⟨(hf.cell (p := ⟨p, i, none⟩) h.lt hp).trans (h.at_ i hi).1, (hf.frozen (p := ⟨p, i, none⟩) h.lt hp).trans (h.at_ i hi).2⟩⟩
theorem Bxs.below {w w' : World} {p : Nat} {V : Nat → Value} (h : Bxs w p V) (hb : Below w.heap.size w w') : Bxs w' p V := h.fr (fr_bel (X := fun _ => False) hb) (fun x => x)
theorem Bxs.set {w : World} {p : Nat} {V : Nat → Value} (h : Bxs w p V) (k : Nat) (v : Value) (U : Nat → Value) (hk : k < 9) (hU : ∀ i, i < 9 → U i = if i = k then v else V i) : Bxs (w.setCell ⟨p, k, none⟩ v) p U := ⟨fun i hi => by
  refine ⟨?_, by rw [World.frozen?_setCell]; exact (h.at_ i hi).2⟩
  rw [hU i hi]
  by_cases e : i = k
  · subst e
    rw [if_pos rfl]
    exact World.cell?_setCell_same _ _ _ (h.at_ i hk).1
  · rw [if_neg e, World.cell?_setCell_other _ _ _ _ (fun e2 => e (congrArg Addr.off e2).symm)]
    exact (h.at_ i hi).1⟩
theorem nine {P : Nat → Prop} (h0 : P 0) (h1 : P 1) (h2 : P 2) (h3 : P 3) (h4 : P 4) (h5 : P 5) (h6 : P 6) (h7 : P 7) (h8 : P 8) : ∀ i, i < 9 → P i := fun i hi => by
  match i, hi with
  | 0, _ => exact h0
  | 1, _ => exact h1
  | 2, _ => exact h2
  | 3, _ => exact h3
  | 4, _ => exact h4
  | 5, _ => exact h5
  | 6, _ => exact h6
  | 7, _ => exact h7
  | 8, _ => exact h8
theorem eq_u64 (w : World) (a b : Int) : (Op.equalIn 9999 66 (.int .u64 a) (.int .u64 b)).run Try.prog w = .ok (a == b) w := run_equalIn_int w 9998 66 .u64 .u64 a b (by kernel_rfl)
set_option maxRecDepth 20000 in
/-- Two arrays of six numbers. -/
theorem six_cmp (v0 v1 v2 v3 v4 v5 u0 u1 u2 u3 u4 u5 : Int) (w : World) : (binOp .neq 68 (.agg #[.int .u64 v0, .int .u64 v1, .int .u64 v2, .int .u64 v3, .int .u64 v4, .int .u64 v5]) (.agg #[.int .u64 u0, .int .u64 u1, .int .u64 u2, .int .u64 u3, .int .u64 u4, .int .u64 u5])).run Try.prog w = .ok (.bool (!(v0 == u0 && (v1 == u1 && (v2 == u2 && (v3 == u3 && (v4 == u4 && v5 == u5))))))) w := by
  obtain ⟨i66, hi⟩ := info_of_underlying (P := Try.prog) (t := 66) (d := .int .u64) (by kernel_rfl)
  have h := run_equalIn_array (P := Try.prog) w 9999 (t := 68) (e := 66) (n := 6) #[.int .u64 v0, .int .u64 v1, .int .u64 v2, .int .u64 v3, .int .u64 v4, .int .u64 v5] #[.int .u64 u0, .int .u64 u1, .int .u64 u2, .int .u64 u3, .int .u64 u4, .int .u64 u5] (by kernel_rfl) hi
  rw [run_neq_struct, show (10000 : Nat) = 9999 + 1 from rfl, h]
  have hc : Try.prog.cellsOf 66 = 1 := by kernel_rfl
  rw [hc]
  have hp : ∀ (xs : Array Value) (i : Nat) (v : Value), xs[i]? = some v → (part 66 xs i).run Try.prog w = .ok v w := fun xs i v hv => by
    simp [part, go_sem, hv]
    done
  simp [List.range, List.range.loop, Op.eqItems, hp, eq_u64]
  clear h hp hi hc
  repeat' split
  all_goals simp_all
end Go.Proofs.Ytkdpalmdcnpnoaa.Wv
namespace Go.Proofs.Ytkdpalmdcnpnoaa.Wv
open Go.RowKit Gen Fld Pcm

theorem bxs_get {w : World} {p : Nat} {hf hd : Bool} {f : Fmt} {d : Dat} (h : Bxs w p (rgv hf hd f d)) :
    (w.cell? ⟨p, 0, none⟩ = some (.bool hf) ∧ w.cell? ⟨p, 1, none⟩ = some (.bool hd) ∧ w.cell? ⟨p, 2, none⟩ = some (.int .i64 f.ch) ∧ w.cell? ⟨p, 3, none⟩ = some (.int .i64 f.bits) ∧ w.cell? ⟨p, 4, none⟩ = some (.int .i64 f.rate)) ∧ (w.frozen? ⟨p, 0, none⟩ = false ∧ w.frozen? ⟨p, 1, none⟩ = false ∧ w.frozen? ⟨p, 2, none⟩ = false ∧ w.frozen? ⟨p, 3, none⟩ = false ∧ w.frozen? ⟨p, 4, none⟩ = false) :=
  ⟨⟨(h.at_ 0 (by decide)).1, (h.at_ 1 (by decide)).1, (h.at_ 2 (by decide)).1, (h.at_ 3 (by decide)).1, (h.at_ 4 (by decide)).1⟩, ⟨(h.at_ 0 (by decide)).2, (h.at_ 1 (by decide)).2, (h.at_ 2 (by decide)).2, (h.at_ 3 (by decide)).2, (h.at_ 4 (by decide)).2⟩⟩
theorem rdformat_no {w : World} {p : Nat} {hf hd : Bool} {f : Fmt} {d : Dat} (h : Bxs w p (rgv hf hd f d)) (a : Option Addr) (L c : Nat) (hn : hf = true ∨ L ≠ 16) : Calls Try.prog 73 #[.pointer (some ⟨p, 0, none⟩), .slice a L c] w fun e w' => e = .returned (.int .i64 51) ∧ Below w.heap.size w w' := by
  obtain ⟨⟨b0, b1, b2, b3, b4⟩, ⟨z0, z1, z2, z3, z4⟩⟩ := bxs_get h
  clear h b1 b2 b3 b4
  cases hf with
  | true =>
    go_enter Try.func73, Try.ntmps73
    go_wp2_with fail
    go_ret
    exact ⟨rfl, Below.refl _ _⟩
  | false =>
    have hx : ¬ (L : Int) = 16 := by
      intro e
      rcases hn with h | h
      · cases h
      · omega
    go_enter Try.func73, Try.ntmps73
    go_wp2_with fail
    go_ret
    exact ⟨rfl, Below.refl _ _⟩
/-- The six cells of an array. -/
def Sx (w : World) (g : Nat) (v0 v1 v2 v3 v4 v5 : Value) : Prop := w.cell? ⟨g, 0, none⟩ = some v0 ∧ w.cell? ⟨g, 1, none⟩ = some v1 ∧ w.cell? ⟨g, 2, none⟩ = some v2 ∧ w.cell? ⟨g, 3, none⟩ = some v3 ∧ w.cell? ⟨g, 4, none⟩ = some v4 ∧ w.cell? ⟨g, 5, none⟩ = some v5
theorem Sx.new (w : World) (v0 v1 v2 v3 v4 v5 : Value) (ty : TypeId) : Sx (w.alloc (.cells #[v0, v1, v2, v3, v4, v5] ty)) w.heap.size v0 v1 v2 v3 v4 v5 := by
  refine ⟨?_, ?_, ?_, ?_, ?_, ?_⟩ <;> (unfold World.cell?; rw [heap_alloc_new]; rfl)
theorem Sx.fr {w w' : World} {g : Nat} {v0 v1 v2 v3 v4 v5 : Value} (h : Sx w g v0 v1 v2 v3 v4 v5) {X : Nat → Prop} (hf : Fr X w w') (hx : ¬ X g) : Sx w' g v0 v1 v2 v3 v4 v5 := by
  have hl := World.block_lt_of_cell? w _ h.1
  obtain ⟨h0, h1, h2, h3, h4, h5⟩ := h
  exact ⟨(hf.cell (p := ⟨g, 0, none⟩) hl hx).trans h0, (hf.cell (p := ⟨g, 1, none⟩) hl hx).trans h1, (hf.cell (p := ⟨g, 2, none⟩) hl hx).trans h2, (hf.cell (p := ⟨g, 3, none⟩) hl hx).trans h3, (hf.cell (p := ⟨g, 4, none⟩) hl hx).trans h4, (hf.cell (p := ⟨g, 5, none⟩) hl hx).trans h5⟩
theorem bxs_fmt {w : World} {p : Nat} {hd : Bool} {f : Fmt} {d : Dat} (h : Bxs w p (rgv false hd f d)) (c n r : Int) :
    Bxs ((((w.setCell ⟨p, 2, none⟩ (.int .i64 c)).setCell ⟨p, 3, none⟩ (.int .i64 n)).setCell ⟨p, 4, none⟩ (.int .i64 r)).setCell ⟨p, 0, none⟩ (.bool true)) p (rgv true hd ⟨c, n, r⟩ d) :=
  (((h.set 2 (.int .i64 c) (rgv false hd ⟨c, f.bits, f.rate⟩ d) (by decide) (nine rfl rfl rfl rfl rfl rfl rfl rfl rfl)).set 3 (.int .i64 n) (rgv false hd ⟨c, n, f.rate⟩ d) (by decide) (nine rfl rfl rfl rfl rfl rfl rfl rfl rfl)).set 4 (.int .i64 r) (rgv false hd ⟨c, n, r⟩ d) (by decide) (nine rfl rfl rfl rfl rfl rfl rfl rfl rfl)).set 0 (.bool true) (rgv true hd ⟨c, n, r⟩ d) (by decide) (nine rfl rfl rfl rfl rfl rfl rfl rfl rfl)
theorem fr_fmt (w : World) (p : Nat) (c n r v : Value) : Fr (fun b => b = p) w ((((w.setCell ⟨p, 2, none⟩ c).setCell ⟨p, 3, none⟩ n).setCell ⟨p, 4, none⟩ r).setCell ⟨p, 0, none⟩ v) :=
  ((((Fr.refl (fun b => b = p) w).setCell (p := ⟨p, 2, none⟩) rfl c).setCell (p := ⟨p, 3, none⟩) rfl n).setCell (p := ⟨p, 4, none⟩) rfl r).setCell (p := ⟨p, 0, none⟩) rfl v
set_option maxRecDepth 20000 in
set_option maxHeartbeats 2000000 in
theorem rdformat_any {w : World} {p : Nat} {hd : Bool} {f : Fmt} {d : Dat} {a : Option Addr} {c : Nat} {m : List Nat} (hB : Bxs w p (rgv false hd f d)) (hb : Byts w a m) (hm : m.length = 16) :
    Calls Try.prog 73 #[.pointer (some ⟨p, 0, none⟩), .slice a 16 c] w fun e w' => e = .returned (.int .i64 (fcode m : Int)) ∧ Bxs w' p (rgv true hd (fmf m) d) ∧ Fr (fun b => b = p) w w' := by
  have HTK := hid (taken_any (c := c) hb hm)
  have HFM := hid fun w => format_any (m := m) hb.lt w
  have HX := hid (show six m = .agg #[.int .u64 (fld m 0 : Int), .int .u64 (fmc m : Int), .int .u64 (fmr m : Int), .int .u64 (fld m 3 : Int), .int .u64 (fld m 4 : Int), .int .u64 (fmn m : Int)] from rfl)
  rw [HX.out] at HTK HFM
  have HRT := hid fun w' => right_any (fmf m) w'
  have HRV := hid (show (fmf m).v = .agg #[.int .i64 (fmc m : Int), .int .i64 (fmn m : Int), .int .i64 (fmr m : Int)] from rfl)
  rw [HRV.out] at HRT
  have HB0 := hid hB
  obtain ⟨⟨b0, b1, b2, b3, b4⟩, ⟨z0, z1, z2, z3, z4⟩⟩ := bxs_get hB
  clear hB
  go_enter Try.func73, Try.ntmps73
  go_wp2_with fail
  refine HTK.out.mono ?_
  rintro e w1 ⟨rfl, hb1⟩
  have HB1 := hid (HB0.out.below hb1)
  have HF1 := hid (fr_bel (X := fun b => b = p) hb1)
  clear b0 b1 b2 b3 b4 z0 z1 z2 z3 z4 hb1
  obtain ⟨⟨b0, b1, b2, b3, b4⟩, ⟨z0, z1, z2, z3, z4⟩⟩ := bxs_get HB1.out
  go_wp2_with fail
  have HS := hid (Sx.new w1 (.int .u64 (fld m 0 : Int)) (.int .u64 (fmc m : Int)) (.int .u64 (fmr m : Int)) (.int .u64 (fld m 3 : Int)) (.int .u64 (fld m 4 : Int)) (.int .u64 (fmn m : Int)) 68)
  have hba := bel_new w1 (.cells #[.int .u64 (fld m 0 : Int), .int .u64 (fmc m : Int), .int .u64 (fmr m : Int), .int .u64 (fld m 3 : Int), .int .u64 (fld m 4 : Int), .int .u64 (fmn m : Int)] 68)
  have HBA := hid (HB1.out.below hba)
  have HFA := hid (HF1.out.trans (fr_bel hba))
  have hpg : w1.heap.size ≠ p := by have := HB1.out.lt; omega
  clear b0 b1 b2 b3 b4 z0 z1 z2 z3 z4 hba
  generalize w1.alloc (.cells #[.int .u64 (fld m 0 : Int), .int .u64 (fmc m : Int), .int .u64 (fmr m : Int), .int .u64 (fld m 3 : Int), .int .u64 (fld m 4 : Int), .int .u64 (fmn m : Int)] 68) = W1 at *
  generalize w1.heap.size = g at *
  refine (HFM.out _).mono ?_
  rintro e w2 ⟨rfl, hb2⟩
  have HB2 := hid (HBA.out.below hb2)
  have HF2 := hid (HFA.out.trans (fr_bel hb2))
  have HS2 := hid (HS.out.fr (fr_bel (X := fun _ => False) hb2) (fun x => x))
  clear hb2
  obtain ⟨⟨b0, b1, b2, b3, b4⟩, ⟨z0, z1, z2, z3, z4⟩⟩ := bxs_get HB2.out
  go_wp2_with fail
  have HB3 := hid (bxs_fmt HB2.out (fmc m : Int) (fmn m : Int) (fmr m : Int))
  have hf3 := fr_fmt w2 p (.int .i64 (fmc m : Int)) (.int .i64 (fmn m : Int)) (.int .i64 (fmr m : Int)) (.bool true)
  have HF3 := hid (HF2.out.trans hf3)
  have HS3 := hid (HS2.out.fr hf3 hpg)
  clear b0 b1 b2 b3 b4 z0 z1 z2 z3 z4 hf3
  generalize (((w2.setCell ⟨p, 2, none⟩ (.int .i64 (fmc m : Int))).setCell ⟨p, 3, none⟩ (.int .i64 (fmn m : Int))).setCell ⟨p, 4, none⟩ (.int .i64 (fmr m : Int))).setCell ⟨p, 0, none⟩ (.bool true) = W3 at *
  have kb := fun q : Kp W3 => (bxs_get (HB3.out.fr q.h (fun x => x))).1
  have k0 := fun q => (kb q).1
  have k2 := fun q => (kb q).2.2.1
  have k3 := fun q => (kb q).2.2.2.1
  have k4 := fun q => (kb q).2.2.2.2
  clear kb
  have ks := fun q : Kp W3 => HS3.out.fr q.h (fun x => x)
  have s0 := fun q => (ks q).1
  have s1 := fun q => (ks q).2.1
  have s2 := fun q => (ks q).2.2.1
  have s3 := fun q => (ks q).2.2.2.1
  have s4 := fun q => (ks q).2.2.2.2.1
  have s5 := fun q => (ks q).2.2.2.2.2
  clear ks
  have HEND := hid (show ∀ q : Kp W3, Bxs q.w' p (rgv true hd (fmf m) d) ∧ Fr (fun b => b = p) w q.w' from fun q => ⟨HB3.out.fr q.h (fun x => x), HF3.out.trans (q.h.mono (fun _ _ x => x.elim))⟩)
  by_cases hr : (fmf m).right
  · have hrd : decide (fmf m).right = true := decide_eq_true hr
    have hc8 : fmc m ≤ 8 := by have h : ((fmc m : Nat) : Int) ≤ 8 := hr.1.2; omega
    have hn24 : fmn m ≤ 24 := by have h : ((fmn m : Nat) : Int) ≤ 24 := hr.2.1.2; omega
    have hr8 : fmr m ≤ 1048575 := by have h : ((fmr m : Nat) : Int) ≤ 1048575 := hr.2.2.2; omega
    have HNM := hid fun w => numbers_any (fmc m) (fmn m) (fmr m) hc8 hn24 hr8 w
    have HXN := hid (show nms (fmc m) (fmr m) (fmc m * wd (fmn m : Int)) (fmn m) = .agg #[.int .u64 1, .int .u64 (fmc m : Int), .int .u64 (fmr m : Int), .int .u64 ((fmr m * (fmc m * wd (fmn m : Int)) : Nat) : Int), .int .u64 ((fmc m * wd (fmn m : Int) : Nat) : Int), .int .u64 (fmn m : Int)] from rfl)
    rw [HXN.out] at HNM
    have hcmp := fun W => six_cmp (fld m 0 : Int) (fmc m : Int) (fmr m : Int) (fld m 3 : Int) (fld m 4 : Int) (fmn m : Int) 1 (fmc m : Int) (fmr m : Int) ((fmr m * (fmc m * wd (fmn m : Int)) : Nat) : Int) ((fmc m * wd (fmn m : Int) : Nat) : Int) (fmn m : Int) W
    have HIFF := hid (six_iff hm hb.lt hr)
    have HRR := hid hr
    have hE : ∃ t : Bool, t = (!((fld m 0 : Int) == 1 && ((fmc m : Int) == (fmc m : Int) && ((fmr m : Int) == (fmr m : Int) && ((fld m 3 : Int) == ((fmr m * (fmc m * wd (fmn m : Int)) : Nat) : Int) && ((fld m 4 : Int) == ((fmc m * wd (fmn m : Int) : Nat) : Int) && (fmn m : Int) == (fmn m : Int))))))) := ⟨_, rfl⟩
    obtain ⟨t, ht⟩ := hE
    rw [← ht] at hcmp
    have hfc : fcode m = if t = true then 20 else 0 := by
      unfold fcode
      rw [if_neg (by rw [hm]; exact fun h => h rfl)]
      have hiff := six_iff hm hb.lt hr
      have hb2 : (t = false) ↔ m = fmtb (fmc m) (fmn m) (fmr m) := by
        rw [hiff, ht]
        simp only [Bool.not_eq_false', Bool.and_eq_true, beq_iff_eq, beq_self_eq_true, true_and, and_true]
        show ((lev (sub m 0 2) : Nat) : Int) = 1 ∧ ((lev (sub m 8 4) : Nat) : Int) = _ ∧ ((lev (sub m 12 2) : Nat) : Int) = _ ↔ _
        generalize fmr m * (fmc m * wd (fmn m : Int)) = z
        generalize fmc m * wd (fmn m : Int) = y
        omega
      cases t with
      | true => rw [if_pos (.inr (fun h => by rw [← hb2] at h; cases h)), if_pos rfl]
      | false => rw [if_neg (fun h => by
          rcases h with h | h
          · exact h hr
          · exact h (hb2.1 rfl)), if_neg (by decide)]
    have HFC := hid hfc
    clear hfc ht hr hc8 hn24 hr8 HRR HIFF HXN HB0 HB1 HF1 HBA HFA HS HB2 HF2 HS2 HTK HFM HX hb hm
    generalize ((fmr m * (fmc m * wd (fmn m : Int)) : Nat) : Int) = z at *
    generalize ((fmc m * wd (fmn m : Int) : Nat) : Int) = y at *
    refine wp_region_quiet_kp (by kernel_rfl) (by kernel_rfl) ?_
    repeat (first | go_big_quiet_step ((first | (go_at_call 57; exact kp_below (HRT.out _)) | (go_at_call 31; exact kp_below (HNM.out _)))) | fail)
    refine wpQuiet_nil ?_
    rintro wx ⟨⟨wq, hq⟩, hw⟩
    have hw2 : wx = wq := hw
    clear hw
    subst hw2
    have HE := hid (show Bxs wx p (rgv true hd (fmf m) d) ∧ Fr (fun b => b = p) w wx from HEND.out ⟨wx, hq⟩)
    clear k0 k2 k3 k4 s0 s1 s2 s3 s4 s5 hcmp HEND hq
    cases t with
    | true =>
      go_wp2_with fail
      go_ret
      exact ⟨by rw [HFC.out]; rfl, HE.out.1, HE.out.2⟩
    | false =>
      go_wp2_with fail
      go_ret
      exact ⟨by rw [HFC.out]; rfl, HE.out.1, HE.out.2⟩
  · have hrd : decide (fmf m).right = false := decide_eq_false hr
    refine wp_region_quiet_kp (by kernel_rfl) (by kernel_rfl) ?_
    repeat (first | go_big_quiet_step ((first | (go_at_call 57; exact kp_below (HRT.out _)))) | fail)
    have hfc : fcode m = 20 := by
      unfold fcode
      rw [if_neg (by rw [hm]; exact fun h => h rfl), if_pos (.inl hr)]
    refine wpQuiet_nil ?_
    rintro wx ⟨⟨wq, hq⟩, hw⟩
    have hw2 : wx = wq := hw
    clear hw
    subst hw2
    have HE := hid (show Bxs wx p (rgv true hd (fmf m) d) ∧ Fr (fun b => b = p) w wx from HEND.out ⟨wx, hq⟩)
    clear k0 k2 k3 k4 s0 s1 s2 s3 s4 s5 HEND hq
    go_wp2_with fail
    go_ret
    exact ⟨by rw [hfc]; rfl, HE.out.1, HE.out.2⟩
end Go.Proofs.Ytkdpalmdcnpnoaa.Wv
namespace Go.Proofs.Ytkdpalmdcnpnoaa.Wv
open Go.RowKit Gen Fld Pcm

theorem tki_any {w : World} {q : Nat} {s : TS} (h : TkS w q s) (n : Int) :
    Calls Try.prog 95 #[.pointer (some ⟨q, 0, none⟩), .int .i64 n] w (Took w q (nx s n true).2 (.int .i64 (sgn (nx s n true).1))) := by
  by_cases hn : n < 1 ∨ 8 < n
  · go_enter Try.func95, Try.ntmps95
    go_wp2_with fail
    refine (tku_any h n).mono ?_
    rintro e w1 ⟨rfl, ht1, hf1⟩
    have HH := hid (And.intro ht1 hf1)
    clear ht1 hf1
    go_wp2_with fail
    refine (width_no n hn _).mono ?_
    rintro e w1 ⟨rfl, rfl⟩
    have h0 : lev (nx s n true).1 = 0 := by rw [nx_bad1 h hn]; rfl
    go_wp2_with fail
    go_ret
    exact ⟨by rw [nx_bad1 h hn]; rfl, HH.out.1, HH.out.2⟩
  · obtain ⟨k, rfl⟩ : ∃ k : Nat, n = k := ⟨n.toNat, by omega⟩
    have hk1 : 1 ≤ k := by omega
    have hk8 : k ≤ 8 := by omega
    have hs1 : (0 : Int) ≤ 64 - 8 * (k : Int) := by omega
    have hs2 : 64 - 8 * (k : Int) ≤ 56 := by omega
    go_enter Try.func95, Try.ntmps95
    go_wp2_with fail
    refine (tku_any h k).mono ?_
    rintro e w1 ⟨rfl, ht1, hf1⟩
    have HH := hid (And.intro ht1 hf1)
    clear ht1 hf1
    go_wp2_with fail
    refine (width_yes k (by omega) (by omega) _).mono ?_
    rintro e w1 ⟨rfl, rfl⟩
    go_wp2_with fail
    rw [sgn_shift (nx s (k : Int) true).1 k hk1 hk8 (h.blt k true) (by rcases nx_len s (k : Int) true with h | h; exact .inl h; exact .inr (by have := h.1; rw [Int.toNat_natCast] at this; exact this))]
    go_ret
    exact ⟨rfl, HH.out.1, HH.out.2⟩
theorem pow_in : ∀ F, F ≤ 7 → wrap64 (2 ^ F) = ((2 ^ F : Nat) : Int) ∧ wrap64 (1 * 2 ^ F) = ((2 ^ F : Nat) : Int) ∧ IntKind.i64.wrap (2 ^ F) = ((2 ^ F : Nat) : Int) ∧ IntKind.i64.wrap (1 * 2 ^ F) = ((2 ^ F : Nat) : Int) := by
  intro F h
  have e : (2 : Int) ^ F = ((2 ^ F : Nat) : Int) := by push_cast; rfl
  have hl : 2 ^ F < 4294967296 := Nat.lt_of_le_of_lt (Nat.pow_le_pow_right (by decide) h) (by decide)
  rw [Int.one_mul, e]
  exact ⟨(wr_32 hl).1, (wr_32 hl).1, (wr_32 hl).2, (wr_32 hl).2⟩
/-- A sample is taken. -/
def SmP (w : World) (q : Nat) (n : Int) (l : List Nat) (p : Nat) (e : Ending) (w' : World) : Prop :=
  e = .returned (.tuple #[.int .i64 (smr n (l.take (wd n))), .bool (smk n (l.take (wd n)))]) ∧ TkS w' q ⟨0, l.drop (wd n), p + wd n⟩ ∧ Fr (fun b => b = q) w w'
set_option maxRecDepth 20000 in
set_option maxHeartbeats 1000000 in
theorem wtake_any {w : World} {q : Nat} {l : List Nat} {p : Nat} {n : Int} (h : TkS w q ⟨0, l, p⟩) (h8 : 8 ≤ n) (h24 : n ≤ 24) (hl : wd n ≤ l.length) (hb : ∀ b ∈ l, b < 256) :
    Calls Try.prog 91 #[.pointer (some ⟨q, 0, none⟩), .int .i64 n] w (SmP w q n l p) := by
  have hd1 := wd_pos h8 h24
  have hd3 := wd_le n
  have hnx : nx ⟨0, l, p⟩ (wd n : Int) true = (l.take (wd n), ⟨0, l.drop (wd n), p + wd n⟩) := nx_ok rfl (fun _ => by omega) hl
  obtain ⟨t, ht⟩ : ∃ t, t = l.take (wd n) := ⟨_, rfl⟩
  have htb : ∀ b ∈ t, b < 256 := fun b hb2 => hb b (by rw [ht] at hb2; exact List.mem_of_mem_take hb2)
  have htl : t.length = wd n := by rw [ht, List.length_take]; omega
  unfold SmP
  by_cases h9 : n = 8
  · subst h9
    have hU := tku_any h (1 : Nat)
    have hw1 : wd 8 = 1 := rfl
    rw [hw1] at hnx htl ht ⊢
    rw [show ((1 : Nat) : Int) = 1 from rfl] at hnx hU
    have hv : lev t < 256 := by
      have := lev_lt t htb
      rw [htl] at this
      exact this
    rw [hnx] at hU
    rw [← ht] at hU ⊢
    have hs : smr 8 t = (lev t : Int) - 128 := if_pos rfl
    have hk : smk 8 t = true := decide_eq_true (.inl rfl)
    rw [hs, hk]
    generalize lev t = v at *
    have hvw : wrap64 (v : Int) = v := by unfold wrap64; omega
    have hvw2 : IntKind.i64.wrap (v : Int) = v := by rw [IntKind.wrap_i64]; omega
    go_enter Try.func91, Try.ntmps91
    go_wp2_with fail
    refine hU.mono ?_
    rintro e w1 ⟨rfl, ht1, hf1⟩
    have HH := hid (And.intro ht1 hf1)
    clear ht1 hf1
    go_wp2_with fail
    go_ret2
    exact ⟨rfl, HH.out.1, HH.out.2⟩
  · obtain ⟨hd2, hdf, hf7⟩ := wd_fre (show 8 < n by omega) h24
    have HI := hid (tki_any h (wd n : Int))
    rw [hnx] at HI
    rw [← ht] at HI ⊢
    have HWD := hid fun w => width_any n w
    have HFR := hid fun w => free_any n h8 h24 w
    have HMD := hid fun w => mod_any (sgn t) (2 ^ fre n) (Nat.pow_pos (by decide)) (by
      have := Nat.pow_le_pow_right (show 0 < 2 by decide) hf7
      omega) w
    rw [show 8 * (wd n : Int) - n = (fre n : Int) by omega] at HFR
    have HS := hid (show smr n t = sgn t / 2 ^ fre n from by
      unfold smr
      rw [if_neg h9]
      push_cast
      rfl)
    have HK := hid (show smk n t = (sgn t % ((2 ^ fre n : Nat) : Int) == 0) from by
      unfold smk
      by_cases h0 : sgn t % ((2 ^ fre n : Nat) : Int) = 0
      · rw [h0]; exact decide_eq_true (.inr rfl)
      · rw [beq_eq_false_iff_ne.2 h0]; exact decide_eq_false (fun h => h.elim h9 h0))
    generalize fre n = F at *
    generalize wd n = d at *
    generalize sgn t = x at *
    have hF0 : (0 : Int) ≤ (F : Int) := by omega
    have hF64 : (F : Int) ≤ 64 := by omega
    have hn8 : (n == 8) = false := by rw [beq_eq_false_iff_ne]; exact h9
    have HF7 := hid hf7
    clear hnx htb htl ht h hd1 hd2 hd3 hdf hl h9 hf7
    go_enter Try.func91, Try.ntmps91
    go_wp2_with fail
    refine (HWD.out _).mono ?_
    rintro e w1 ⟨rfl, rfl⟩
    go_wp2_with fail
    refine HI.out.mono ?_
    rintro e w1 ⟨rfl, ht1, hf1⟩
    have HH := hid (And.intro ht1 hf1)
    clear ht1 hf1
    go_wp2_with fail
    have hpw := (pow_in F HF7.out).2.2.1
    refine wp_region_quiet_kp (by kernel_rfl) (by kernel_rfl) ?_
    repeat (first | go_big_quiet_step ((first | (go_at_call 64; exact kp_same (HFR.out _)) | (go_at_call 65; exact kp_same (HMD.out _)))) | fail)
    refine wpQuiet_nil ?_
    rintro wx ⟨⟨wq, hq⟩, hw⟩
    have hw2 : wx = wq := hw
    clear hw
    subst hw2
    have HE := hid (show TkS wx q ⟨0, l.drop d, p + d⟩ ∧ Fr (fun b => b = q) w wx from ⟨HH.out.1.below ⟨hq.os, hq.tape, hq.output, hq.size, fun k hk => hq.block k hk (fun x => x)⟩, HH.out.2.trans (hq.mono (fun _ _ x => x.elim))⟩)
    clear HH hq hpw
    go_wp2_with fail
    go_ret2
    exact ⟨by rw [HS.out, HK.out]; rfl, HE.out.1, HE.out.2⟩
end Go.Proofs.Ytkdpalmdcnpnoaa.Wv
namespace Go.Proofs.Ytkdpalmdcnpnoaa.Wv
open Go.RowKit Gen Fld Pcm

/-- A block of cells of a type. -/
def Tyn (w : World) (g t : Nat) : Prop := ∃ cs z, w.heap[g]? = some (.cells cs t z)
theorem Tyn.fr {w w' : World} {g t : Nat} (h : Tyn w g t) {X : Nat → Prop} (hf : Fr X w w') (hg : ¬ X g) : Tyn w' g t := by
  obtain ⟨cs, z, h⟩ := h
  exact ⟨cs, z, (hf.block g (Array.getElem?_eq_some_iff.1 h).1 hg).trans h⟩
theorem Tyn.set {w : World} {g t : Nat} (h : Tyn w g t) (k : Nat) (v : Value) : Tyn (w.setCell ⟨g, k, none⟩ v) g t := by
  obtain ⟨cs, z, h⟩ := h
  refine ⟨cs.setIfInBounds k v, z, ?_⟩
  unfold World.setCell
  simp [Array.getElem?_modify, h]
theorem Tyn.lt {w : World} {g t : Nat} (h : Tyn w g t) : g < w.heap.size := by
  obtain ⟨cs, z, h⟩ := h
  exact (Array.getElem?_eq_some_iff.1 h).1
theorem TkS.otherT {w w' : World} {q g t : Nat} {s : TS} (h : TkS w q s) (hf : Fr (fun b => b = g) w w') (hq : q ≠ g) (ht : Tyn w g t) (h5 : t ≠ 5) : TkS w' q s := by
  obtain ⟨a, cap, hk, h1, h2⟩ := h
  obtain ⟨cs, z, h3⟩ := ht
  refine ⟨a, cap, hk.keep hf hq (fun b off e hb => ?_), h1, h2⟩
  obtain ⟨b', off', e1, e2, _⟩ := hk.spot _ e
  obtain ⟨_, c5, z5, h6⟩ := e2
  cases e1
  have hb' : b = g := hb
  rw [hb', h3] at h6
  cases h6
  exact h5 rfl
/-- What stands while samples are taken. -/
structure Rd (w wr : World) (p q g : Nat) (n : Int) (m : List Nat) (V : Nat → Value) (L k : Nat) : Prop where
  bx : Bxs wr p V
  fl : Fl wr g L k (smx n m)
  tk : TkS wr q ⟨0, m.drop (k * wd n), k * wd n⟩
  ty : Tyn wr g 3
  bel : Below w.heap.size w wr
  hp : p < w.heap.size
  hq : w.heap.size ≤ q
  hg : w.heap.size ≤ g
  hqg : q ≠ g
theorem Fl.frX {w w' : World} {g n k : Nat} {X : Nat → Int} (h : Fl w g n k X) {Y : Nat → Prop} (hf : Fr Y w w') (hg : g < w.heap.size) (hy : ¬ Y g) : Fl w' g n k X :=
  ⟨fun i hi => (hf.cell (p := ⟨g, i, none⟩) hg hy).trans (h.c i hi), fun i => (hf.frozen (p := ⟨g, i, none⟩) hg hy).trans (h.f i)⟩
theorem bel_fr {w a b : World} {g : Nat} (h : Below w.heap.size w a) (hf : Fr (fun b => b = g) a b) (hg : w.heap.size ≤ g) : Below w.heap.size w b :=
  ⟨hf.os.trans h.os, hf.tape.trans h.tape, hf.output.trans h.output, Nat.le_trans h.size hf.size, fun k hk => (hf.block k (Nat.lt_of_lt_of_le hk h.size) (by omega)).trans (h.block k hk)⟩
/-- What stands behind a sample's taking. -/
structure Rt (w wr : World) (p q g : Nat) (n : Int) (m : List Nat) (V : Nat → Value) (L k : Nat) : Prop where
  bx : Bxs wr p V
  fl : Fl wr g L k (smx n m)
  tk : TkS wr q ⟨0, m.drop ((k + 1) * wd n), (k + 1) * wd n⟩
  ty : Tyn wr g 3
  bel : Below w.heap.size w wr
theorem Rd.take {w wr w2 : World} {p q g L k : Nat} {n : Int} {m : List Nat} {V : Nat → Value} (h : Rd w wr p q g n m V L k) (ht : TkS w2 q ⟨0, (m.drop (k * wd n)).drop (wd n), k * wd n + wd n⟩) (hf : Fr (fun b => b = q) wr w2) : Rt w w2 p q g n m V L k :=
  ⟨h.bx.fr hf (by have := h.hp; have := h.hq; omega), Fl.frX h.fl hf h.ty.lt (fun e => h.hqg e.symm), by rw [Nat.succ_mul, ← List.drop_drop]; exact ht, h.ty.fr hf (fun e => h.hqg e.symm), bel_fr h.bel hf h.hq⟩
theorem Rd.step {w wr w2 : World} {p q g L k : Nat} {n : Int} {m : List Nat} {V : Nat → Value} (h : Rd w wr p q g n m V L k) (r : Rt w w2 p q g n m V L k) (hk : k < L) (x : Int) (hx : x = smx n m k) : Rd w (w2.setCell ⟨g, k, none⟩ (.int .i64 x)) p q g n m V L (k + 1) :=
  have hf := (Fr.refl (fun b => b = g) w2).setCell (p := ⟨g, k, none⟩) rfl (.int .i64 x)
  ⟨r.bx.fr hf (by have := h.hp; have := h.hg; omega), r.fl.set hk x hx, TkS.otherT r.tk hf h.hqg r.ty (by decide), r.ty.set _ _, bel_fr r.bel hf h.hg, h.hp, h.hq, h.hg, h.hqg⟩
theorem newis_fr {B : Nat} {w w' : World} {a : Option Addr} {n p : Nat} {X : Nat → Int} (h : NewIs B w a n X) (hf : Fr (fun b => b = p) w w') (hp : p < B) : NewIs B w' a n X := by
  obtain ⟨b, off, h1, h2⟩ := h
  refine ⟨b, off, ⟨h1.addr, fun i hi => ?_, fun hl => Nat.lt_of_lt_of_le (h1.lt hl) hf.size, h1.hl⟩, h2⟩
  exact (hf.cell (p := ⟨b, off + i, none⟩) (h1.lt (by omega)) (by show ¬ b = p; omega)).trans (h1.c i hi)
theorem snd_fr {B : Nat} {w w' : World} {d : Dat} {p : Nat} (h : Snd w d) (hn : NewSnd B w d) (hf : Fr (fun b => b = p) w w') (hp : p < B) : Snd w' d :=
  ⟨h.addr, fun i hi => (hf.cell (p := ⟨d.b, _, none⟩) (h.lt (by omega)) (by show ¬ d.b = p; have := hn.1; omega)).trans (h.c i hi),
   fun i hi => by
    obtain ⟨b, off, h1, _⟩ := newis_fr (hn.2 i hi) hf hp
    exact ⟨b, off, h1⟩, fun hl => Nat.lt_of_lt_of_le (h.lt hl) hf.size, h.hl⟩
theorem newsnd_fr {B : Nat} {w w' : World} {d : Dat} {p : Nat} (hn : NewSnd B w d) (hf : Fr (fun b => b = p) w w') (hp : p < B) : NewSnd B w' d := ⟨hn.1, fun i hi => newis_fr (hn.2 i hi) hf hp⟩
theorem newsnd_mono {A B : Nat} {w : World} {d : Dat} (hn : NewSnd B w d) (h : A ≤ B) : NewSnd A w d := ⟨Nat.le_trans h hn.1, fun i hi => by
  obtain ⟨b, off, h1, h2⟩ := hn.2 i hi
  exact ⟨b, off, h1, fun e => Nat.le_trans h (h2 e)⟩⟩
theorem newsnd_below {B : Nat} {w w' : World} {d : Dat} (hn : NewSnd B w d) (hb : Below w.heap.size w w') : NewSnd B w' d := ⟨hn.1, fun i hi => by
  obtain ⟨b, off, h1, h2⟩ := hn.2 i hi
  exact ⟨b, off, h1.below hb h1.lt, h2⟩⟩
theorem bxs_snd {w : World} {p : Nat} {f : Fmt} {d : Dat} (h : Bxs w p (rgv true false f d)) (e : Dat) :
    Bxs (((((w.setCell ⟨p, 5, none⟩ (.int .i64 e.f.ch)).setCell ⟨p, 6, none⟩ (.int .i64 e.f.bits)).setCell ⟨p, 7, none⟩ (.int .i64 e.f.rate)).setCell ⟨p, 8, none⟩ (.slice e.a e.n e.cap)).setCell ⟨p, 1, none⟩ (.bool true)) p (rgv true true f e) := by
  obtain ⟨⟨c0, n0, r0⟩, a0, l0, cap0, b0, o0, la0, ln0, lc0, X0⟩ := d
  obtain ⟨⟨c, n, r⟩, a, l, cap, b, o, la, ln, lc, X⟩ := e
  exact ((((h.set 5 (.int .i64 c) (rgv true false f ⟨⟨c, n0, r0⟩, a0, l0, cap0, b0, o0, la0, ln0, lc0, X0⟩) (by decide) (nine rfl rfl rfl rfl rfl rfl rfl rfl rfl)).set 6 (.int .i64 n) (rgv true false f ⟨⟨c, n, r0⟩, a0, l0, cap0, b0, o0, la0, ln0, lc0, X0⟩) (by decide) (nine rfl rfl rfl rfl rfl rfl rfl rfl rfl)).set 7 (.int .i64 r) (rgv true false f ⟨⟨c, n, r⟩, a0, l0, cap0, b0, o0, la0, ln0, lc0, X0⟩) (by decide) (nine rfl rfl rfl rfl rfl rfl rfl rfl rfl)).set 8 (.slice a l cap) (rgv true false f ⟨⟨c, n, r⟩, a, l, cap, b, o, la, ln, lc, X⟩) (by decide) (nine rfl rfl rfl rfl rfl rfl rfl rfl rfl)).set 1 (.bool true) (rgv true true f ⟨⟨c, n, r⟩, a, l, cap, b, o, la, ln, lc, X⟩) (by decide) (nine rfl rfl rfl rfl rfl rfl rfl rfl rfl)
end Go.Proofs.Ytkdpalmdcnpnoaa.Wv
namespace Go.Proofs.Ytkdpalmdcnpnoaa.Wv
open Go.RowKit Gen Fld Pcm

theorem bxs_all {w : World} {p : Nat} {hf hd : Bool} {f : Fmt} {d : Dat} (h : Bxs w p (rgv hf hd f d)) :
    (w.cell? ⟨p, 5, none⟩ = some (.int .i64 d.f.ch) ∧ w.cell? ⟨p, 6, none⟩ = some (.int .i64 d.f.bits) ∧ w.cell? ⟨p, 7, none⟩ = some (.int .i64 d.f.rate) ∧ w.cell? ⟨p, 8, none⟩ = some (.slice d.a d.n d.cap)) ∧ (w.frozen? ⟨p, 5, none⟩ = false ∧ w.frozen? ⟨p, 6, none⟩ = false ∧ w.frozen? ⟨p, 7, none⟩ = false ∧ w.frozen? ⟨p, 8, none⟩ = false) :=
  ⟨⟨(h.at_ 5 (by decide)).1, (h.at_ 6 (by decide)).1, (h.at_ 7 (by decide)).1, (h.at_ 8 (by decide)).1⟩, ⟨(h.at_ 5 (by decide)).2, (h.at_ 6 (by decide)).2, (h.at_ 7 (by decide)).2, (h.at_ 8 (by decide)).2⟩⟩
set_option maxRecDepth 20000 in
theorem rddata_no {w : World} {p : Nat} {hf hd : Bool} {f : Fmt} {d : Dat} (h : Bxs w p (rgv hf hd f d)) (v : Value) (hn : hd = true ∨ hf = false) : Calls Try.prog 74 #[.pointer (some ⟨p, 0, none⟩), v] w fun e w' => e = .returned (.int .i64 51) ∧ Below w.heap.size w w' := by
  obtain ⟨⟨b0, b1, b2, b3, b4⟩, ⟨z0, z1, z2, z3, z4⟩⟩ := bxs_get h
  clear h b2 b3 b4
  cases hd with
  | true =>
    go_enter Try.func74, Try.ntmps74
    go_wp2_with fail
    go_ret
    exact ⟨rfl, Below.refl _ _⟩
  | false =>
    cases hf with
    | false =>
      go_enter Try.func74, Try.ntmps74
      go_wp2_with fail
      go_ret
      exact ⟨rfl, Below.refl _ _⟩
    | true => rcases hn with h | h <;> cases h
theorem quo_in (k dd : Nat) (hk : k ≤ 4294967296) : IntKind.i64.wrap ((k : Int) / (dd : Int)) = ((k / dd : Nat) : Int) := by
  have h1 := Nat.div_le_self k dd
  rw [← Int.natCast_ediv]
  generalize k / dd = z at *
  rw [IntKind.wrap_i64]
  omega
theorem bel_drew (w : World) : Below w.heap.size w w.drew := ⟨rfl, rfl, rfl, Nat.le_refl _, fun _ _ => rfl⟩
theorem tyn_new (w : World) (cs : Array Value) (t : Nat) : Tyn (w.alloc (.cells cs t)) w.heap.size t := ⟨_, _, heap_alloc_new w _⟩
theorem rd_a {w w1 w2 : World} {p q L : Nat} {n : Int} {m : List Nat} {V : Nat → Value} (hB : Bxs w p V) (hb1 : Below w.heap.size w w1) (hq : w1.drew.heap.size ≤ q) (ht : TkS w2 q ⟨0, m, 0⟩) (hb2 : Below w1.drew.heap.size w1.drew w2) :
    Rd w (w2.alloc (.cells (madeCells #[.int .i64 0] L) 3)) p q w2.heap.size n m V L 0 :=
  have hbd := (hb1.trans ((bel_drew w1).mono hb1.size))
  have h2 := hbd.trans (hb2.mono hbd.size)
  have h3 := h2.trans ((bel_new w2 (.cells (madeCells #[.int .i64 0] L) 3)).mono h2.size)
  ⟨hB.below h3, fl_new w2 L _, by rw [Nat.zero_mul]; exact TkS.below ht (bel_new w2 _), tyn_new w2 _ 3, h3, hB.lt, Nat.le_trans hbd.size hq, h2.size, by have := ht.lt; omega⟩
theorem rd_b {w w1 w2 : World} {p q L : Nat} {n : Int} {m : List Nat} {V : Nat → Value} (hB : Bxs w p V) (hb1 : Below w.heap.size w w1) (hq : (w1.alloc (.cells (madeCells #[.int .i64 0] L) 3)).drew.heap.size ≤ q) (ht : TkS w2 q ⟨0, m, 0⟩) (hb2 : Below (w1.alloc (.cells (madeCells #[.int .i64 0] L) 3)).drew.heap.size (w1.alloc (.cells (madeCells #[.int .i64 0] L) 3)).drew w2) :
    Rd w w2 p q w1.heap.size n m V L 0 :=
  have hsz : (w1.alloc (.cells (madeCells #[.int .i64 0] L) 3)).heap.size = w1.heap.size + 1 := by simp
  have hba := hb1.trans ((bel_new w1 (.cells (madeCells #[.int .i64 0] L) 3)).mono hb1.size)
  have hbd := (hba.trans ((bel_drew (w1.alloc (.cells (madeCells #[.int .i64 0] L) 3))).mono hba.size))
  have h2 := hbd.trans (hb2.mono hbd.size)
  have hq2 : w1.heap.size + 1 ≤ q := by rw [← hsz]; exact hq
  have hf : Fr (fun _ => False) (w1.alloc (.cells (madeCells #[.int .i64 0] L) 3)) w2 := (fr_bel (bel_drew _)).trans (fr_bel hb2)
  ⟨hB.below h2, Fl.fr (fl_new w1 L _) hf (by rw [hsz]; omega), by rw [Nat.zero_mul]; exact ht, (tyn_new w1 _ 3).fr hf (fun x => x), h2, hB.lt, by have := hb1.size; omega, hb1.size, by omega⟩
/-- What readData leaves. -/
def DtP (w : World) (p : Nat) (F m : List Nat) (e : Ending) (w' : World) : Prop :=
  e = .returned (.int .i64 (dcode F m : Int)) ∧ Fr (fun b => b = p) w w' ∧ (dcode F m = 0 → ∃ d, Bxs w' p (rgv true true (fmf F) d) ∧ Snd w' d ∧ PartOk (fmf F) (m.length / wd (fmn F : Int)) (smx (fmn F : Int) m) d ∧ NewSnd w.heap.size w' d)
set_option maxRecDepth 20000 in
set_option maxHeartbeats 2000000 in
theorem rddata_any {w : World} {p : Nat} {d : Dat} {a : Option Addr} {c : Nat} {F m : List Nat} (hB : Bxs w p (rgv true false (fmf F) d)) (hF : fcode F = 0) (hb : Byts w a m) (hn : a = none → m.length = 0 ∧ c = 0) (hm : m.length ≤ 4294967296) :
    Calls Try.prog 74 #[.pointer (some ⟨p, 0, none⟩), .slice a m.length c] w (DtP w p F m) := by
  obtain ⟨-, hr, -⟩ := fcode_right hF
  have hn1 : 8 ≤ (fmn F : Int) := hr.2.1.1
  have hn2 : (fmn F : Int) ≤ 24 := hr.2.1.2
  have hc1 : 1 ≤ fmc F := by have h : (1 : Int) ≤ ((fmc F : Nat) : Int) := hr.1.1; omega
  have hc8 : fmc F ≤ 8 := by have h : ((fmc F : Nat) : Int) ≤ 8 := hr.1.2; omega
  have hw1 := wd_pos hn1 hn2
  have hw3 := wd_le (fmn F : Int)
  have HRT := hid hr
  have HFR := hid fun w => frame_any (fmc F : Int) (fmn F : Int) (fmr F : Int) (by omega) (by omega) w
  rw [show (fmc F : Int) * (wd (fmn F : Int) : Int) = ((fmc F * wd (fmn F : Int) : Nat) : Int) by push_cast; rfl] at HFR
  have hy1 : 1 ≤ fmc F * wd (fmn F : Int) := Nat.mul_pos hc1 hw1
  have hy2 : fmc F * wd (fmn F : Int) ≤ 24 := Nat.le_trans (Nat.mul_le_mul hc8 hw3) (by decide)
  have HMD := hid fun w => mod_any (m.length : Int) (fmc F * wd (fmn F : Int)) hy1 (by omega) w
  rw [show (m.length : Int) % ((fmc F * wd (fmn F : Int) : Nat) : Int) = ((m.length % (fmc F * wd (fmn F : Int)) : Nat) : Int) from (Int.natCast_emod _ _).symm] at HMD
  have HWD := hid fun w => width_any (fmn F : Int) w
  have HB0 := hid hB
  have hpl := hB.lt
  have HTK := hid fun (w' : World) (h : Below w.heap.size w w') => take_any (c := c) (hb.keep h) hn (by omega)
  obtain ⟨⟨b0, b1, b2, b3, b4⟩, ⟨z0, z1, z2, z3, z4⟩⟩ := bxs_get hB
  have e2 : (fmf F).ch = ((fmc F : Nat) : Int) := rfl
  have e3 : (fmf F).bits = ((fmn F : Nat) : Int) := rfl
  have e4 : (fmf F).rate = ((fmr F : Nat) : Int) := rfl
  rw [e2] at b2
  rw [e3] at b3
  rw [e4] at b4
  clear hB e2 e3 e4 z0 z1 z2 z3 z4 hr
  by_cases h0 : m.length % (fmc F * wd (fmn F : Int)) = 0
  · obtain ⟨L, hL⟩ : ∃ L, L = m.length / wd (fmn F : Int) := ⟨_, rfl⟩
    have hLm : L ≤ 4294967296 := by rw [hL]; exact Nat.le_trans (Nat.div_le_self _ _) hm
    have HPZ := hid fun (h : dcode F m = 0) => part_zero hF h hb.lt
    have hDC : dcode F m = if anyB (fun i => !smk (fmn F : Int) (smt (fmn F : Int) m i)) L = true then 21 else 0 := by
      unfold dcode
      rw [if_neg (fun h => h h0), ← hL]
    have hqw := quo_in m.length (wd (fmn F : Int)) hm
    rw [← hL] at hqw
    have hd0 : ¬ wd (fmn F : Int) = 0 := by omega
    have hmk : ∀ W, (Instr.makeSlice 55 (.int .i64 (L : Int)) (.int .i64 (L : Int))).run Try.prog W = .ok (.slice (some ⟨W.heap.size, 0, none⟩) L L) (W.alloc (.cells (madeCells #[.int .i64 0] L) 3)) := fun W =>
      run_make_row' (P := Try.prog) 55 3 (.int .i64 0) 8 Try.underlying55 Try.info3 rfl .i64 .i64 L (by omega) (by omega) W
    have HCH := hid hc8
    have HH := hid (And.intro hn1 (And.intro hn2 (And.intro hw1 hw3)))
    have HM := hid hm
    have HDC := hid hDC
    have HLE := hid hL
    have HBY := hid hb
    clear hDC hL hn hm hn1 hn2 hc1 hc8 hw1 hw3 hy1 hy2 hF hb
    rw [h0] at HMD
    clear h0
    generalize fmc F * wd (fmn F : Int) = y at *
    go_enter Try.func74, Try.ntmps74
    go_wp2_with fail
    refine (HFR.out _).mono ?_
    rintro e w1 ⟨rfl, hb1⟩
    have HB1 := hid hb1
    clear hb1
    go_wp2_with fail
    refine (HMD.out _).mono ?_
    rintro e w2 ⟨rfl, rfl⟩
    go_wp2_with fail
    clear b0 b1 b2 b3 b4 HFR HMD
    go_cut [5, 6] (fun pv sv wx => ∃ q g, pv = .pointer (some ⟨q, 0, none⟩) ∧ sv = .slice (some ⟨g, 0, none⟩) L L ∧ Rd w wx p q g (fmn F : Int) m (rgv true false (fmf F) d) L 0)
    case first =>
      have b3 : w1.cell? ⟨p, 3, none⟩ = some (.int .i64 (fmn F : Int)) := ((HB0.out.below HB1.out).at_ 3 (by decide)).1
      have t0 := HB1.out.trans ((bel_drew w1).mono HB1.out.size)
      have t1 := HB1.out.trans ((bel_new w1 (.cells (madeCells #[.int .i64 0] L) 3)).mono HB1.out.size)
      have t0a := t1.trans ((bel_drew _).mono t1.size)
      go_region_with (first
        | (go_at_call 39; (with_reducible refine (HTK.out _ t0).mono ?_); rintro e w2 ⟨q, rfl, hq, ht2, hb2⟩; have b32 : w2.cell? ⟨p, 3, none⟩ = some (.int .i64 (fmn F : Int)) := ((HB0.out.below (t0.trans (hb2.mono t0.size))).at_ 3 (by decide)).1)
        | (go_at_call 39; (with_reducible refine (HTK.out _ t0a).mono ?_); rintro e w2 ⟨q, rfl, hq, ht2, hb2⟩)
        | (go_at_call 12; (with_reducible refine (HWD.out _).mono ?_); rintro e w3 ⟨rfl, rfl⟩))
      all_goals
        go_wp2_with fail
        go_meet
        first
          | exact ⟨q, w2.heap.size, rfl, rfl, rd_a HB0.out HB1.out hq ht2 hb2⟩
          | exact ⟨q, w1.heap.size, rfl, rfl, rd_b HB0.out HB1.out hq ht2 hb2⟩
    case rest =>
      rename World => wx
      obtain ⟨q, g, rfl, rfl, hrd⟩ := hcut
      have HR := hid hrd
      clear hrd hqw hd0 hmk HTK HWD
      go_wp2_with fail
      go_loopg [44] L (fun gg i wr => ∃ k : Nat, k ≤ L ∧ gg = L - k ∧ i = .int .i64 k ∧ Hid (Rd w wr p q g (fmn F : Int) m (rgv true false (fmf F) d) L k) ∧ Hid (∀ j, j < k → smk (fmn F : Int) (smt (fmn F : Int) m j) = true))
      case atStart => exact ⟨0, Nat.zero_le _, rfl, rfl, HR, hid (fun j hj => absurd hj (Nat.not_lt_zero j))⟩
      case round =>
        obtain ⟨k, hk, hg, rfl, HS, HA⟩ := hrel
        have HG := hid hg
        clear hg HR
        by_cases hlt : k < L
        · have hlt2 : (k : Int) < (L : Int) := by omega
          have b3 : wr.cell? ⟨p, 3, none⟩ = some (.int .i64 (fmn F : Int)) := (HS.out.bx.at_ 3 (by decide)).1
          have HT : Hid (Calls Try.prog 91 #[.pointer (some ⟨q, 0, none⟩), .int .i64 (fmn F : Int)] wr fun e w' => e = .returned (.tuple #[.int .i64 (smx (fmn F : Int) m k), .bool (smk (fmn F : Int) (smt (fmn F : Int) m k))]) ∧ Rt w w' p q g (fmn F : Int) m (rgv true false (fmf F) d) L k) := hid ((wtake_any HS.out.tk HH.out.1 HH.out.2.1 (by
              have h1 := smt_len (n := (fmn F : Int)) (m := m) (i := k) (by rw [← HLE.out]; exact hlt)
              unfold smt sub at h1
              rw [List.length_take] at h1
              omega) (fun b hb => HBY.out.lt b (List.mem_of_mem_drop hb))).mono (fun e w' hx => ⟨hx.1, HS.out.take hx.2.1 hx.2.2⟩))
          obtain ⟨X, hX⟩ : ∃ X, X = smx (fmn F : Int) m k := ⟨_, rfl⟩
          obtain ⟨T, hT⟩ : ∃ T, T = smk (fmn F : Int) (smt (fmn F : Int) m k) := ⟨_, rfl⟩
          rw [← hX, ← hT] at HT
          have HX := hid hX
          have HTE := hid hT
          clear hX hT
          go_wp2_with fail
          refine HT.out.mono ?_
          rintro e w2 ⟨rfl, hrt⟩
          have HRt := hid hrt
          clear hrt b3
          cases T with
          | false =>
            have hdc : dcode F m = 21 := by
              rw [HDC.out, if_pos]
              exact (any_iff _ _).2 ⟨k, hlt, by rw [← HTE.out]; rfl⟩
            have HD := hid hdc
            clear hdc
            go_wp2_with fail
            go_ret
            exact ⟨by rw [HD.out]; rfl, fr_bel HRt.out.bel, fun h => by rw [HD.out] at h; cases h⟩
          | true =>
            have c0 : w2.cell? ⟨g, k, none⟩ = some (.int .i64 0) := by
              have := HRt.out.fl.c k hlt
              rwa [if_neg (Nat.lt_irrefl k)] at this
            have f0 := HRt.out.fl.f k
            go_wp2_with fail
            go_roundg (L - (k + 1))
            case measure => rw [HG.out]; omega
            case rel => exact ⟨k + 1, by omega, rfl, by go_num, hid (HS.out.step HRt.out hlt X HX.out), hid (fun j hj => by
              by_cases e : j = k
              · rw [e]; exact HTE.out.symm
              · exact HA.out j (by omega))⟩
        · have hge : ¬ (k : Int) < (L : Int) := by omega
          have hkn : k = L := by omega
          subst hkn
          have hdc : dcode F m = 0 := by
            rw [HDC.out, if_neg]
            intro h
            obtain ⟨j, hj, h2⟩ := (any_iff _ _).1 h
            rw [HA.out j hj] at h2
            cases h2
          have HD := hid hdc
          have hpz := HPZ.out hdc
          rw [← HLE.out] at hpz
          have HP := hid (part_any wr (fmf F) (some ⟨g, 0, none⟩) k k g 0 (smx (fmn F : Int) m) ⟨fun _ => rfl, fun i hi => by
            have := HS.out.fl.c i hi
            rw [if_pos hi] at this
            rw [Nat.zero_add]; exact this, fun _ => HS.out.ty.lt, by omega⟩ hLm)
          rw [hpz] at HP
          have hfv : (fmf F).v = .agg #[.int .i64 (fmc F : Int), .int .i64 (fmn F : Int), .int .i64 (fmr F : Int)] := rfl
          rw [hfv] at HP
          obtain ⟨⟨-, -, b2, b3, b4⟩, -⟩ := bxs_get HS.out.bx
          have e2 : (fmf F).ch = ((fmc F : Nat) : Int) := rfl
          have e3 : (fmf F).bits = ((fmn F : Nat) : Int) := rfl
          have e4 : (fmf F).rate = ((fmr F : Nat) : Int) := rfl
          rw [e2] at b2
          rw [e3] at b3
          rw [e4] at b4
          clear hdc hpz hfv e2 e3 e4
          go_wp2_with fail
          refine HP.out.mono ?_
          rintro e w3 ⟨dd, rfl, hs, hb3, hok, -⟩
          have HB3 := hid (HS.out.bx.below hb3)
          have HF3 := hid (fr_bel (X := fun b => b = p) (HS.out.bel.trans (hb3.mono HS.out.bel.size)))
          have HSN := hid hs
          have HNW := hid (hok rfl)
          have hpw : p < wr.heap.size := Nat.lt_of_lt_of_le HS.out.hp HS.out.bel.size
          have HPW := hid hpw
          clear hs hb3 hok b2 b3 b4 hpw
          obtain ⟨⟨b5, b6, b7, b8⟩, ⟨z5, z6, z7, z8⟩⟩ := bxs_all HB3.out
          obtain ⟨⟨-, b1, -, -, -⟩, ⟨-, z1, -, -, -⟩⟩ := bxs_get HB3.out
          unfold Dat.v
          go_wp2_with fail
          go_ret
          have hfr := (((((Fr.refl (fun b => b = p) w3).setCell (p := ⟨p, 5, none⟩) rfl (.int .i64 dd.f.ch)).setCell (p := ⟨p, 6, none⟩) rfl (.int .i64 dd.f.bits)).setCell (p := ⟨p, 7, none⟩) rfl (.int .i64 dd.f.rate)).setCell (p := ⟨p, 8, none⟩) rfl (.slice dd.a dd.n dd.cap)).setCell (p := ⟨p, 1, none⟩) rfl (.bool true)
          exact ⟨by rw [HD.out]; rfl, HF3.out.trans hfr, fun _ => ⟨dd, bxs_snd HB3.out dd, snd_fr HSN.out HNW.out.2 hfr HPW.out, by rw [← HLE.out]; exact HNW.out.1, newsnd_mono (newsnd_fr HNW.out.2 hfr HPW.out) HS.out.bel.size⟩⟩
  · have hd : dcode F m = 22 := if_pos h0
    have hne : ¬ ((m.length % (fmc F * wd (fmn F : Int)) : Nat) : Int) = 0 := by omega
    have HD := hid hd
    clear hd hn hm hn1 hn2 hc1 hc8 hw1 hw3 hy1 hy2 hF HTK HWD HB0 HRT h0
    generalize m.length % (fmc F * wd (fmn F : Int)) = r at *
    generalize fmc F * wd (fmn F : Int) = y at *
    go_enter Try.func74, Try.ntmps74
    go_wp2_with fail
    refine (HFR.out _).mono ?_
    rintro e w1 ⟨rfl, hb1⟩
    have HB1 := hid hb1
    clear hb1
    go_wp2_with fail
    refine (HMD.out _).mono ?_
    rintro e w2 ⟨rfl, rfl⟩
    go_wp2_with fail
    go_ret
    exact ⟨by rw [HD.out]; rfl, fr_bel HB1.out, fun h => by rw [HD.out] at h; cases h⟩
end Go.Proofs.Ytkdpalmdcnpnoaa.Wv
namespace Go.Proofs.Ytkdpalmdcnpnoaa.Wv
open Go.RowKit Gen Fld Pcm

/-- What was read as yet, in memory. -/
structure RS (w : World) (p : Nat) (F : Option (List Nat)) (S : Option (List Nat × List Nat)) (f : Fmt) (d : Dat) : Prop where
  bx : Bxs w p (rgv F.isSome S.isSome f d)
  fmt : ∀ x, F = some x → f = fmf x ∧ fcode x = 0
  snd : Snd w d
  ok : Rok S d
  both : S.isSome = true → F.isSome = true
  new : S.isSome = true → NewSnd p w d
/-- What a chunk's bytes make of it. -/
def stp (F : Option (List Nat)) (S : Option (List Nat × List Nat)) (nm m : List Nat) : Nat × Option (List Nat) × Option (List Nat × List Nat) :=
  if nm = [102, 109, 116, 32] then
    if F.isSome then (51, F, S) else (fcode m, some m, S)
  else if nm = [100, 97, 116, 97] then
    match F with
    | none => (51, F, S)
    | some f => if S.isSome then (51, F, S) else (dcode f m, F, some (f, m))
  else (0, F, S)
theorem rdl_step (b : List Nat) (c : Chk) (t : List Chk) (F : Option (List Nat)) (S : Option (List Nat × List Nat)) :
    rdl b (c :: t) F S = if (stp F S c.nm (sub b c.at_ c.sz)).1 = 0 then rdl b t (stp F S c.nm (sub b c.at_ c.sz)).2.1 (stp F S c.nm (sub b c.at_ c.sz)).2.2 else ((stp F S c.nm (sub b c.at_ c.sz)).1, none) := by
  unfold stp
  rw [rdl.eq_def]
  simp only []
  by_cases h1 : c.nm = [102, 109, 116, 32]
  · rw [if_pos h1, if_pos h1]
    cases F with
    | some f => rfl
    | none => simp only [Option.isSome_none, Bool.false_eq_true, if_false]
  · rw [if_neg h1, if_neg h1]
    by_cases h2 : c.nm = [100, 97, 116, 97]
    · rw [if_pos h2, if_pos h2]
      cases F with
      | none => rfl
      | some f =>
        cases S with
        | some s => rfl
        | none => simp only [Option.isSome_none, Bool.false_eq_true, if_false]
    · rw [if_neg h2, if_neg h2]; rfl
/-- What chunk leaves. -/
def CkP (w : World) (p : Nat) (F : Option (List Nat)) (S : Option (List Nat × List Nat)) (nm m : List Nat) (e : Ending) (w' : World) : Prop :=
  e = .returned (.int .i64 ((stp F S nm m).1 : Int)) ∧ Fr (fun b => b = p) w w' ∧ ((stp F S nm m).1 = 0 → ∃ f d, RS w' p (stp F S nm m).2.1 (stp F S nm m).2.2 f d)
set_option maxRecDepth 20000 in
theorem chunk_any {w : World} {p : Nat} {F : Option (List Nat)} {S : Option (List Nat × List Nat)} {f : Fmt} {d : Dat} {a : Option Addr} {L c : Nat} {nm m : List Nat} (h : RS w p F S f d) (hnm : ∀ b ∈ nm, b < 256) (hb : Byts w a m) (hL : m.length = L) (hn : a = none → m.length = 0 ∧ c = 0) (hm : m.length ≤ 4294967296) :
    Calls Try.prog 44 #[.pointer (some ⟨p, 0, none⟩), .string (tos nm), .slice a L c] w (CkP w p F S nm m) := by
  have e1 : (tos [102, 109, 116, 32]).toList = [102, 109, 116, 32] := toList_tos _
  have e2 : (tos [100, 97, 116, 97]).toList = [100, 97, 116, 97] := toList_tos _
  have q1 := tos_beq hnm (show ∀ b ∈ [102, 109, 116, 32], b < 256 by decide)
  have q2 := tos_beq hnm (show ∀ b ∈ [100, 97, 116, 97], b < 256 by decide)
  rw [e1] at q1
  rw [e2] at q2
  clear e1 e2
  generalize hs : tos nm = s at *
  clear hs
  by_cases h1 : nm = [102, 109, 116, 32]
  · rw [decide_eq_true h1] at q1
    have HS : Hid (stp F S nm m = if F.isSome then (51, F, S) else (fcode m, some m, S)) := hid (by unfold stp; rw [if_pos h1])
    clear q2 h1
    have hcall : Calls Try.prog 73 #[.pointer (some ⟨p, 0, none⟩), .slice a L c] w (CkP w p F S nm m) := by
      cases F with
      | some x =>
        have hs : stp (some x) S nm m = (51, some x, S) := HS.out
        refine (rdformat_no h.bx a L c (.inl rfl)).mono ?_
        rintro e w1 ⟨rfl, hb1⟩
        exact ⟨by rw [hs]; rfl, fr_bel hb1, fun h => by rw [hs] at h; cases h⟩
      | none =>
        have hs : stp none S nm m = (fcode m, some m, S) := HS.out
        by_cases h16 : L = 16
        · subst h16
          refine (rdformat_any h.bx hb hL).mono ?_
          rintro e w1 ⟨rfl, hB1, hf1⟩
          refine ⟨by rw [hs], hf1, fun h0 => ?_⟩
          rw [hs] at h0 ⊢
          have hS0 : S = none := by
            cases S with
            | none => rfl
            | some _ => have := h.both rfl; cases this
          subst hS0
          have hd : d = Dat.nil := h.ok
          exact ⟨fmf m, d, hB1, fun x hx => by cases hx; exact ⟨rfl, h0⟩, by rw [hd]; exact nil_snd _, h.ok, (fun h => by cases h), (fun h => by cases h)⟩
        · have hc : fcode m = 51 := by
            unfold fcode
            rw [if_pos (by rw [hL]; exact h16)]
          refine (rdformat_no h.bx a L c (.inr h16)).mono ?_
          rintro e w1 ⟨rfl, hb1⟩
          exact ⟨by rw [hs, hc]; rfl, fr_bel hb1, fun h => by rw [hs, hc] at h; cases h⟩
    have HC := hid hcall
    clear hcall h hb hn hm hnm hL
    go_enter Try.func44, Try.ntmps44
    go_wp2_with fail
    refine HC.out.mono ?_
    rintro e w1 ⟨rfl, hf1, hr1⟩
    have HE := hid (And.intro hf1 hr1)
    clear hf1 hr1
    go_wp2_with fail
    go_ret
    exact ⟨rfl, HE.out.1, HE.out.2⟩
  · rw [decide_eq_false h1] at q1
    by_cases h2 : nm = [100, 97, 116, 97]
    · rw [decide_eq_true h2] at q2
      have H1 := hid h1
      have H2 := hid h2
      clear h1 h2
      have hcall : Calls Try.prog 74 #[.pointer (some ⟨p, 0, none⟩), .slice a L c] w (CkP w p F S nm m) := by
        cases F with
        | none =>
          have hs : stp none S nm m = (51, none, S) := by unfold stp; rw [if_neg H1.out, if_pos H2.out]; try rfl
          refine (rddata_no h.bx _ (.inr rfl)).mono ?_
          rintro e w1 ⟨rfl, hb1⟩
          exact ⟨by rw [hs]; rfl, fr_bel hb1, fun h => by rw [hs] at h; cases h⟩
        | some x =>
          cases S with
          | some y =>
            have hs : stp (some x) (some y) nm m = (51, some x, some y) := by unfold stp; rw [if_neg H1.out, if_pos H2.out]; try rfl
            refine (rddata_no h.bx _ (.inl rfl)).mono ?_
            rintro e w1 ⟨rfl, hb1⟩
            exact ⟨by rw [hs]; rfl, fr_bel hb1, fun h => by rw [hs] at h; cases h⟩
          | none =>
            have hs : stp (some x) none nm m = (dcode x m, some x, some (x, m)) := by unfold stp; rw [if_neg H1.out, if_pos H2.out]; try rfl
            obtain ⟨hfx, hcx⟩ := h.fmt x rfl
            have hbx := h.bx
            rw [hfx] at hbx
            subst hL
            refine (rddata_any hbx hcx hb hn hm).mono ?_
            rintro e w1 ⟨rfl, hf1, hd1⟩
            refine ⟨by rw [hs], hf1, fun h0 => ?_⟩
            rw [hs] at h0 ⊢
            obtain ⟨d', hB', hs', hok', hnw'⟩ := hd1 h0
            exact ⟨fmf x, d', hB', fun y hy => by cases hy; exact ⟨rfl, hcx⟩, hs', hok', fun _ => rfl, fun _ => newsnd_mono hnw' (Nat.le_of_lt h.bx.lt)⟩
      have HC := hid hcall
      clear hcall h hb hn hm hnm hL
      go_enter Try.func44, Try.ntmps44
      go_wp2_with fail
      refine HC.out.mono ?_
      rintro e w1 ⟨rfl, hf1, hr1⟩
      have HE := hid (And.intro hf1 hr1)
      clear hf1 hr1
      go_wp2_with fail
      go_ret
      exact ⟨rfl, HE.out.1, HE.out.2⟩
    · rw [decide_eq_false h2] at q2
      have HS : Hid (stp F S nm m = (0, F, S)) := hid (by unfold stp; rw [if_neg h1, if_neg h2])
      have HR := hid h
      clear h1 h2 h hb hn hm hnm hL
      go_enter Try.func44, Try.ntmps44
      go_wp2_with fail
      go_ret
      exact ⟨by rw [HS.out]; rfl, Fr.refl _ _, fun _ => by rw [HS.out]; exact ⟨f, d, HR.out⟩⟩
end Go.Proofs.Ytkdpalmdcnpnoaa.Wv
namespace Go.Proofs.Ytkdpalmdcnpnoaa.Wv
open Go.RowKit Gen Fld Pcm

/-- What Read leaves. -/
def RdP (w : World) (b : List Nat) (e : Ending) (w' : World) : Prop := ∃ d : Dat, e = .returned (.tuple #[d.v, .int .i64 ((rdw b).1 : Int)]) ∧ Snd w' d ∧ Below w.heap.size w w' ∧ Rok (rdw b).2 d
theorem rdl_end (b : List Nat) (F : Option (List Nat)) : rdl b [] F none = (51, none) := rfl
theorem rdl_ok (b : List Nat) (F : Option (List Nat)) (s : List Nat × List Nat) : rdl b [] F (some s) = (0, some s) := by cases F <;> rfl
theorem RS.below {w w' : World} {p : Nat} {F : Option (List Nat)} {S : Option (List Nat × List Nat)} {f : Fmt} {d : Dat} (h : RS w p F S f d) (hb : Below w.heap.size w w') : RS w' p F S f d :=
  ⟨h.bx.below hb, h.fmt, h.snd.below hb, h.ok, h.both, fun e => newsnd_below (h.new e) hb⟩
theorem bel_p {w a b : World} {p : Nat} (h : Below w.heap.size w a) (hf : Fr (fun b => b = p) a b) (hp : w.heap.size ≤ p) : Below w.heap.size w b := bel_fr h hf hp
/-- Four cells of an answer. -/
structure Rx (w : World) (k : Nat) (v0 v1 v2 v3 : Value) : Prop where
  c : w.cell? ⟨k, 0, none⟩ = some v0 ∧ w.cell? ⟨k, 1, none⟩ = some v1 ∧ w.cell? ⟨k, 2, none⟩ = some v2 ∧ w.cell? ⟨k, 3, none⟩ = some v3
  f : w.frozen? ⟨k, 0, none⟩ = false ∧ w.frozen? ⟨k, 1, none⟩ = false ∧ w.frozen? ⟨k, 2, none⟩ = false ∧ w.frozen? ⟨k, 3, none⟩ = false
theorem Rx.new (w : World) (v0 v1 v2 v3 : Value) (ty : TypeId) : Rx (w.alloc (.cells #[v0, v1, v2, v3] ty)) w.heap.size v0 v1 v2 v3 := by
  have e := heap_alloc_new w (.cells #[v0, v1, v2, v3] ty)
  refine ⟨⟨?_, ?_, ?_, ?_⟩, ⟨?_, ?_, ?_, ?_⟩⟩
  all_goals first | (unfold World.cell?; rw [e]; rfl) | (unfold World.frozen?; rw [e]; rfl)
theorem Rx.fr {w w' : World} {k : Nat} {v0 v1 v2 v3 : Value} (h : Rx w k v0 v1 v2 v3) {X : Nat → Prop} (hf : Fr X w w') (hx : ¬ X k) : Rx w' k v0 v1 v2 v3 := by
  have hl := World.block_lt_of_cell? w _ h.c.1
  obtain ⟨⟨h0, h1, h2, h3⟩, ⟨f0, f1, f2, f3⟩⟩ := h
  exact ⟨⟨(hf.cell (p := ⟨k, 0, none⟩) hl hx).trans h0, (hf.cell (p := ⟨k, 1, none⟩) hl hx).trans h1, (hf.cell (p := ⟨k, 2, none⟩) hl hx).trans h2, (hf.cell (p := ⟨k, 3, none⟩) hl hx).trans h3⟩,
    ⟨(hf.frozen (p := ⟨k, 0, none⟩) hl hx).trans f0, (hf.frozen (p := ⟨k, 1, none⟩) hl hx).trans f1, (hf.frozen (p := ⟨k, 2, none⟩) hl hx).trans f2, (hf.frozen (p := ⟨k, 3, none⟩) hl hx).trans f3⟩⟩
theorem Rx.four {w : World} {k : Nat} {v0 v1 v2 v3 : Value} (h : Rx w k v0 v1 v2 v3) : ∀ i, i < 4 → ∃ v, w.cell? ⟨k, i, none⟩ = some v := fun i hi => by
  match i, hi with
  | 0, _ => exact ⟨_, h.c.1⟩
  | 1, _ => exact ⟨_, h.c.2.1⟩
  | 2, _ => exact ⟨_, h.c.2.2.1⟩
  | 3, _ => exact ⟨_, h.c.2.2.2⟩
theorem drop_cons {l : List Chk} {k : Nat} {x : Chk} (h : l[k]? = some x) : l.drop k = x :: l.drop (k + 1) := by
  obtain ⟨hk, e⟩ := List.getElem?_eq_some_iff.1 h
  rw [List.drop_eq_getElem_cons hk, e]
/-- The box of what is read. -/
theorem bxs_new (w : World) (ty : TypeId) : Bxs (w.alloc (.cells #[.bool false, .bool false, .int .i64 0, .int .i64 0, .int .i64 0, .int .i64 0, .int .i64 0, .int .i64 0, .slice none 0 0] ty)) w.heap.size (rgv false false ⟨0, 0, 0⟩ Dat.nil) := ⟨fun i hi => by
  have e := heap_alloc_new w (.cells #[.bool false, .bool false, .int .i64 0, .int .i64 0, .int .i64 0, .int .i64 0, .int .i64 0, .int .i64 0, .slice none 0 0] ty)
  match i, hi with
  | 0, _ | 1, _ | 2, _ | 3, _ | 4, _ | 5, _ | 6, _ | 7, _ | 8, _ => exact ⟨by unfold World.cell?; rw [e]; rfl, by unfold World.frozen?; rw [e]; rfl⟩⟩
theorem rs_new (w : World) (ty : TypeId) : RS (w.alloc (.cells #[.bool false, .bool false, .int .i64 0, .int .i64 0, .int .i64 0, .int .i64 0, .int .i64 0, .int .i64 0, .slice none 0 0] ty)) w.heap.size none none ⟨0, 0, 0⟩ Dat.nil :=
  ⟨bxs_new w ty, (fun x h => by cases h), nil_snd _, rfl, (fun h => by cases h), (fun h => by cases h)⟩
set_option maxRecDepth 20000 in
set_option maxHeartbeats 2000000 in
theorem read_any {w : World} {a : Option Addr} {len cap : Nat} {b : List Nat} (hb : Byts w a b) (hlen : b.length = len) (hc : len ≤ cap) (hnil : a = none → b.length = 0 ∧ cap = 0) (hl5 : len ≤ 4294967296) :
    Calls Try.prog 16 #[.slice a len cap] w (RdP w b) := by
  have hR0 := Rx.new w (.int .i64 0) (.int .i64 0) (.int .i64 0) (.slice none 0 0) 26
  have hB0 := bel_new w (.cells #[.int .i64 0, .int .i64 0, .int .i64 0, .slice none 0 0] 26)
  have HCH := hid (chunks_any (hb.keep hB0) hlen hc hnil (by omega))
  unfold ChP at HCH
  have HR0 := hid hR0
  have HB0 := hid hB0
  clear hR0 hB0
  have HBY := hid hb
  have HLN := hid hlen
  have HCP := hid hc
  have HNL := hid hnil
  clear hb hlen hc hnil
  go_enter Try.func16, Try.ntmps16
  go_wp2_with fail
  generalize w.alloc (.cells #[.int .i64 0, .int .i64 0, .int .i64 0, .slice none 0 0] 26) = W0 at *
  refine HCH.out.mono ?_
  rintro e w1 ⟨ao, c1, rfl, hr1, hb1⟩
  have HR1 := hid (HR0.out.fr (fr_bel (X := fun _ => False) hb1) (fun x => x))
  have HB1 := hid (HB0.out.trans (hb1.mono HB0.out.size))
  have HROW := hid (row_at hr1)
  have HCI := hid (chunks_in_b HBY.out.lt)
  have HRDN := hid (rdw_no (b := b))
  have HRD : Hid ((chunks b).1 = 0 → rdw b = rdl b (chunks b).2 none none) := hid (fun h => if_pos h)
  clear hr1 hb1 HCH
  generalize (chunks b).1 = E at *
  generalize (chunks b).2 = l at *
  obtain ⟨⟨r0, r1, r2, r3⟩, ⟨z0, z1, z2, z3⟩⟩ := HR1.out
  have hfs := four_set w1 w.heap.size (.int .i64 0) (.int .i64 0) (.int .i64 0) (.slice none 0 0) HR1.out.four
  by_cases hE : E = 0
  · subst hE
    clear HRDN hfs
    have HBX := hid (bel_new w1 (.cells #[.bool false, .bool false, .int .i64 0, .int .i64 0, .int .i64 0, .int .i64 0, .int .i64 0, .int .i64 0, .slice none 0 0] 85))
    have HRS := hid (rs_new w1 85)
    have hlc : l.length ≤ 9223372036854775807 := by have h2 := HROW.out.1.1; have h3 := HROW.out.1.2; unfold maxLen at h3; omega
    have HLC := hid hlc
    have HRDE := hid (HRD.out rfl)
    clear hlc HRD
    go_wp2_with fail
    generalize w1.alloc (.cells #[.bool false, .bool false, .int .i64 0, .int .i64 0, .int .i64 0, .int .i64 0, .int .i64 0, .int .i64 0, .slice none 0 0] 85) = W1 at *
    clear r0 r1 r2 r3 z0 z1 z2 z3
    have hlc := HLC.out
    go_loopg [23] l.length (fun gg i wr => ∃ k : Nat, k ≤ l.length ∧ gg = l.length - k ∧ i = .int .i64 k ∧ ∃ F S f d, Hid (RS wr w1.heap.size F S f d) ∧ Hid (Below w1.heap.size w1 wr) ∧ Hid (rdw b = rdl b (l.drop k) F S))
    case atStart => exact ⟨0, Nat.zero_le _, rfl, rfl, none, none, _, _, HRS, HBX, hid (by rw [List.drop_zero]; exact HRDE.out)⟩
    case round =>
      obtain ⟨k, hk, hg, rfl, F, S, f, d, HS, HBW, HEQ⟩ := hrel
      have HG := hid hg
      clear hg HRS HRDE
      by_cases hlt : k < l.length
      · have hlt2 : (k : Int) < (l.length : Int) := by omega
        obtain ⟨x, hx⟩ : ∃ x, l[k]? = some x := ⟨_, List.getElem?_eq_getElem hlt⟩
        rcases HROW.out.2 with h0 | ⟨g1, rfl, hg1, _, hf1⟩
        · omega
        · obtain ⟨x0, x1, x2⟩ := hf1 k x hx
          have X0 := (HBW.out.cell (p := ⟨g1, k * 3, none⟩) hg1).trans x0
          have X1 := (HBW.out.cell (p := ⟨g1, k * 3 + 1, none⟩) hg1).trans x1
          have X2 := (HBW.out.cell (p := ⟨g1, k * 3 + 2, none⟩) hg1).trans x2
          have hci := HCI.out x (List.mem_of_getElem? hx)
          have HX := hid hx
          clear x0 x1 x2 hf1 hx
          go_wp2_with fail
          have HCB := hid (Cb.new wr (.string (tos x.nm)) (.int .i64 (x.at_ : Int)) (.int .i64 (x.sz : Int)) 42)
          have hba := bel_new wr (.cells #[.string (tos x.nm), .int .i64 (x.at_ : Int), .int .i64 (x.sz : Int)] 42)
          have HBA := hid hba
          have HBWA := hid (HBW.out.trans (hba.mono HBW.out.size))
          have hle := HLN.out
          have hcp := HCP.out
          have HC := hid fun (w' : World) (hb : Below wr.heap.size wr w') => chunk_any (L := x.sz) (c := cap - x.at_) (HS.out.below hb) hci.2 ((bcut_byts (cap := cap) (HBY.out.keep ((HB1.out.trans (HBW.out.mono HB1.out.size)).trans (hb.mono (Nat.le_trans HB1.out.size HBW.out.size)))) x.at_ (by omega)).take x.sz) (by rw [List.length_take, List.length_drop]; omega) (fun e => by
            obtain ⟨h1, h2⟩ := bcut_nil (n := b.length) HNL.out e
            rw [List.length_take, List.length_drop]; omega) (by rw [List.length_take]; omega)
          have hsl := bcut_run a len cap x.at_ (x.at_ + x.sz) (by omega) (by omega)
          rw [Nat.add_sub_cancel_left] at hsl
          have hwr : IntKind.i64.wrap ((x.at_ : Int) + (x.sz : Int)) = ((x.at_ + x.sz : Nat) : Int) := by rw [IntKind.wrap_i64]; omega
          have hpp : w1.heap.size < wr.heap.size := HS.out.bx.lt
          clear hci hle hcp X0 X1 X2 hlt hk
          generalize hss : tos x.nm = s at *
          have HSS := hid hss
          clear hss
          obtain ⟨m, hm⟩ : ∃ m, m = (b.drop x.at_).take x.sz := ⟨_, rfl⟩
          rw [← hm] at HC
          have HM := hid hm
          clear hm
          generalize ((x.at_ + x.sz : Nat) : Int) = K3 at *
          generalize (x.at_ : Int) = I3 at *
          generalize (x.sz : Int) = J3 at *
          generalize wr.alloc (.cells #[.string s, .int .i64 I3, .int .i64 J3] 42) = Wa at *
          generalize wr.heap.size = g8 at *
          obtain ⟨c0, c1, c2, _, _, _⟩ := HCB.out
          have t0 : Below g8 wr Wa.drew := ⟨HBA.out.os, HBA.out.tape, HBA.out.output, HBA.out.size, HBA.out.block⟩
          go_still_tail 12, (by kernel_rfl)
          repeat still_step
          change wpList _ _ _ _ _ Wa.drew
          have HBD := hid t0
          have HWD := hid (show Below w1.heap.size w1 Wa.drew from ⟨HBWA.out.os, HBWA.out.tape, HBWA.out.output, HBWA.out.size, HBWA.out.block⟩)
          clear c0 c1 c2 t0 hsl hwr hba HBA HBWA HCB
          generalize Wa.drew = Wd at *
          have hst := HEQ.out
          rw [drop_cons HX.out, rdl_step, show sub b x.at_ x.sz = m from HM.out.symm] at hst
          have HST := hid hst
          clear hst
          have HC2 := hid (HC.out _ HBD.out)
          unfold CkP at HC2
          clear HC
          generalize hq : stp F S x.nm m = q at *
          obtain ⟨cd, F2, S2⟩ := q
          clear hq
          go_wp2_with fail
          refine HC2.out.mono ?_
          rintro e w2 ⟨rfl, hf2, hr2⟩
          have HF2 := hid hf2
          have HR2 := hid hr2
          clear hf2 hr2 HC2
          by_cases hcd : cd = 0
          · subst hcd
            have HR3 := hid (HR2.out rfl)
            have HS3 : Hid (rdw b = rdl b (l.drop (k + 1)) F2 S2) := hid (by rw [HST.out]; exact if_pos rfl)
            clear HR2 HST
            go_wp2_with fail
            go_roundg (l.length - (k + 1))
            case measure => rw [HG.out]; omega
            case rel =>
              obtain ⟨f2, d2, hrs2⟩ := HR3.out
              exact ⟨k + 1, by omega, rfl, by go_num, F2, S2, f2, d2, hid hrs2, hid (bel_p HWD.out HF2.out (Nat.le_refl _)), HS3⟩
          · have hcd2 : ((cd : Int) != 0) = true := by rw [bne_iff_ne]; omega
            have HE : Hid (rdw b = (cd, none)) := hid (by rw [HST.out]; exact if_neg hcd)
            have hsz : w.heap.size < w1.heap.size := World.block_lt_of_cell? _ _ HR1.out.c.1
            have hR2 := HR1.out.fr ((fr_bel (X := fun b => b = w1.heap.size) HWD.out).trans HF2.out) (by omega)
            have hfs := four_set w2 w.heap.size (.int .i64 0) (.int .i64 0) (.int .i64 0) (.slice none 0 0) hR2.four
            have HBF := hid (set4_below (HB1.out.trans ((bel_p HWD.out HF2.out (Nat.le_refl _)).mono HB1.out.size)) (Nat.le_refl _) (.int .i64 0) (.int .i64 0) (.int .i64 0) (.slice none 0 0))
            obtain ⟨y0, y1, y2, y3, _⟩ := hfs
            obtain ⟨⟨r0, r1, r2, r3⟩, ⟨z0, z1, z2, z3⟩⟩ := hR2
            clear hcd hsz
            go_wp2_with fail
            refine bodyPost_ret (v := .tuple #[.agg #[.int .i64 0, .int .i64 0, .int .i64 0, .slice none 0 0], .int .i64 (cd : Int)]) ?_ rfl ?_
            · rw [results_cell_tmp (p := 2) (u := 3) (ty := 26) (by kernel_rfl)]
              go_simp
            · exact ⟨Dat.nil, by rw [HE.out]; rfl, nil_snd _, HBF.out, by rw [HE.out]; rfl⟩
      · have hkl : k = l.length := by omega
        subst hkl
        have hge : ¬ (l.length : Int) < (l.length : Int) := by omega
        have hsz : w.heap.size < w1.heap.size := World.block_lt_of_cell? _ _ HR1.out.c.1
        have heq := HEQ.out
        rw [List.drop_length] at heq
        have HQ := hid heq
        have hRx := HR1.out.fr (fr_bel (X := fun _ => False) HBW.out) (fun x => x)
        have HBE := hid (HB1.out.trans (HBW.out.mono HB1.out.size))
        obtain ⟨⟨b0, b1, -, -, -⟩, -⟩ := bxs_get HS.out.bx
        obtain ⟨⟨b5, b6, b7, b8⟩, -⟩ := bxs_all HS.out.bx
        cases S with
        | none =>
          have HE : Hid (rdw b = (51, none)) := hid (by rw [HQ.out]; rfl)
          have hfs := four_set wr w.heap.size (.int .i64 0) (.int .i64 0) (.int .i64 0) (.slice none 0 0) hRx.four
          have HBF := hid (set4_below HBE.out (Nat.le_refl _) (.int .i64 0) (.int .i64 0) (.int .i64 0) (.slice none 0 0))
          obtain ⟨y0, y1, y2, y3, _⟩ := hfs
          obtain ⟨⟨r0, r1, r2, r3⟩, ⟨z0, z1, z2, z3⟩⟩ := hRx
          clear heq b0 b5 b6 b7 b8 hsz
          go_wp2_with fail
          refine bodyPost_ret (v := .tuple #[.agg #[.int .i64 0, .int .i64 0, .int .i64 0, .slice none 0 0], .int .i64 51]) ?_ rfl ?_
          · rw [results_cell_tmp (p := 2) (u := 3) (ty := 26) (by kernel_rfl)]
            go_simp
          · exact ⟨Dat.nil, by rw [HE.out]; rfl, nil_snd _, HBF.out, by rw [HE.out]; rfl⟩
        | some y =>
          have HE : Hid (rdw b = (0, some y)) := hid (by rw [HQ.out]; exact rdl_ok b F y)
          have hfs := four_set wr w.heap.size (.int .i64 d.f.ch) (.int .i64 d.f.bits) (.int .i64 d.f.rate) (.slice d.a d.n d.cap) hRx.four
          have HBF := hid (set4_below HBE.out (Nat.le_refl _) (.int .i64 d.f.ch) (.int .i64 d.f.bits) (.int .i64 d.f.rate) (.slice d.a d.n d.cap))
          have HSD := hid (HS.out.snd.set4 (HS.out.new rfl) hsz hRx.four (.int .i64 d.f.ch) (.int .i64 d.f.bits) (.int .i64 d.f.rate) (.slice d.a d.n d.cap))
          have HOK := hid HS.out.ok
          obtain ⟨y0, y1, y2, y3, _⟩ := hfs
          obtain ⟨⟨r0, r1, r2, r3⟩, ⟨z0, z1, z2, z3⟩⟩ := hRx
          clear heq b0 hsz
          go_wp2_with fail
          refine bodyPost_ret (v := .tuple #[.agg #[.int .i64 d.f.ch, .int .i64 d.f.bits, .int .i64 d.f.rate, .slice d.a d.n d.cap], .int .i64 0]) ?_ rfl ?_
          · rw [results_cell_tmp (p := 2) (u := 3) (ty := 26) (by kernel_rfl)]
            go_simp
          · exact ⟨d, by rw [HE.out]; rfl, HSD.out, HBF.out, by rw [HE.out]; exact HOK.out⟩
  · have hE2 : ((E : Int) != 0) = true := by rw [bne_iff_ne]; omega
    have HE := hid (HRDN.out hE)
    clear hE HRD HRDN
    have HBF := hid (set4_below HB1.out (Nat.le_refl _) (.int .i64 0) (.int .i64 0) (.int .i64 0) (.slice none 0 0))
    obtain ⟨y0, y1, y2, y3, _⟩ := hfs
    go_wp2_with fail
    refine bodyPost_ret (v := .tuple #[.agg #[.int .i64 0, .int .i64 0, .int .i64 0, .slice none 0 0], .int .i64 (E : Int)]) ?_ rfl ?_
    · rw [results_cell_tmp (p := 2) (u := 3) (ty := 26) (by kernel_rfl)]
      go_simp
    · exact ⟨Dat.nil, by rw [HE.out]; rfl, nil_snd _, HBF.out, by rw [HE.out]; rfl⟩
end Go.Proofs.Ytkdpalmdcnpnoaa.Wv
