/- With a byte changed a sum is another one: of lists of bytes alone. Conditions: bytes. -/
import Derived.Test.YtjdifacjeeadkaaBm
namespace Go.Proofs.Ytjdifacjeeadkaa.Head
open Go.RowKit Gen Fld
open Crc hiding hid

theorem lev_set : ∀ (l : List Nat) (i u v : Nat), l[i]? = some u → u ≠ v → lev l ≠ lev (l.set i v)
  | [], i, u, v, h, _ => by simp at h
  | x :: r, 0, u, v, h, hv => by
    simp at h
    subst h
    show x + 256 * lev r ≠ v + 256 * lev r
    omega
  | x :: r, i + 1, u, v, h, hv => by
    have := lev_set r i u v (by simpa using h) hv
    show x + 256 * lev r ≠ x + 256 * lev (r.set i v)
    omega
theorem cs_set (l : List Nat) (hl : ∀ b ∈ l, b < 256) (i u v : Nat) (h : l[i]? = some u) (hu : u ≠ v) (hv : v < 256) : cs l ≠ cs (l.set i v) := by
  have hi : i < l.length := by
    rcases Nat.lt_or_ge i l.length with h' | h'
    · exact h'
    · rw [List.getElem?_eq_none h'] at h; cases h
  have hl' : ∀ b ∈ l.set i v, b < 256 := fun b hb => by
    rcases List.mem_or_eq_of_mem_set hb with h1 | h1
    · exact hl b h1
    · omega
  have hr := run_ne (f := fun j => l.getD j 0) (g := fun j => (l.set i v).getD j 0) (getD_lt hl) (getD_lt hl') l.length (nt 0) i hi
    (by simp only [List.getD_eq_getElem?_getD, h, List.getElem?_set_self hi]; exact hu)
    (fun j hj => by simp only [List.getD_eq_getElem?_getD]; rw [List.getElem?_set_ne (Ne.symm hj)])
  intro he
  apply hr
  have := congrArg nt he
  unfold cs sm at this
  rw [nt_nt, nt_nt, List.length_set] at this
  exact this
theorem chk_set {s : List Nat} (hs : ∀ b ∈ s, b < 256) {M i u v : Nat} (hc : Chk s M) (h : s[i]? = some u) (hu : u ≠ v) (hv : v < 256) : ¬ Chk (s.set i v) M := by
  unfold Chk at hc ⊢
  by_cases hi : i < M
  · rw [List.drop_set_of_lt hi, List.take_set, hc]
    exact cs_set (s.take M) (fun b hb => hs b (List.mem_of_mem_take hb)) i u v (by rw [List.getElem?_take, if_pos hi]; exact h) hu hv
  · rw [List.drop_set, if_neg hi, List.take_set_of_le (by omega), ← hc]
    exact fun e => lev_set (s.drop M) (i - M) u v (by rw [List.getElem?_drop, show M + (i - M) = i from by omega]; exact h) hu e.symm
/-- A sealed block with a byte changed is not opened; its head is got just if the byte stands behind it. -/
theorem change (h : Hh) (p : List Nat) (hp : ∀ b ∈ p, b < 256) (hr : Rt (szd h p.length)) (hk : h.lk < 4294967296) (i u v : Nat) (hi : (smd (blo h p))[i]? = some u) (hu : u ≠ v) (hv : v < 256) :
    opE ((smd (blo h p)).set i v) ≠ 0 ∧ (32 ≤ i → getE ((smd (blo h p)).set i v) = 0) ∧ (i < 32 → getE ((smd (blo h p)).set i v) ≠ 0) := by
  have hbl := blo_len h p
  have hsl : (smd (blo h p)).length = p.length + 32 + 4 := by rw [smd_len, hbl]
  have ht : (smd (blo h p)).take 32 = hby (szd h p.length) := by
    show ((hby (szd h p.length) ++ p) ++ le (cs (blo h p)) 4).take 32 = _
    rw [List.append_assoc]
    exact tk (hby_len _)
  by_cases h32 : i < 32
  · have hs : ¬ Sm ((smd (blo h p)).set i v) := by
      have hc := chk_smd (pre_lt (szd h p.length) 6)
      rw [pre_len] at hc
      have := chk_set (s := hby (szd h p.length)) (hby_lt _) hc (i := i) (u := u) (v := v) (by rw [← ht, List.getElem?_take, if_pos h32]; exact hi) hu hv
      unfold Sm
      rw [List.take_set, ht]
      exact this
    have hg : getE ((smd (blo h p)).set i v) ≠ 0 := fun e => hs (get_ok e).2.2.2.2.1
    refine ⟨?_, fun h => absurd h (by omega), fun _ => hg⟩
    unfold opE
    rw [if_pos hg]
    exact hg
  · have hd : (smd (blo h p)).set i v = hby (szd h p.length) ++ ((smd (blo h p)).set i v).drop 32 := by
      rw [← ht, ← List.take_set_of_le (a := v) (show 32 ≤ i by omega), List.take_append_drop]
    have hg := get_hby (szd h p.length) hr hk (((smd (blo h p)).set i v).drop 32)
    rw [← hd] at hg
    have hn : szn ((smd (blo h p)).set i v) = p.length := by
      unfold szn
      rw [hg.2]
      rfl
    refine ⟨?_, fun _ => hg.1, fun h => absurd h h32⟩
    have hb : ¬ Sb ((smd (blo h p)).set i v) p.length := by
      have hc := chk_smd (blo_lt (h := h) hp)
      rw [hbl] at hc
      have := chk_set (s := smd (blo h p)) (smd_lt (blo_lt hp)) hc hi hu hv
      unfold Sb
      rw [List.take_of_length_le (by rw [List.length_set]; omega)]
      exact this
    unfold opE
    rw [if_neg (fun h => h hg.1), hn, if_neg (by rw [List.length_set]; omega), if_pos hb]
    decide
end Go.Proofs.Ytjdifacjeeadkaa.Head
