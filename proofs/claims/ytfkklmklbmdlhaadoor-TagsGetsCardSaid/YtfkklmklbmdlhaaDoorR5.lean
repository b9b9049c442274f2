/- The bytes of what is read are the bytes that it was. No program. Condition: numbers of bytes. -/
import Derived.Test.YtfkklmklbmdlhaaDoorR4
namespace Go.Proofs.YtfkklmklbmdlhaaDoor.Tg
open Go.RowKit Gen Fld
open Crc hiding hid

theorem take_of {b m r : List Nat} {n : Nat} (h : b = m ++ r) (hl : m.length = n) : b.take n = m := by subst h; exact List.take_left' hl
theorem get_back {b : List Nat} (hb : ∀ x ∈ b, x < 256) (h : gF b = 0) : (chk (gT b) (gc b)).2 = 0 ∧ gL b = lst (gT b) (gc b) ∧ gP b ≤ b.length ∧ pby (lst (gT b) (gc b)) = b.take (gP b) := by
  have hB : Bgn b := by
    by_cases h1 : Bgn b
    · exact h1
    · rw [gF_kind h1] at h; exact absurd h (by decide)
  have hF : (gX b).2.F = 0 := by
    by_cases h1 : (gX b).2.F = 0
    · exact h1
    · rw [gF_end hB rfl h1] at h; exact absurd (Int.ofNat_eq_zero.1 h) h1
  have hs : lev (gX b).1 = cs (b.take (gE b).pos) := by
    by_cases h1 : lev (gX b).1 = cs (b.take (gE b).pos)
    · exact h1
    · rw [gF_sum hB hF h1] at h; exact absurd h (by decide)
  have hk : (chk (gT b) (gc b)).2 = 0 := by rw [gF_chk hB hF hs] at h; exact h
  have hL : gL b = lst (gT b) (gc b) := by unfold gL; rw [if_pos h]
  have hP : gP b = (gX b).2.pos := by unfold gP; rw [if_pos h]
  refine ⟨hk, hL, by rw [hP]; have := gX_sum b; omega, ?_⟩
  rw [hP]
  obtain ⟨hE0, k4, e4, hk4, eX⟩ := nx_inv (s := gE b) (n := 4) (f := true) hF
  obtain rfl : k4 = 4 := by omega
  have eX2 : gX b = ((gE b).l.take 4, ⟨0, (gE b).l.drop 4, (gE b).pos + 4⟩) := eX
  have hg0b : ∀ x ∈ (g0 b).l, x < 256 := fun x hx => hb x ((nx_mem ⟨0, b, 0⟩ 2 false).2 x ((nx_mem _ 1 true).2 x hx))
  obtain ⟨h00, i2, i3⟩ := st_inv hg0b (gc b) hE0
  have j2 : (g0 b).l = tbs (lst (gT b) (gc b)) ++ (gE b).l := i2
  have j3 : (gE b).pos = (g0 b).pos + (tbs (lst (gT b) (gc b))).length := i3
  obtain ⟨h0a, k1, e1, hk1, eA⟩ := nx_inv (s := (nx ⟨0, b, 0⟩ 2 false).2) (n := 1) (f := true) h00
  obtain rfl : k1 = 1 := by omega
  obtain ⟨_, k2, e2, hk2, eB⟩ := nx_inv (s := ⟨0, b, 0⟩) (n := 2) (f := false) h0a
  obtain rfl : k2 = 2 := by omega
  have hk2' : 2 ≤ b.length := hk2
  rw [eB] at eA hk1
  have hk1' : 1 ≤ (b.drop 2).length := hk1
  have g0e : g0 b = ⟨0, (b.drop 2).drop 1, 3⟩ := by unfold g0; rw [eB, eA]
  have gce : gc b = lev ((b.drop 2).take 1) := by unfold gc; rw [eB, eA]
  have hl1 : ((b.drop 2).take 1).length = 1 := by rw [List.length_take]; omega
  have hc1 : le (gc b) 1 = (b.drop 2).take 1 := by
    rw [gce]
    exact le_of_lev hl1 (fun x hx => hb x (List.mem_of_mem_drop (List.mem_of_mem_take hx)))
  have h2 : b.take 2 = [84, 71] := by
    unfold Bgn at hB
    rw [hB]
    exact List.take_of_length_le hk2'
  have hbod : bod (lst (gT b) (gc b)) = [84, 71] ++ le (gc b) 1 ++ tbs (lst (gT b) (gc b)) := by unfold bod; rw [lst_len]
  have hblen : (bod (lst (gT b) (gc b))).length = (gE b).pos := by
    rw [hbod, j3, g0e]
    simp only [List.length_append, le_len, List.length_cons, List.length_nil]
  have hall : b = bod (lst (gT b) (gc b)) ++ ((gE b).l.take 4 ++ (gE b).l.drop 4) := by
    rw [List.take_append_drop, hbod, List.append_assoc, ← j2, g0e, hc1]
    show b = [84, 71] ++ (b.drop 2).take 1 ++ (b.drop 2).drop 1
    rw [List.append_assoc, List.take_append_drop, ← h2, List.take_append_drop]
  have htk : b.take (gE b).pos = bod (lst (gT b) (gc b)) := take_of hall hblen
  have h4l : ((gE b).l.take 4).length = 4 := by rw [List.length_take]; omega
  have h4b : ∀ x ∈ (gE b).l.take 4, x < 256 := fun x hx => hg0b x (by rw [j2]; exact List.mem_append_right _ (List.mem_of_mem_take hx))
  have hsum : le (cs (bod (lst (gT b) (gc b)))) 4 = (gE b).l.take 4 := by
    rw [htk, eX2] at hs
    rw [← hs]
    exact le_of_lev h4l h4b
  rw [eX2]
  show _ = b.take ((gE b).pos + 4)
  unfold pby
  rw [hsum]
  exact (take_of (hall.trans (List.append_assoc _ _ _).symm) (by rw [List.length_append, hblen, h4l])).symm
end Go.Proofs.YtfkklmklbmdlhaaDoor.Tg
