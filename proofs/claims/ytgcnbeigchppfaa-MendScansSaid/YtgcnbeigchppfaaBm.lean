/- What is sealed is opened as it was; with a byte changed it is not: of lists of bytes alone. Conditions: a head that is right, bytes. -/
import Derived.Test.YtgcnbeigchppfaaIp
namespace Go.Proofs.Ytgcnbeigchppfaa.Head
open Go.RowKit Gen Fld
open Crc hiding hid

set_option maxRecDepth 100000 in
theorem tk {A B : List Nat} {k : Nat} (h : A.length = k) : (A ++ B).take k = A := by subst h; simp
set_option maxRecDepth 100000 in
theorem dp {A B : List Nat} {k : Nat} (h : A.length = k) : (A ++ B).drop k = B := by subst h; simp
set_option maxRecDepth 100000 in
theorem byte_one (v : Nat) (h : v < 256) : le v 1 = [v] := by
  show [] ++ [v / 2 ^ (8 * 0) % 256] = [v]
  rw [Nat.mul_zero, Nat.pow_zero, Nat.div_one, Nat.mod_eq_of_lt h]; rfl
set_option maxRecDepth 100000 in
theorem lev_le4 (v : Nat) (h : v < 4294967296) : lev (le v 4) = v := by
  rw [lev_le]
  exact Nat.mod_eq_of_lt h
set_option maxRecDepth 100000 in
theorem pre_at (h : Hh) : ∀ j i, i < j → ((pre h j).drop (4 + 4 * i)).take 4 = le (fd h i) 4
  | 0, i, hi => absurd hi (Nat.not_lt_zero _)
  | j + 1, i, hi => by
    show ((pre h j ++ le (fd h j) 4).drop (4 + 4 * i)).take 4 = _
    by_cases hij : i = j
    · subst hij
      rw [dp (pre_len h i), List.take_of_length_le (by rw [le_len]; exact Nat.le_refl _)]
    · rw [List.drop_append_of_le_length (by rw [pre_len]; omega), List.take_append_of_le_length (by rw [List.length_drop, pre_len]; omega)]
      exact pre_at h j i (by omega)
set_option maxRecDepth 100000 in
theorem pre_more (h : Hh) : ∀ j, ∃ R, pre h j = pre h 0 ++ R
  | 0 => ⟨[], by simp⟩
  | j + 1 => by
    obtain ⟨R, hR⟩ := pre_more h j
    exact ⟨R ++ le (fd h j) 4, by show pre h j ++ le (fd h j) 4 = _; rw [hR, List.append_assoc]⟩
set_option maxRecDepth 100000 in
theorem hby_four (h : Hh) (hk : h.k.toNat < 256) : ∃ R, hby h = [222, 92, h.k.toNat, lb h.la] ++ R := by
  obtain ⟨R, hR⟩ := pre_more h 6
  have hlb : lb h.la < 256 := by unfold lb; split <;> decide
  have h0 : pre h 0 = [222, 92, h.k.toNat, lb h.la] := by
    show [222, 92] ++ le h.k.toNat 1 ++ le (lb h.la) 1 = _
    rw [byte_one _ hk, byte_one _ hlb]; rfl
  refine ⟨R ++ le (cs (pre h 6)) 4, ?_⟩
  show pre h 6 ++ le (cs (pre h 6)) 4 = _
  rw [hR, h0, List.append_assoc]
set_option maxRecDepth 100000 in
theorem hby_fv (h : Hh) (hi : Inn h) (hk : h.lk < 4294967296) (i : Nat) (h6 : i < 6) : fv ((hby h).drop 4) i = fd h i := by
  unfold fv
  rw [List.drop_drop]
  show lev (((pre h 6 ++ le (cs (pre h 6)) 4).drop (4 + 4 * i)).take 4) = _
  rw [List.drop_append_of_le_length (by rw [pre_len]; omega), List.take_append_of_le_length (by rw [List.length_drop, pre_len]; omega), pre_at h 6 i h6]
  exact lev_le4 _ (fd_lt h hi hk i)
set_option maxRecDepth 100000 in
theorem kind_nat {h : Hh} (hr : Rt h) : h.k.toNat < 256 ∧ (h.k.toNat : Int) = h.k := by
  have hs := hr.2
  unfold Sui at hs
  omega
set_option maxRecDepth 100000 in
theorem hdl_hby (h : Hh) (hr : Rt h) (hk : h.lk < 4294967296) : hdl (hby h) = h ∧ lbb (hby h) = lb h.la := by
  obtain ⟨hk1, hk2⟩ := kind_nat hr
  obtain ⟨R, hR⟩ := hby_four h hk1
  have e1 : kb (hby h) = h.k.toNat := by
    unfold kb
    rw [hR]
    show h.k.toNat + 256 * 0 = _
    omega
  have e2 : lbb (hby h) = lb h.la := by
    unfold lbb
    rw [hR]
    show lb h.la + 256 * 0 = _
    omega
  refine ⟨?_, e2⟩
  have hi := hr.1
  have f0 := hby_fv h hi hk 0 (by decide)
  have f1 := hby_fv h hi hk 1 (by decide)
  have f2 := hby_fv h hi hk 2 (by decide)
  have f3 := hby_fv h hi hk 3 (by decide)
  have f4 := hby_fv h hi hk 4 (by decide)
  have f5 := hby_fv h hi hk 5 (by decide)
  obtain ⟨h0, h1, h2, h3, h4, h5, h6, h7, h8, h9⟩ := hi
  unfold hdl
  rw [e1, e2, f0, f1, f2, f3, f4, f5, hk2]
  have g0 : (fd h 0 : Int) = h.ix := by show (h.ix.toNat : Int) = _; omega
  have g1 : (fd h 1 : Int) = h.ln := by show (h.ln.toNat : Int) = _; omega
  have g2 : (fd h 2 : Int) = h.st := by show (h.st.toNat : Int) = _; omega
  have g3 : (fd h 3 : Int) = h.bd := by show (h.bd.toNat : Int) = _; omega
  have g5 : (fd h 5 : Int) = h.sz := by show (h.sz.toNat : Int) = _; omega
  have g6 : decide (lb h.la = 1) = h.la := by cases h.la <;> rfl
  rw [g0, g1, g2, g3, g5, g6]
  rfl
/-- The sum that stands at the end is the right one. -/
def Chk (s : List Nat) (M : Nat) : Prop := lev (s.drop M) = cs (s.take M)
set_option maxRecDepth 100000 in
theorem chk_smd {l : List Nat} (h : ∀ b ∈ l, b < 256) : Chk (smd l) l.length := by
  unfold Chk smd
  rw [dp rfl, tk rfl]
  exact lev_le4 _ (cs_lt h)
set_option maxRecDepth 100000 in
theorem bgn_hby (h : Hh) (hr : Rt h) (m : List Nat) : Bgn (hby h ++ m) := by
  obtain ⟨R, hR⟩ := hby_four h (kind_nat hr).1
  unfold Bgn
  rw [hR]
  simp
set_option maxRecDepth 100000 in
theorem get_hby (h : Hh) (hr : Rt h) (hk : h.lk < 4294967296) (m : List Nat) : getE (hby h ++ m) = 0 ∧ getH (hby h ++ m) = h := by
  have h1 := bgn_hby h hr m
  have hl := hby_len h
  have h2 : ¬ (hby h ++ m).length < 32 := by rw [List.length_append]; omega
  have ht : (hby h ++ m).take 32 = hby h := tk hl
  have h3 : Sm (hby h ++ m) := by
    unfold Sm
    rw [ht]
    have := chk_smd (pre_lt h 6)
    rw [pre_len] at this
    exact this
  obtain ⟨e1, e2⟩ := hdl_hby h hr hk
  have h4 : ¬ Bad (hby h) := by
    unfold Bad
    rw [e1, e2]
    intro hx
    rcases hx with hx | hx
    · unfold lb at hx; split at hx <;> omega
    · exact hx hr
  constructor
  · unfold getE
    rw [if_neg (fun h => h h1), if_neg h2, if_neg (fun h => h h3), ht]
    unfold rdE
    rw [if_neg h4]
  · unfold getH
    rw [if_neg (fun h => h h1), if_neg h2, if_neg (fun h => h h3), ht]
    unfold rdH
    rw [if_neg h4, e1]
set_option maxRecDepth 100000 in
theorem blo_lt {h : Hh} {p : List Nat} (hp : ∀ b ∈ p, b < 256) : ∀ b ∈ blo h p, b < 256 := by
  intro b hb
  rcases List.mem_append.1 hb with hb | hb
  · exact hby_lt _ b hb
  · exact hp b hb
set_option maxRecDepth 100000 in
theorem blo_len (h : Hh) (p : List Nat) : (blo h p).length = p.length + 32 := by unfold blo; rw [List.length_append, hby_len]; omega
set_option maxRecDepth 100000 in
/-- What is sealed is opened as it was, whatever stands behind it. -/
theorem open_smd (h : Hh) (p : List Nat) (hp : ∀ b ∈ p, b < 256) (hr : Rt (szd h p.length)) (hk : h.lk < 4294967296) (more : List Nat) :
    opE (smd (blo h p) ++ more) = 0 ∧ opH (smd (blo h p) ++ more) = szd h p.length ∧ opP (smd (blo h p) ++ more) = p ∧ opS (smd (blo h p) ++ more) = cs (blo h p) := by
  have hl : smd (blo h p) ++ more = hby (szd h p.length) ++ (p ++ (le (cs (blo h p)) 4 ++ more)) := by
    show (blo h p ++ le (cs (blo h p)) 4) ++ more = _
    have : blo h p = hby (szd h p.length) ++ p := rfl
    rw [this]
    simp only [List.append_assoc]
  have hg := get_hby (szd h p.length) hr hk (p ++ (le (cs (blo h p)) 4 ++ more))
  rw [← hl] at hg
  have hn : szn (smd (blo h p) ++ more) = p.length := by
    unfold szn
    rw [hg.2]
    rfl
  have hbl := blo_len h p
  have hsl : (smd (blo h p)).length = p.length + 32 + 4 := by rw [smd_len, hbl]
  have h1 : ¬ (smd (blo h p) ++ more).length < p.length + 36 := by rw [List.length_append]; omega
  have ht : (smd (blo h p) ++ more).take (p.length + 32 + 4) = smd (blo h p) := tk hsl
  have ht2 : (smd (blo h p)).take (p.length + 32) = blo h p := by unfold smd; exact tk hbl
  have h2 : Sb (smd (blo h p) ++ more) p.length := by
    unfold Sb
    rw [ht]
    have := chk_smd (blo_lt (h := h) hp)
    rw [hbl] at this
    exact this
  have hE : opE (smd (blo h p) ++ more) = 0 := by
    unfold opE
    rw [hn, if_neg (fun h => h hg.1), if_neg h1, if_neg (fun h => h h2)]
  refine ⟨hE, ?_, ?_, ?_⟩
  · unfold opH; rw [if_pos hE]; exact hg.2
  · unfold opP; rw [if_pos hE, hn, hl, dp (hby_len _), tk rfl]
  · unfold opS; rw [if_pos hE, hn, ht, ht2]
end Go.Proofs.Ytgcnbeigchppfaa.Head
