/- A slice of tags, and a tag by value, as the statements' form reads them, opened. No condition. -/
import Derived.Test.YthjjonbkfkpkmaaDoorY19
import Derived.Test.YthjjonbkfkpkmaaDoorRows
import Derived.ProofKit
import Derived.OpenShut
import Derived.Deep.Slices
import Derived.Deep.Strs
import Derived.Lib.SmallJoins
import Derived.Test.YthjjonbkfkpkmaaDoorYxIp
import Derived.Test.YthjjonbkfkpkmaaDoorY08
import Derived.Test.YthjjonbkfkpkmaaDoorY18
namespace Go.Proofs.YthjjonbkfkpkmaaDoor.Tg
open Go.ChangeShapes Go.WideShapes Go.ChangeAt Go.RowKit

set_option maxRecDepth 100000 in
theorem cells_tag : Tryd.prog.cellsOf 54 = 2 := by kernel_rfl
set_option maxRecDepth 100000 in
theorem cells_str : Tryd.prog.cellsOf 9 = 1 := by kernel_rfl
set_option maxRecDepth 100000 in
theorem open_tags {H : Type} {enc : TypeId × Value → H} {W : World} {spare : Nat → Bool} {held : Bool} {fuel : Nat} {a : Option Addr} {len cap : Nat} {x : DataW H × List MemPlace}
    (hf : DataW.trod enc Tryd.prog W 0 spare held fuel 26 [.slice a len cap] = some x) : ∃ b off T, Tb W a len b off T ∧ len ≤ 9223372036854775807 ∧ len ≤ cap := by
  rcases Deep.open_slice Tryd.underlying26 hf with ⟨hcs, _⟩ | ⟨a', l, c, m, n, D, Pl, hcs, _, hlc, hcm, hm, _, hel⟩
  · simp at hcs
    obtain ⟨rfl, rfl, rfl⟩ := hcs
    exact ⟨0, 0, fun _ => ⟨ByteArray.empty, ByteArray.empty⟩, ⟨by omega, by omega, by omega, by omega⟩, by omega, by omega⟩
  · simp at hcs
    obtain ⟨rfl, rfl, rfl⟩ := hcs
    have hmx : maxLen = 9223372036854775807 := rfl
    have hlm : len ≤ m := by rw [hm]; split <;> omega
    by_cases h0 : len = 0
    · subst h0
      exact ⟨0, 0, fun _ => ⟨ByteArray.empty, ByteArray.empty⟩, ⟨by omega, by omega, by omega, by omega⟩, by omega, by omega⟩
    rw [cells_tag] at hel
    have each : ∀ i, i < len → ∃ y : ByteArray × ByteArray, W.cell? ((a'.add (i * 2)).add 0) = some (.string y.1) ∧ W.cell? ((a'.add (i * 2)).add 1) = some (.string y.2) := by
      intro i hi
      obtain ⟨cs', h1, h2⟩ := hel i (by omega)
      obtain ⟨_, hl3, hcell⟩ := World.cells?_some h1
      obtain ⟨y0, y1, n', _, _, t0, t1⟩ := trod_struct2 Tryd.underlying54 h2
      obtain ⟨s0, e0, _, w0⟩ := DataW.trod_string Tryd.underlying9 t0
      obtain ⟨s1, e1, _, w1⟩ := DataW.trod_string Tryd.underlying9 t1
      rw [cells_str] at e0 e1
      match cs', hl3, e0, e1, hcell with
      | [c0, c1], _, e0, e1, hcell =>
        simp at e0 e1
        subst e0 e1
        exact ⟨(s0, s1), hcell 0 (by omega), hcell 1 (by omega)⟩
    obtain ⟨b, off, spot⟩ := a'
    obtain ⟨y, hy⟩ := Deep.choose_lt each
    have hspot : spot = none := by
      have := (hy 0 (by omega)).1
      simpa [Addr.add] using World.cell?_spot this
    subst hspot
    have ea : ∀ i j, ((⟨b, off, none⟩ : Addr).add (i * 2)).add j = ⟨b, off + i * 2 + j, none⟩ := fun i j => by rw [Addr.add_lit, Addr.add_lit]
    refine ⟨b, off, fun i => ⟨(y i).1, (y i).2⟩, ⟨fun _ => rfl, fun i hi => ?_, fun i hi => ?_, fun _ => ?_⟩, by omega, by omega⟩
    · have := (hy i hi).1; rw [ea] at this; exact this
    · have := (hy i hi).2; rw [ea] at this; exact this
    · have := (hy 0 (by omega)).1
      rw [ea] at this
      exact World.block_lt_of_cell? W _ this
end Go.Proofs.YthjjonbkfkpkmaaDoor.Tg
namespace Go.Proofs.YthjjonbkfkpkmaaDoor.Head
open Go.RowKit Gen Fld
open Crc hiding hid

set_option maxRecDepth 100000 in
theorem tk {A B : List Nat} {k : Nat} (h : A.length = k) : (A ++ B).take k = A := by subst h; simp
set_option maxRecDepth 100000 in
theorem dp {A B : List Nat} {k : Nat} (h : A.length = k) : (A ++ B).drop k = B := by subst h; simp
set_option maxRecDepth 100000 in
theorem byte_one (v : Nat) (h : v < 256) : le v 1 = [v] := by
  show [] ++ [v / 2 ^ (8 * 0) % 256] = [v]
  rw [Nat.mul_zero, Nat.pow_zero, Nat.div_one, Nat.mod_eq_of_lt h]; rfl
set_option maxRecDepth 100000 in
theorem lev_le4 (v : Nat) (h : v < 4294967296) : lev (le v 4) = v := by
  rw [lev_le]
  exact Nat.mod_eq_of_lt h
set_option maxRecDepth 100000 in
theorem pre_at (h : Hh) : ∀ j i, i < j → ((pre h j).drop (4 + 4 * i)).take 4 = le (fd h i) 4
  | 0, i, hi => absurd hi (Nat.not_lt_zero _)
  | j + 1, i, hi => by
    show ((pre h j ++ le (fd h j) 4).drop (4 + 4 * i)).take 4 = _
    by_cases hij : i = j
    · subst hij
      rw [dp (pre_len h i), List.take_of_length_le (by rw [le_len]; exact Nat.le_refl _)]
    · rw [List.drop_append_of_le_length (by rw [pre_len]; omega), List.take_append_of_le_length (by rw [List.length_drop, pre_len]; omega)]
      exact pre_at h j i (by omega)
set_option maxRecDepth 100000 in
theorem pre_more (h : Hh) : ∀ j, ∃ R, pre h j = pre h 0 ++ R
  | 0 => ⟨[], by simp⟩
  | j + 1 => by
    obtain ⟨R, hR⟩ := pre_more h j
    exact ⟨R ++ le (fd h j) 4, by show pre h j ++ le (fd h j) 4 = _; rw [hR, List.append_assoc]⟩
set_option maxRecDepth 100000 in
theorem hby_four (h : Hh) (hk : h.k.toNat < 256) : ∃ R, hby h = [222, 92, h.k.toNat, lb h.la] ++ R := by
  obtain ⟨R, hR⟩ := pre_more h 6
  have hlb : lb h.la < 256 := by unfold lb; split <;> decide
  have h0 : pre h 0 = [222, 92, h.k.toNat, lb h.la] := by
    show [222, 92] ++ le h.k.toNat 1 ++ le (lb h.la) 1 = _
    rw [byte_one _ hk, byte_one _ hlb]; rfl
  refine ⟨R ++ le (cs (pre h 6)) 4, ?_⟩
  show pre h 6 ++ le (cs (pre h 6)) 4 = _
  rw [hR, h0, List.append_assoc]
set_option maxRecDepth 100000 in
theorem hby_fv (h : Hh) (hi : Inn h) (hk : h.lk < 4294967296) (i : Nat) (h6 : i < 6) : fv ((hby h).drop 4) i = fd h i := by
  unfold fv
  rw [List.drop_drop]
  show lev (((pre h 6 ++ le (cs (pre h 6)) 4).drop (4 + 4 * i)).take 4) = _
  rw [List.drop_append_of_le_length (by rw [pre_len]; omega), List.take_append_of_le_length (by rw [List.length_drop, pre_len]; omega), pre_at h 6 i h6]
  exact lev_le4 _ (fd_lt h hi hk i)
set_option maxRecDepth 100000 in
theorem kind_nat {h : Hh} (hr : Rt h) : h.k.toNat < 256 ∧ (h.k.toNat : Int) = h.k := by
  have hs := hr.2
  unfold Sui at hs
  omega
set_option maxRecDepth 100000 in
theorem hdl_hby (h : Hh) (hr : Rt h) (hk : h.lk < 4294967296) : hdl (hby h) = h ∧ lbb (hby h) = lb h.la := by
  obtain ⟨hk1, hk2⟩ := kind_nat hr
  obtain ⟨R, hR⟩ := hby_four h hk1
  have e1 : kb (hby h) = h.k.toNat := by
    unfold kb
    rw [hR]
    show h.k.toNat + 256 * 0 = _
    omega
  have e2 : lbb (hby h) = lb h.la := by
    unfold lbb
    rw [hR]
    show lb h.la + 256 * 0 = _
    omega
  refine ⟨?_, e2⟩
  have hi := hr.1
  have f0 := hby_fv h hi hk 0 (by decide)
  have f1 := hby_fv h hi hk 1 (by decide)
  have f2 := hby_fv h hi hk 2 (by decide)
  have f3 := hby_fv h hi hk 3 (by decide)
  have f4 := hby_fv h hi hk 4 (by decide)
  have f5 := hby_fv h hi hk 5 (by decide)
  obtain ⟨h0, h1, h2, h3, h4, h5, h6, h7, h8, h9⟩ := hi
  unfold hdl
  rw [e1, e2, f0, f1, f2, f3, f4, f5, hk2]
  have g0 : (fd h 0 : Int) = h.ix := by show (h.ix.toNat : Int) = _; omega
  have g1 : (fd h 1 : Int) = h.ln := by show (h.ln.toNat : Int) = _; omega
  have g2 : (fd h 2 : Int) = h.st := by show (h.st.toNat : Int) = _; omega
  have g3 : (fd h 3 : Int) = h.bd := by show (h.bd.toNat : Int) = _; omega
  have g5 : (fd h 5 : Int) = h.sz := by show (h.sz.toNat : Int) = _; omega
  have g6 : decide (lb h.la = 1) = h.la := by cases h.la <;> rfl
  rw [g0, g1, g2, g3, g5, g6]
  rfl
/-- The sum that stands at the end is the right one. -/
def Chk (s : List Nat) (M : Nat) : Prop := lev (s.drop M) = cs (s.take M)
set_option maxRecDepth 100000 in
theorem chk_smd {l : List Nat} (h : ∀ b ∈ l, b < 256) : Chk (smd l) l.length := by
  unfold Chk smd
  rw [dp rfl, tk rfl]
  exact lev_le4 _ (cs_lt h)
set_option maxRecDepth 100000 in
theorem bgn_hby (h : Hh) (hr : Rt h) (m : List Nat) : Bgn (hby h ++ m) := by
  obtain ⟨R, hR⟩ := hby_four h (kind_nat hr).1
  unfold Bgn
  rw [hR]
  simp
set_option maxRecDepth 100000 in
theorem get_hby (h : Hh) (hr : Rt h) (hk : h.lk < 4294967296) (m : List Nat) : getE (hby h ++ m) = 0 ∧ getH (hby h ++ m) = h := by
  have h1 := bgn_hby h hr m
  have hl := hby_len h
  have h2 : ¬ (hby h ++ m).length < 32 := by rw [List.length_append]; omega
  have ht : (hby h ++ m).take 32 = hby h := tk hl
  have h3 : Sm (hby h ++ m) := by
    unfold Sm
    rw [ht]
    have := chk_smd (pre_lt h 6)
    rw [pre_len] at this
    exact this
  obtain ⟨e1, e2⟩ := hdl_hby h hr hk
  have h4 : ¬ Bad (hby h) := by
    unfold Bad
    rw [e1, e2]
    intro hx
    rcases hx with hx | hx
    · unfold lb at hx; split at hx <;> omega
    · exact hx hr
  constructor
  · unfold getE
    rw [if_neg (fun h => h h1), if_neg h2, if_neg (fun h => h h3), ht]
    unfold rdE
    rw [if_neg h4]
  · unfold getH
    rw [if_neg (fun h => h h1), if_neg h2, if_neg (fun h => h h3), ht]
    unfold rdH
    rw [if_neg h4, e1]
set_option maxRecDepth 100000 in
theorem blo_lt {h : Hh} {p : List Nat} (hp : ∀ b ∈ p, b < 256) : ∀ b ∈ blo h p, b < 256 := by
  intro b hb
  rcases List.mem_append.1 hb with hb | hb
  · exact hby_lt _ b hb
  · exact hp b hb
set_option maxRecDepth 100000 in
theorem blo_len (h : Hh) (p : List Nat) : (blo h p).length = p.length + 32 := by unfold blo; rw [List.length_append, hby_len]; omega
set_option maxRecDepth 100000 in
/-- What is sealed is opened as it was, whatever stands behind it. -/
theorem open_smd (h : Hh) (p : List Nat) (hp : ∀ b ∈ p, b < 256) (hr : Rt (szd h p.length)) (hk : h.lk < 4294967296) (more : List Nat) :
    opE (smd (blo h p) ++ more) = 0 ∧ opH (smd (blo h p) ++ more) = szd h p.length ∧ opP (smd (blo h p) ++ more) = p ∧ opS (smd (blo h p) ++ more) = cs (blo h p) := by
  have hl : smd (blo h p) ++ more = hby (szd h p.length) ++ (p ++ (le (cs (blo h p)) 4 ++ more)) := by
    show (blo h p ++ le (cs (blo h p)) 4) ++ more = _
    have : blo h p = hby (szd h p.length) ++ p := rfl
    rw [this]
    simp only [List.append_assoc]
  have hg := get_hby (szd h p.length) hr hk (p ++ (le (cs (blo h p)) 4 ++ more))
  rw [← hl] at hg
  have hn : szn (smd (blo h p) ++ more) = p.length := by
    unfold szn
    rw [hg.2]
    rfl
  have hbl := blo_len h p
  have hsl : (smd (blo h p)).length = p.length + 32 + 4 := by rw [smd_len, hbl]
  have h1 : ¬ (smd (blo h p) ++ more).length < p.length + 36 := by rw [List.length_append]; omega
  have ht : (smd (blo h p) ++ more).take (p.length + 32 + 4) = smd (blo h p) := tk hsl
  have ht2 : (smd (blo h p)).take (p.length + 32) = blo h p := by unfold smd; exact tk hbl
  have h2 : Sb (smd (blo h p) ++ more) p.length := by
    unfold Sb
    rw [ht]
    have := chk_smd (blo_lt (h := h) hp)
    rw [hbl] at this
    exact this
  have hE : opE (smd (blo h p) ++ more) = 0 := by
    unfold opE
    rw [hn, if_neg (fun h => h hg.1), if_neg h1, if_neg (fun h => h h2)]
  refine ⟨hE, ?_, ?_, ?_⟩
  · unfold opH; rw [if_pos hE]; exact hg.2
  · unfold opP; rw [if_pos hE, hn, hl, dp (hby_len _), tk rfl]
  · unfold opS; rw [if_pos hE, hn, ht, ht2]
end Go.Proofs.YthjjonbkfkpkmaaDoor.Head
namespace Go.Proofs.YthjjonbkfkpkmaaDoor.Inf
open Go.RowKit Gen Fld
open Crc hiding hid

set_option maxRecDepth 100000 in
theorem le_lev : ∀ (n : Nat) (m : List Nat), m.length = n → (∀ b ∈ m, b < 256) → ∀ u, le (lev m + 2 ^ (8 * n) * u) n = m
  | 0, m, hl, _, u => by rw [List.eq_nil_of_length_eq_zero hl]; rfl
  | n + 1, m, hl, hb, u => by
    have hne : m ≠ [] := fun e => by rw [e] at hl; simp at hl
    have hm := (List.dropLast_concat_getLast hne).symm
    obtain ⟨d, hd⟩ : ∃ d, d = m.dropLast := ⟨_, rfl⟩
    obtain ⟨x, hx⟩ : ∃ x, x = m.getLast hne := ⟨_, rfl⟩
    rw [← hd, ← hx] at hm
    have hdl : d.length = n := by rw [hd, List.length_dropLast]; omega
    have hxb : x < 256 := hb x (by rw [hx]; exact List.getLast_mem hne)
    have hdb : ∀ b ∈ d, b < 256 := fun b h => hb b (by rw [hm]; exact List.mem_append_left _ h)
    have ih := le_lev n d hdl hdb (x + 256 * u)
    have hlt := lev_lt d hdb
    rw [hdl] at hlt
    have e1 : lev m + 2 ^ (8 * (n + 1)) * u = lev d + 2 ^ (8 * n) * (x + 256 * u) := by
      rw [hm, lev_app, hdl, show 8 * (n + 1) = 8 * n + 8 from by omega, Nat.pow_add]
      show lev d + 2 ^ (8 * n) * (x + 256 * 0) + 2 ^ (8 * n) * 256 * u = _
      rw [Nat.mul_add, Nat.mul_assoc, Nat.mul_add]; omega
    show le _ n ++ [_ / 2 ^ (8 * n) % 256] = m
    rw [e1, ih, Nat.add_mul_div_left _ _ (Nat.pow_pos (by decide)), Nat.div_eq_of_lt hlt, Nat.zero_add, Nat.add_mul_mod_self_left, Nat.mod_eq_of_lt hxb, ← hm]
set_option maxRecDepth 100000 in
theorem le_of_lev {m : List Nat} {n : Nat} (hl : m.length = n) (hb : ∀ b ∈ m, b < 256) : le (lev m) n = m := by
  have := le_lev n m hl hb 0
  rwa [Nat.mul_zero, Nat.add_zero] at this
set_option maxRecDepth 100000 in
theorem tk {A B : List Nat} {k : Nat} (h : A.length = k) : (A ++ B).take k = A := by subst h; simp
set_option maxRecDepth 100000 in
theorem dp {A B : List Nat} {k : Nat} (h : A.length = k) : (A ++ B).drop k = B := by subst h; simp
set_option maxRecDepth 100000 in
theorem at_mid {l P R : List Nat} {v j n : Nat} (hl : l = P ++ (le v n ++ R)) (hP : P.length = j) (hv : v < 2 ^ (8 * n)) : at_ l j n = v := by
  unfold at_
  rw [hl, dp hP, tk (le_len v n), lev_le, Nat.mod_eq_of_lt hv]
set_option maxRecDepth 100000 in
theorem le_at_ {l : List Nat} (hb : ∀ b ∈ l, b < 256) (j n : Nat) (h : j + n ≤ l.length) : le (at_ l j n) n = (l.drop j).take n :=
  le_of_lev (by rw [List.length_take, List.length_drop]; omega) (fun b h => hb b (List.mem_of_mem_drop (List.mem_of_mem_take h)))
set_option maxRecDepth 100000 in
theorem take_more (l : List Nat) (j n : Nat) : l.take j ++ (l.drop j).take n = l.take (j + n) := by rw [List.take_add]
set_option maxRecDepth 100000 in
/-- What is put is got, whatever stands behind it. -/
theorem get_iby (i : If) (hr : Rt i) (q : List Nat) : getE (iby i ++ q) = 0 ∧ getI (iby i ++ q) = i := by
  have hlen := iby_len i
  obtain ⟨k, ch, bits, rate, bk, sh, rfl, lk, lch, lbi, lra, lbk, lsh⟩ := rt_nat i hr
  obtain ⟨l, hl⟩ : ∃ l, l = iby ⟨(k : Int), ⟨(ch : Int), (bits : Int), (rate : Int)⟩, (bk : Int), (sh : Int)⟩ ++ q := ⟨_, rfl⟩
  rw [← hl]
  have hpre : ipre ⟨(k : Int), ⟨(ch : Int), (bits : Int), (rate : Int)⟩, (bk : Int), (sh : Int)⟩ = mk4 ++ le k 1 ++ le ch 1 ++ le bits 1 ++ le sh 1 ++ le rate 3 ++ le bk 4 := rfl
  have hpl := ipre_len ⟨(k : Int), ⟨(ch : Int), (bits : Int), (rate : Int)⟩, (bk : Int), (sh : Int)⟩
  have hcs := cs_lt (ipre_lt ⟨(k : Int), ⟨(ch : Int), (bits : Int), (rate : Int)⟩, (bk : Int), (sh : Int)⟩)
  have hll : 19 ≤ l.length := by rw [hl, List.length_append, hlen]; omega
  unfold iby smd at hl
  have h15 : l.take 15 = ipre ⟨(k : Int), ⟨(ch : Int), (bits : Int), (rate : Int)⟩, (bk : Int), (sh : Int)⟩ := by rw [hl, List.append_assoc]; exact tk hpl
  have hsm : Sm l := by
    unfold Sm
    rw [h15]
    exact at_mid (P := ipre ⟨(k : Int), ⟨(ch : Int), (bits : Int), (rate : Int)⟩, (bk : Int), (sh : Int)⟩) (R := q) (by rw [hl, List.append_assoc]) hpl hcs
  rw [hpre] at hl
  generalize le (cs (mk4 ++ le k 1 ++ le ch 1 ++ le bits 1 ++ le sh 1 ++ le rate 3 ++ le bk 4)) 4 ++ q = R at *
  have hbg : Bgn l := by
    unfold Bgn
    rw [List.take_of_length_le (l := mk4) (by show 4 ≤ l.length; omega), hl]
    simp only [List.append_assoc]
    exact tk rfl
  have e1 : at_ l 4 1 = k := at_mid (P := mk4) (by rw [hl]; simp only [List.append_assoc]; rfl) rfl (by exact lk)
  have e2 : at_ l 5 1 = ch := at_mid (P := mk4 ++ le k 1) (by rw [hl]; simp only [List.append_assoc]; rfl) (by simp only [List.length_append, le_len]; rfl) (by exact lch)
  have e3 : at_ l 6 1 = bits := at_mid (P := mk4 ++ le k 1 ++ le ch 1) (by rw [hl]; simp only [List.append_assoc]; rfl) (by simp only [List.length_append, le_len]; rfl) (by exact lbi)
  have e4 : at_ l 7 1 = sh := at_mid (P := mk4 ++ le k 1 ++ le ch 1 ++ le bits 1) (by rw [hl]; simp only [List.append_assoc]; rfl) (by simp only [List.length_append, le_len]; rfl) (by exact lsh)
  have e5 : at_ l 8 3 = rate := at_mid (P := mk4 ++ le k 1 ++ le ch 1 ++ le bits 1 ++ le sh 1) (by rw [hl]; simp only [List.append_assoc]; rfl) (by simp only [List.length_append, le_len]; rfl) (by exact lra)
  have e6 : at_ l 11 4 = bk := at_mid (P := mk4 ++ le k 1 ++ le ch 1 ++ le bits 1 ++ le sh 1 ++ le rate 3) (by rw [hl]; simp only [List.append_assoc]; rfl) (by simp only [List.length_append, le_len]; rfl) (by exact lbk)
  have hin : inl l = ⟨(k : Int), ⟨(ch : Int), (bits : Int), (rate : Int)⟩, (bk : Int), (sh : Int)⟩ := by
    unfold inl
    rw [e1, e2, e3, e4, e5, e6]
  have hge : getE l = 0 := by
    unfold getE
    rw [if_neg (fun h => h hbg), if_neg (by omega), if_neg (fun h => h hsm), hin, if_neg (fun h => h hr)]
  exact ⟨hge, (if_pos hge).trans hin⟩
set_option maxRecDepth 100000 in
/-- What is got is put as the bytes that it was. -/
theorem iby_get {l : List Nat} (hb : ∀ b ∈ l, b < 256) (h : getE l = 0) : Rt (inl l) ∧ 19 ≤ l.length ∧ iby (inl l) = l.take 19 := by
  unfold getE at h
  by_cases h1 : Bgn l
  · rw [if_neg (fun h => h h1)] at h
    by_cases h2 : l.length < 19
    · rw [if_pos h2] at h; cases h
    · rw [if_neg h2] at h
      by_cases h3 : Sm l
      · rw [if_neg (fun h => h h3)] at h
        by_cases h4 : Rt (inl l)
        · refine ⟨h4, by omega, ?_⟩
          have hp : ipre (inl l) = l.take 15 := by
            have h5 : mk4 = l.take 4 := by
              unfold Bgn at h1
              rw [h1, List.take_of_length_le (l := mk4) (by show 4 ≤ l.length; omega)]
            show mk4 ++ le (at_ l 4 1) 1 ++ le (at_ l 5 1) 1 ++ le (at_ l 6 1) 1 ++ le (at_ l 7 1) 1 ++ le (at_ l 8 3) 3 ++ le (at_ l 11 4) 4 = _
            rw [le_at_ hb 4 1 (by omega), le_at_ hb 5 1 (by omega), le_at_ hb 6 1 (by omega), le_at_ hb 7 1 (by omega), le_at_ hb 8 3 (by omega), le_at_ hb 11 4 (by omega), h5]
            rw [take_more l 4 1, take_more l 5 1, take_more l 6 1, take_more l 7 1, take_more l 8 3, take_more l 11 4]
          unfold iby smd
          rw [hp, ← (show at_ l 15 4 = cs (l.take 15) from h3), le_at_ hb 15 4 (by omega), take_more l 15 4]
        · rw [if_pos h4] at h; cases h
      · rw [if_pos h3] at h; cases h
  · rw [if_pos h1] at h; cases h
end Go.Proofs.YthjjonbkfkpkmaaDoor.Inf
namespace Go.Proofs.YthjjonbkfkpkmaaDoor.Head
open Go.RowKit Gen Fld
open Crc hiding hid

set_option maxRecDepth 100000 in
theorem bgn_app {l : List Nat} (h : 2 ≤ l.length) (m : List Nat) : Bgn (l ++ m) ↔ Bgn l := by
  unfold Bgn
  rw [List.take_append_of_le_length h, List.length_append, List.take_of_length_le (l := [222, 92]) (show 2 ≤ _ by omega), List.take_of_length_le (l := [222, 92]) (show 2 ≤ _ by omega)]
set_option maxRecDepth 100000 in
theorem bgn_take {l : List Nat} (h : Bgn l) (k : Nat) : Bgn (l.take k) := by
  unfold Bgn at *
  rw [List.take_take, Nat.min_comm 2 k, ← List.take_take, h, List.take_take, List.length_take]
set_option maxRecDepth 100000 in
theorem get_app {l : List Nat} (h : 32 ≤ l.length) (m : List Nat) : getE (l ++ m) = getE l ∧ getH (l ++ m) = getH l := by
  have e : (l ++ m).take 32 = l.take 32 := List.take_append_of_le_length h
  have h1 : ¬ (l ++ m).length < 32 := by rw [List.length_append]; omega
  have h2 : ¬ l.length < 32 := by omega
  have h3 := bgn_app (l := l) (by omega) m
  have h4 : Sm (l ++ m) ↔ Sm l := by unfold Sm; rw [e]
  unfold getE getH
  simp only [h1, h2, h3, h4, e, if_false, and_self]
set_option maxRecDepth 100000 in
theorem get_bgn {l : List Nat} (h : getE l = 0) : Bgn l ∧ 32 ≤ l.length ∧ Sm l ∧ ¬ Bad (l.take 32) ∧ getH l = hdl (l.take 32) := by
  unfold getE at h
  by_cases h1 : Bgn l
  · rw [if_neg (fun e => e h1)] at h
    by_cases h2 : l.length < 32
    · rw [if_pos h2] at h; exact absurd h (by decide)
    · rw [if_neg h2] at h
      by_cases h3 : Sm l
      · rw [if_neg (fun e => e h3)] at h
        unfold rdE at h
        by_cases h4 : Bad (l.take 32)
        · rw [if_pos h4] at h; exact absurd h (by decide)
        · refine ⟨h1, by omega, h3, h4, ?_⟩
          unfold getH
          rw [if_neg (fun e => e h1), if_neg h2, if_neg (fun e => e h3)]
          unfold rdH
          rw [if_neg h4]
      · rw [if_pos h3] at h; exact absurd h (by decide)
  · rw [if_pos h1] at h; exact absurd h (by decide)
set_option maxRecDepth 100000 in
theorem op_get {l : List Nat} (h : opE l = 0) : getE l = 0 ∧ szn l + 36 ≤ l.length ∧ Sb l (szn l) := by
  unfold opE at h
  by_cases h0 : getE l = 0
  · rw [if_neg (fun e => e h0)] at h
    by_cases h1 : l.length < szn l + 36
    · rw [if_pos h1] at h; exact absurd h (by decide)
    · rw [if_neg h1] at h
      by_cases h2 : Sb l (szn l)
      · exact ⟨h0, by omega, h2⟩
      · rw [if_pos h2] at h; exact absurd h (by decide)
  · rw [if_pos h0] at h; exact absurd h h0
set_option maxRecDepth 100000 in
theorem op_app {l : List Nat} (h : opE l = 0) (m : List Nat) : opE (l ++ m) = 0 ∧ opH (l ++ m) = opH l ∧ opP (l ++ m) = opP l ∧ opS (l ++ m) = opS l ∧ szn (l ++ m) = szn l := by
  obtain ⟨h0, h1, h2⟩ := op_get h
  obtain ⟨g1, g2⟩ := get_app (l := l) (by omega) m
  have hz : szn (l ++ m) = szn l := by unfold szn; rw [g2]
  have ht : (l ++ m).take (szn l + 32 + 4) = l.take (szn l + 32 + 4) := List.take_append_of_le_length (by omega)
  have hS : Sb (l ++ m) (szn l) := by
    unfold Sb at *
    rw [ht]
    exact h2
  have hE : opE (l ++ m) = 0 := by
    unfold opE
    rw [g1, hz, if_neg (fun e => e h0), if_neg (by rw [List.length_append]; omega), if_neg (fun e => e hS)]
  refine ⟨hE, ?_, ?_, ?_, hz⟩
  · unfold opH; rw [if_pos hE, if_pos h, g2]
  · unfold opP
    rw [if_pos hE, if_pos h, hz, List.drop_append_of_le_length (by omega), List.take_append_of_le_length (by rw [List.length_drop]; omega)]
  · unfold opS; rw [if_pos hE, if_pos h, hz, ht]
set_option maxRecDepth 100000 in
theorem op_first {l : List Nat} (h : opE l = 0) : l.getD 0 0 = 222 := by
  obtain ⟨h0, _, _⟩ := op_get h
  obtain ⟨h1, h2, _⟩ := get_bgn h0
  unfold Bgn at h1
  match l, h2 with
  | x :: y :: t, _ =>
    have e : [x, y] = [222, 92].take (t.length + 2) := h1
    rw [List.take_of_length_le (show 2 ≤ _ by omega)] at e
    have e1 : x = 222 := (List.cons.inj e).1
    subst e1
    rfl
set_option maxRecDepth 100000 in
theorem op_cut {l : List Nat} (h : opE l = 0) (hl : l.length = szn l + 36) {k : Nat} (hk : k < l.length) : opE (l.take k) = 10 := by
  obtain ⟨h0, h1, h2⟩ := op_get h
  obtain ⟨b1, b2, _⟩ := get_bgn h0
  have hlk : (l.take k).length = k := by rw [List.length_take]; omega
  by_cases h32 : k < 32
  · have hg : getE (l.take k) = 10 := by
      unfold getE
      rw [if_neg (fun e => e (bgn_take b1 k)), if_pos (by rw [hlk]; exact h32)]
    unfold opE
    rw [hg, if_pos (by decide)]
  · obtain ⟨g1, g2⟩ := get_app (l := l.take k) (by omega) (l.drop k)
    rw [List.take_append_drop] at g1 g2
    unfold opE
    rw [← g1, if_neg (fun e => e h0)]
    have hz : szn (l.take k) = szn l := by unfold szn; rw [g2]
    rw [hz, if_pos (by omega)]
set_option maxRecDepth 100000 in
theorem fd_hdl (l : List Nat) : ∀ j, j < 6 → fd (hdl l) j = fv (l.drop 4) j
  | 0, _ => rfl
  | 1, _ => rfl
  | 2, _ => rfl
  | 3, _ => rfl
  | 4, _ => rfl
  | 5, _ => rfl
set_option maxRecDepth 100000 in
theorem pre_hdl {l : List Nat} (hb : ∀ b ∈ l, b < 256) (hl : 28 ≤ l.length) (hg : l.take 2 = [222, 92]) (hla : lbb l ≤ 1) : ∀ j, j ≤ 6 → pre (hdl l) j = l.take (4 + 4 * j)
  | 0, _ => by
    have h1 : le (kb l) 1 = (l.drop 2).take 1 := Inf.le_of_lev (by rw [List.length_take, List.length_drop]; omega) (fun b hb' => hb b (List.mem_of_mem_drop (List.mem_of_mem_take hb')))
    have h2 : le (lbb l) 1 = (l.drop 3).take 1 := Inf.le_of_lev (by rw [List.length_take, List.length_drop]; omega) (fun b hb' => hb b (List.mem_of_mem_drop (List.mem_of_mem_take hb')))
    have h3 : lb (hdl l).la = lbb l := by
      show lb (decide (lbb l = 1)) = lbb l
      by_cases e : lbb l = 1
      · rw [decide_eq_true e, e]; rfl
      · rw [decide_eq_false e]
        have : lbb l = 0 := by omega
        rw [this]; rfl
    show [222, 92] ++ le (hdl l).k.toNat 1 ++ le (lb (hdl l).la) 1 = _
    rw [h3, h2, show (hdl l).k.toNat = kb l from rfl, h1, ← hg, Inf.take_more, Inf.take_more]
  | j + 1, hj => by
    have ih := pre_hdl hb hl hg hla j (by omega)
    show pre (hdl l) j ++ le (fd (hdl l) j) 4 = _
    rw [ih, fd_hdl l j (by omega)]
    have h1 : le (fv (l.drop 4) j) 4 = ((l.drop 4).drop (4 * j)).take 4 := Inf.le_of_lev (by rw [List.length_take, List.length_drop, List.length_drop]; omega) (fun b hb' => hb b (List.mem_of_mem_drop (List.mem_of_mem_drop (List.mem_of_mem_take hb'))))
    rw [h1, List.drop_drop, Inf.take_more]
    rfl
set_option maxRecDepth 100000 in
theorem hby_get {l : List Nat} (hb : ∀ b ∈ l, b < 256) (h : getE l = 0) : hby (getH l) = l.take 32 := by
  obtain ⟨h1, h2, h3, h4, h5⟩ := get_bgn h
  have hb32 : ∀ b ∈ l.take 32, b < 256 := fun b hb' => hb b (List.mem_of_mem_take hb')
  have hl32 : (l.take 32).length = 32 := by rw [List.length_take]; omega
  have hg : (l.take 32).take 2 = [222, 92] := by
    unfold Bgn at h1
    rw [List.take_take, show min 2 32 = 2 from rfl, h1]
    exact List.take_of_length_le (show 2 ≤ _ by omega)
  have hla : lbb (l.take 32) ≤ 1 := Nat.le_of_not_lt fun e => h4 (.inl e)
  have hp := pre_hdl hb32 (by omega) hg hla 6 (Nat.le_refl _)
  rw [h5]
  unfold hby smd
  rw [hp, show 4 + 4 * 6 = 28 from rfl]
  unfold Sm at h3
  rw [← h3, Inf.le_of_lev (by rw [List.length_drop]; omega) (fun b hb' => hb32 b (List.mem_of_mem_drop hb')), List.take_append_drop]
set_option maxRecDepth 100000 in
theorem seal_open {l : List Nat} (hb : ∀ b ∈ l, b < 256) (h : opE l = 0) (hl : l.length = szn l + 36) :
    szd (opH l) (opP l).length = opH l ∧ smd (blo (opH l) (opP l)) = l ∧ cs (blo (opH l) (opP l)) = opS l := by
  obtain ⟨h0, h1, h2⟩ := op_get h
  obtain ⟨_, hs, _, _⟩ := Fil.op_ok h
  have hH : opH l = getH l := by unfold opH; rw [if_pos h]
  have hP : opP l = (l.drop 32).take (szn l) := by unfold opP; rw [if_pos h]
  have hS : opS l = cs ((l.take (szn l + 32 + 4)).take (szn l + 32)) := by unfold opS; rw [if_pos h]
  have hpl : (opP l).length = szn l := by rw [hP, List.length_take, List.length_drop]; omega
  have hz : szd (opH l) (opP l).length = opH l := by
    rw [hpl]
    unfold szd
    rw [← hs]
  have hbl : blo (opH l) (opP l) = l.take (szn l + 32) := by
    unfold blo
    rw [hz, hH, hby_get hb h0, hP, Inf.take_more, Nat.add_comm]
  refine ⟨hz, ?_, ?_⟩
  · unfold smd
    rw [hbl]
    unfold Sb at h2
    rw [List.take_take, Nat.min_eq_left (by omega)] at h2
    rw [← h2, Inf.le_of_lev (by rw [List.length_drop, List.length_take]; omega) (fun b hb' => hb b (List.mem_of_mem_take (List.mem_of_mem_drop hb')))]
    have e : l.take (szn l + 32 + 4) = l := List.take_of_length_le (by omega)
    rw [e, List.take_append_drop]
  · rw [hbl, hS, List.take_take, Nat.min_eq_left (by omega)]
end Go.Proofs.YthjjonbkfkpkmaaDoor.Head
