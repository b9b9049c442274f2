/- A field's value, of the document; how a file begins, of the document. Conditions: bytes in memory. -/
import Derived.Test.YthaikhnplbbdlaaNh
namespace Go.Proofs.Ythaikhnplbbdlaa.Inf
open Go.RowKit Gen Fld
open Crc hiding hid

theorem value_any {w : World} {b off cap n : Nat} {l : List Nat} (hb : Byts w (some ⟨b, off, none⟩) l) (hl : l.length = n) (hn4 : n ≤ 4) :
    Calls Try.prog 39 #[.slice (some ⟨b, off, none⟩) n cap] w fun e w' => e = .returned (.int .u64 (lev l : Int)) ∧ w = w' := by
  have hlt := hb.lt
  have hx : ∀ j : Nat, j < n → ∃ x : Nat, l[j]? = some x ∧ x < 256 ∧ w.cell? ⟨b, off + j, none⟩ = some (.int .u8 (x : Int)) := fun j hj => by
    refine ⟨l[j], List.getElem?_eq_getElem (by omega), hlt _ (List.getElem_mem _), ?_⟩
    obtain ⟨b', off', e, hc⟩ := hb.at_ j (l[j]) (List.getElem?_eq_getElem (by omega))
    cases e
    exact hc
  have hle : ∀ j, lev (l.drop j) < 4294967296 := fun j => by
    have h1 := lev_lt (l.drop j) (fun x hx => hlt x (List.mem_of_mem_drop hx))
    have h2 : (l.drop j).length ≤ 4 := by rw [List.length_drop]; omega
    have h3 : 2 ^ (8 * (l.drop j).length) ≤ 2 ^ 32 := Nat.pow_le_pow_right (by decide) (by omega)
    have : (2 : Nat) ^ 32 = 4294967296 := by decide
    omega
  have h4 : lev (l.drop n) = 0 := by rw [List.drop_eq_nil_of_le (by omega)]; rfl
  have hst : ∀ j x : Nat, l[j]? = some x → lev (l.drop j) = x + 256 * lev (l.drop (j + 1)) := fun j x h => lev_drop l j h
  have h0 : lev l = lev (l.drop 0) := rfl
  have HX := hid hx
  have HLE := hid hle
  have HST := hid hst
  have H0 := hid h0
  have H4 := hid h4
  clear hlt hx hle hst h0 h4 hb hl
  go_enter Try.func39, Try.ntmps39
  go_wp2_with fail
  go_loopg [3, 4] n (fun gg x i wr => ∃ j : Nat, j ≤ n ∧ gg = j ∧ i = .int .i64 ((j : Int) - 1) ∧ x = .int .u64 (lev (l.drop j) : Int) ∧ wr = w)
  case atStart => exact ⟨n, Nat.le_refl _, rfl, by go_num, by rw [H4.out]; rfl, rfl⟩
  case round =>
    obtain ⟨j, hj, hg, rfl, rfl, rfl⟩ := hrel
    have HG := hid hg
    clear hg
    match j, hj with
    | 0, _ =>
      go_wp2_with fail
      go_ret
      rw [H0.out]
      exact ⟨rfl, rfl⟩
    | k + 1, hj =>
      obtain ⟨x, h1, h2, h3⟩ := HX.out k (by omega)
      have e := HST.out k x h1
      have h5 := HLE.out (k + 1)
      have HE := hid e
      clear h1 e
      generalize lev (l.drop (k + 1)) = y at *
      have hk : ((k + 1 : Nat) : Int) - 1 = (k : Int) := by omega
      have hk4 : k < 4 := by omega
      have hkn : k < n := by omega
      have hki : (k : Int) < (n : Int) := by omega
      go_wp2_with fail
      go_roundg k
      case measure => rw [HG.out]; omega
      case rel => exact ⟨k, by omega, rfl, by go_num, by rw [HE.out]; go_num, rfl⟩
/-- What stands while the document compares the first bytes. -/
structure Lp (w : World) (a : Option Addr) (l : List Nat) (wr : World) : Prop where
  z : Bx wr w.heap.size iz
  m : wr.heap[w.heap.size + 1]? = some (.cells #[.int .u8 68, .int .u8 83, .int .u8 67, .int .u8 49] 5 (0, 0))
  y : Byts wr a l
  b : Below w.heap.size w wr
def Pr (l : List Nat) (j : Nat) : Prop := ∀ i, i < j → l[i]? = mk4[i]?
theorem pr_bgn {l : List Nat} {j : Nat} (h : Pr l j) (hj : j = 4 ∨ (j ≤ 4 ∧ l.length ≤ j)) : Bgn l := by
  unfold Bgn
  refine List.ext_getElem? fun i => ?_
  rw [List.getElem?_take, List.getElem?_take]
  by_cases h1 : i < 4
  · rw [if_pos h1]
    by_cases h2 : i < l.length
    · rw [if_pos h2]; exact h i (by omega)
    · rw [if_neg h2, List.getElem?_eq_none (by omega)]
  · rw [if_neg h1]
    by_cases h2 : i < l.length
    · rw [if_pos h2, List.getElem?_eq_none (show mk4.length ≤ i from by show 4 ≤ i; omega)]
    · rw [if_neg h2]
theorem bgn_pr {l : List Nat} (h : Bgn l) (j : Nat) (h4 : j < 4) (hl : j < l.length) : l[j]? = mk4[j]? := by
  unfold Bgn at h
  have := congrArg (fun (m : List Nat) => m[j]?) h
  simp only [List.getElem?_take, if_pos h4, if_pos hl] at this
  exact this
theorem pr_succ {l : List Nat} {j : Nat} (h : Pr l j) (h2 : l[j]? = mk4[j]?) : Pr l (j + 1) := fun i hi => by
  by_cases e : i = j
  · rw [e]; exact h2
  · exact h i (by omega)
end Go.Proofs.Ythaikhnplbbdlaa.Inf
