/- A field's value, and the field at a place, of the document. Conditions: bytes in memory. -/
import Derived.Test.YtgcnbeigchppfaaIq
namespace Go.Proofs.Ytgcnbeigchppfaa.Head
open Go.RowKit Gen Fld
open Crc hiding hid

set_option maxRecDepth 100000 in
theorem lev_drop (l : List Nat) (i : Nat) {x : Nat} (h : l[i]? = some x) : lev (l.drop i) = x + 256 * lev (l.drop (i + 1)) := by
  have hi : i < l.length := by
    rcases Nat.lt_or_ge i l.length with h' | h'
    · exact h'
    · rw [List.getElem?_eq_none h'] at h; cases h
  rw [List.drop_eq_getElem_cons hi]
  rw [List.getElem?_eq_getElem hi] at h
  cases h
  rfl
set_option maxRecDepth 100000 in
theorem value_any {w : World} {b off cap : Nat} {l : List Nat} (hb : Byts w (some ⟨b, off, none⟩) l) (hl : l.length = 4) :
    Calls Try.prog 53 #[.slice (some ⟨b, off, none⟩) 4 cap] w fun e w' => e = .returned (.int .u64 (lev l : Int)) ∧ w = w' := by
  have hlt := hb.lt
  have hx : ∀ j : Nat, j < 4 → ∃ x : Nat, l[j]? = some x ∧ x < 256 ∧ w.cell? ⟨b, off + j, none⟩ = some (.int .u8 (x : Int)) := fun j hj => by
    refine ⟨l[j], List.getElem?_eq_getElem (by omega), hlt _ (List.getElem_mem _), ?_⟩
    obtain ⟨b', off', e, hc⟩ := hb.at_ j (l[j]) (List.getElem?_eq_getElem (by omega))
    cases e
    exact hc
  have hle : ∀ j, lev (l.drop j) < 4294967296 := fun j => by
    have h1 := lev_lt (l.drop j) (fun x hx => hlt x (List.mem_of_mem_drop hx))
    have h2 : (l.drop j).length ≤ 4 := by rw [List.length_drop]; omega
    have h3 : 2 ^ (8 * (l.drop j).length) ≤ 2 ^ 32 := Nat.pow_le_pow_right (by decide) (by omega)
    have : (2 : Nat) ^ 32 = 4294967296 := by decide
    omega
  have h4 : lev (l.drop 4) = 0 := by rw [List.drop_eq_nil_of_le (by omega)]; rfl
  have hst : ∀ j x : Nat, l[j]? = some x → lev (l.drop j) = x + 256 * lev (l.drop (j + 1)) := fun j x h => lev_drop l j h
  have h0 : lev l = lev (l.drop 0) := rfl
  have HX := hid hx
  have HLE := hid hle
  have HST := hid hst
  have H0 := hid h0
  have H4 := hid h4
  clear hlt hx hle hst h0 h4 hb hl

  go_enter Try.func53, Try.ntmps53
  go_wp2_with fail
  go_loopg [3, 4] 4 (fun gg x i wr => ∃ j : Nat, j ≤ 4 ∧ gg = j ∧ i = .int .i64 ((j : Int) - 1) ∧ x = .int .u64 (lev (l.drop j) : Int) ∧ wr = w)
  case atStart => exact ⟨4, by decide, rfl, rfl, by rw [H4.out]; rfl, rfl⟩
  case round =>
    obtain ⟨j, hj, hg, rfl, rfl, rfl⟩ := hrel
    have HG := hid hg
    clear hg
    match j, hj with
    | 0, _ =>
      go_wp2_with fail
      go_ret
      rw [H0.out]
      exact ⟨rfl, rfl⟩
    | k + 1, hj =>
      obtain ⟨x, h1, h2, h3⟩ := HX.out k (by omega)
      have e := HST.out k x h1
      have h5 := HLE.out (k + 1)
      have HE := hid e
      clear h1 e
      generalize lev (l.drop (k + 1)) = y at *
      have hk : ((k + 1 : Nat) : Int) - 1 = (k : Int) := by omega
      have hk4 : k < 4 := by omega
      go_wp2_with fail
      go_roundg k
      case measure => rw [HG.out]; omega
      case rel => exact ⟨k, by omega, rfl, by go_num, by rw [HE.out]; go_num, rfl⟩
set_option maxRecDepth 100000 in
theorem rat_any {w : World} {b off cap N at_ : Nat} {l : List Nat} (hb : Byts w (some ⟨b, off, none⟩) l) (hl : at_ + 4 ≤ l.length) (hc : at_ + 4 ≤ cap) (hm : at_ ≤ 1099511627776) :
    Calls Try.prog 39 #[.slice (some ⟨b, off, none⟩) N cap, .int .i64 (at_ : Int)] w fun e w' => e = .returned (.int .i64 (lev ((l.drop at_).take 4) : Int)) ∧ w = w' := by
  have HV := hid fun c => value_any (cap := c) ((hb.drop at_).take 4) (by rw [List.length_take, List.length_drop]; omega)
  have hlt := lev4 (l := (l.drop at_).take 4) (fun x hx => hb.lt x (List.mem_of_mem_drop (List.mem_of_mem_take hx))) (by rw [List.length_take, List.length_drop]; omega)
  have hw := i64_small _ hlt
  clear hb hl
  generalize lev ((l.drop at_).take 4) = v at *
  have h2 : at_ + 4 - at_ = 4 := by omega
  have h3 : ¬ cap = at_ := by omega
  have h4 : at_ ≤ at_ + 4 := by omega
  have h5 : ¬ ((at_ : Int) + 4 < (at_ : Int)) := by omega
  go_enter Try.func39, Try.ntmps39
  go_wp2_with fail
  refine (HV.out _).mono ?_
  rintro e w' ⟨rfl, rfl⟩
  go_wp2_with fail
  go_ret
  exact ⟨rfl, rfl⟩
end Go.Proofs.Ytgcnbeigchppfaa.Head
