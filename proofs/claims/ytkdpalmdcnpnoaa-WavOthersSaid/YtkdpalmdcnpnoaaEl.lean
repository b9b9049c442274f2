/- Whether two lists are alike: the document's own, the library's Equal. Conditions: both lie in memory. -/
import Derived.Test.YtkdpalmdcnpnoaaB2
namespace Go.Proofs.Ytkdpalmdcnpnoaa.Pcm
open Go.RowKit Gen

/-- Are two lists alike? -/
def eqI (U V : Nat → Int) (len len' : Nat) : Bool := (len == len') && !anyB (fun j => U j != V j) len
set_option maxRecDepth 20000 in
theorem eqI_len {U V : Nat → Int} {len len' : Nat} (h : ¬ len = len') : eqI U V len len' = false := by unfold eqI; rw [beq_eq_false_iff_ne.2 h]; rfl
set_option maxRecDepth 20000 in
theorem eqI_not {U V : Nat → Int} {len j : Nat} (hj : j < len) (h : ¬ U j = V j) : eqI U V len len = false := by
  unfold eqI; rw [(any_iff (fun j => U j != V j) len).2 ⟨j, hj, bne_iff_ne.2 h⟩, beq_self_eq_true]; rfl
set_option maxRecDepth 20000 in
theorem eqI_all {U V : Nat → Int} {len : Nat} (h : ∀ j, j < len → U j = V j) : eqI U V len len = true := by
  unfold eqI
  rw [beq_self_eq_true]
  cases hu : anyB (fun j => U j != V j) len with
  | false => rfl
  | true =>
    obtain ⟨i, hi, hq⟩ := (any_iff _ _).1 hu
    rw [h i hi] at hq; simp at hq
set_option maxRecDepth 20000 in
theorem eqI_iff {U V : Nat → Int} {len len' : Nat} : eqI U V len len' = true ↔ len = len' ∧ ∀ j, j < len → U j = V j := by
  by_cases h : len = len'
  · subst h
    by_cases h2 : ∀ j, j < len → U j = V j
    · rw [eqI_all h2]; exact ⟨fun _ => ⟨rfl, h2⟩, fun _ => rfl⟩
    · obtain ⟨j, hj⟩ := Classical.not_forall.1 h2
      obtain ⟨hj, hn⟩ := Classical.not_imp.1 hj
      rw [eqI_not hj hn]; exact ⟨fun h => (by cases h), fun h => absurd h.2 h2⟩
  · rw [eqI_len h]; exact ⟨fun h => (by cases h), fun h' => absurd h'.1 h⟩

set_option maxRecDepth 20000 in
theorem ints_gen (w : World) (a a' : Option Addr) (len len' cap cap' b off b' off' : Nat) (U V : Nat → Int) (h : Isb w a len b off U) (h' : Isb w a' len' b' off' V) :
    Calls Try.prog 47 #[.slice a len cap, .slice a' len' cap'] w fun e w' => e = .returned (.bool (eqI U V len len')) ∧ Fr (fun _ => False) w w' := by
  have H := hid h
  have H' := hid h'
  have hl := h.hl
  clear h h'
  by_cases hll : len = len'
  · subst hll
    go_enter Try.func47, Try.ntmps47
    go_wp2_with fail
    go_loopg [5] len (fun g i wr => ∃ j : Nat, j ≤ len ∧ g = len - j ∧ i = .int .i64 j ∧ Fr (fun _ => False) w wr ∧ ∀ i, i < j → U i = V i)
    case atStart => exact ⟨0, Nat.zero_le _, rfl, rfl, Fr.refl _ _, fun i hi => absurd hi (Nat.not_lt_zero _)⟩
    case round =>
      obtain ⟨j, hj, hg, rfl, hf, hall⟩ := hrel
      have HG := hid hg
      have HA := hid hall
      clear hg hall
      by_cases hlt : j < len
      · have hlt2 : (j : Int) < (len : Int) := by omega
        obtain rfl := H.out.addr (by omega)
        obtain rfl := H'.out.addr (by omega)
        have ck := (H.out.fr hf).c j hlt
        have ck' := (H'.out.fr hf).c j hlt
        by_cases he : U j = V j
        · rw [← he] at ck'
          have HEQ : Hid (∀ i, i < j + 1 → U i = V i) := hid fun i hi => by
            by_cases e : i = j
            · rw [e]; exact he
            · exact HA.out i (by omega)
          clear he HA
          generalize hx : U j = x at ck ck'
          clear hx
          go_wp2_with fail
          go_quiet (fail)
          have hf2 : Fr (fun _ => False) w (wr.drewN nq) := ⟨hf.os, hf.tape, hf.output, hf.size, hf.block⟩
          clear ck ck' hf
          go_wp2_with fail
          go_roundg (len - (j + 1))
          case measure => rw [HG.out]; omega
          case rel => exact ⟨j + 1, by omega, rfl, by go_num, hf2, HEQ.out⟩
        · have e1 : (U j != V j) = true := bne_iff_ne.2 he
          have HE : Hid (eqI U V len len = false) := hid (eqI_not hlt he)
          clear he
          go_wp2_with fail
          go_quiet (fail)
          have hf2 : Fr (fun _ => False) w (wr.drewN nq) := ⟨hf.os, hf.tape, hf.output, hf.size, hf.block⟩
          clear ck ck' hf
          go_wp2_with fail
          go_ret
          exact ⟨congrArg (fun z : Bool => Ending.returned (Value.bool z)) HE.out.symm, hf2⟩
      · have hge : ¬ (j : Int) < (len : Int) := by omega
        obtain rfl : j = len := by omega
        have HE : Hid (eqI U V j j = true) := hid (eqI_all HA.out)
        go_wp2_with fail
        go_ret
        exact ⟨congrArg (fun z : Bool => Ending.returned (Value.bool z)) HE.out.symm, hf⟩
  · have e1 : ((len : Int) != (len' : Int)) = true := bne_iff_ne.2 (by omega)
    rw [eqI_len hll]
    clear hll
    go_enter Try.func47, Try.ntmps47
    go_wp2_with fail
    go_ret
    exact ⟨rfl, Fr.refl _ _⟩

end Go.Proofs.Ytkdpalmdcnpnoaa.Pcm
