/- Whether two lists of the document are alike; lists of numbers in memory. Conditions: both lie in memory. -/
import Derived.Test.YtpgdllphnmimlaaHf
namespace Go.Proofs.Ytpgdllphnmimlaa.Shape
open Go.RowKit Gen

/-- A slice of ints in memory. -/
structure Isb (W : World) (a : Option Addr) (len b off : Nat) (X : Nat → Int) : Prop where
  addr : 0 < len → a = some ⟨b, off, none⟩
  c : ∀ i, i < len → W.cell? ⟨b, off + i, none⟩ = some (.int .i64 (X i))
  lt : 0 < len → b < W.heap.size
  hl : len ≤ 9223372036854775807
theorem Isb.below {W W' : World} {a : Option Addr} {len b off : Nat} {X : Nat → Int} (h : Isb W a len b off X) {B : Nat} (hb : Below B W W') (hB : 0 < len → b < B) : Isb W' a len b off X :=
  ⟨h.addr, fun i hi => (hb.cell (p := ⟨b, _, none⟩) (hB (by omega))).trans (h.c i hi), fun hl => Nat.lt_of_lt_of_le (h.lt hl) hb.size, h.hl⟩
theorem Isb.fr {W W' : World} {a : Option Addr} {len b off : Nat} {X : Nat → Int} (h : Isb W a len b off X) (hf : Fr (fun _ => False) W W') : Isb W' a len b off X :=
  h.below (B := W.heap.size) ⟨hf.os, hf.tape, hf.output, hf.size, fun k hk => hf.block k hk fun x => x⟩ h.lt
def anyB (q : Nat → Bool) : Nat → Bool
  | 0 => false
  | k + 1 => anyB q k || q k
theorem any_iff (q : Nat → Bool) : ∀ n, (anyB q n = true ↔ ∃ i, i < n ∧ q i = true)
  | 0 => ⟨fun h => absurd (show false = true from h) Bool.false_ne_true, fun ⟨i, hi, _⟩ => absurd hi (Nat.not_lt_zero _)⟩
  | k + 1 => by
    show (anyB q k || q k) = true ↔ _
    rw [Bool.or_eq_true, any_iff q k]
    constructor
    · rintro (⟨i, hi, h⟩ | h)
      · exact ⟨i, by omega, h⟩
      · exact ⟨k, by omega, h⟩
    · rintro ⟨i, hi, h⟩
      by_cases e : i = k
      · exact .inr (e ▸ h)
      · exact .inl ⟨i, by omega, h⟩
/-- Are two lists alike? -/
def eqI (U V : Nat → Int) (len len' : Nat) : Bool := (len == len') && !anyB (fun j => U j != V j) len
theorem eqI_len {U V : Nat → Int} {len len' : Nat} (h : ¬ len = len') : eqI U V len len' = false := by unfold eqI; rw [beq_eq_false_iff_ne.2 h]; rfl
theorem eqI_not {U V : Nat → Int} {len j : Nat} (hj : j < len) (h : ¬ U j = V j) : eqI U V len len = false := by
  unfold eqI; rw [(any_iff (fun j => U j != V j) len).2 ⟨j, hj, bne_iff_ne.2 h⟩, beq_self_eq_true]; rfl
theorem eqI_all {U V : Nat → Int} {len : Nat} (h : ∀ j, j < len → U j = V j) : eqI U V len len = true := by
  unfold eqI
  rw [beq_self_eq_true]
  cases hu : anyB (fun j => U j != V j) len with
  | false => rfl
  | true =>
    obtain ⟨i, hi, hq⟩ := (any_iff _ _).1 hu
    rw [h i hi] at hq; simp at hq
theorem eqI_iff {U V : Nat → Int} {len len' : Nat} : eqI U V len len' = true ↔ len = len' ∧ ∀ j, j < len → U j = V j := by
  by_cases h : len = len'
  · subst h
    by_cases h2 : ∀ j, j < len → U j = V j
    · rw [eqI_all h2]; exact ⟨fun _ => ⟨rfl, h2⟩, fun _ => rfl⟩
    · obtain ⟨j, hj⟩ := Classical.not_forall.1 h2
      obtain ⟨hj, hn⟩ := Classical.not_imp.1 hj
      rw [eqI_not hj hn]; exact ⟨fun h => (by cases h), fun h => absurd h.2 h2⟩
  · rw [eqI_len h]; exact ⟨fun h => (by cases h), fun h' => absurd h'.1 h⟩

theorem ints_gen (w : World) (a a' : Option Addr) (len len' cap cap' b off b' off' : Nat) (U V : Nat → Int) (h : Isb w a len b off U) (h' : Isb w a' len' b' off' V) :
    Calls Try.prog 12 #[.slice a len cap, .slice a' len' cap'] w fun e w' => e = .returned (.bool (eqI U V len len')) ∧ Fr (fun _ => False) w w' := by
  have H := hid h
  have H' := hid h'
  have hl := h.hl
  clear h h'
  by_cases hll : len = len'
  · subst hll
    go_enter Try.func12, Try.ntmps12
    go_wp2_with fail
    go_loopg [5] len (fun g i wr => ∃ j : Nat, j ≤ len ∧ g = len - j ∧ i = .int .i64 j ∧ Fr (fun _ => False) w wr ∧ ∀ i, i < j → U i = V i)
    case atStart => exact ⟨0, Nat.zero_le _, rfl, rfl, Fr.refl _ _, fun i hi => absurd hi (Nat.not_lt_zero _)⟩
    case round =>
      obtain ⟨j, hj, hg, rfl, hf, hall⟩ := hrel
      have HG := hid hg
      have HA := hid hall
      clear hg hall
      by_cases hlt : j < len
      · have hlt2 : (j : Int) < (len : Int) := by omega
        obtain rfl := H.out.addr (by omega)
        obtain rfl := H'.out.addr (by omega)
        have ck := (H.out.fr hf).c j hlt
        have ck' := (H'.out.fr hf).c j hlt
        by_cases he : U j = V j
        · rw [← he] at ck'
          have HEQ : Hid (∀ i, i < j + 1 → U i = V i) := hid fun i hi => by
            by_cases e : i = j
            · rw [e]; exact he
            · exact HA.out i (by omega)
          clear he HA
          generalize hx : U j = x at ck ck'
          clear hx
          go_wp2_with fail
          go_quiet (fail)
          have hf2 : Fr (fun _ => False) w (wr.drewN nq) := ⟨hf.os, hf.tape, hf.output, hf.size, hf.block⟩
          clear ck ck' hf
          go_wp2_with fail
          go_roundg (len - (j + 1))
          case measure => rw [HG.out]; omega
          case rel => exact ⟨j + 1, by omega, rfl, by go_num, hf2, HEQ.out⟩
        · have e1 : (U j != V j) = true := bne_iff_ne.2 he
          have HE : Hid (eqI U V len len = false) := hid (eqI_not hlt he)
          clear he
          go_wp2_with fail
          go_quiet (fail)
          have hf2 : Fr (fun _ => False) w (wr.drewN nq) := ⟨hf.os, hf.tape, hf.output, hf.size, hf.block⟩
          clear ck ck' hf
          go_wp2_with fail
          go_ret
          exact ⟨congrArg (fun z : Bool => Ending.returned (Value.bool z)) HE.out.symm, hf2⟩
      · have hge : ¬ (j : Int) < (len : Int) := by omega
        obtain rfl : j = len := by omega
        have HE : Hid (eqI U V j j = true) := hid (eqI_all HA.out)
        go_wp2_with fail
        go_ret
        exact ⟨congrArg (fun z : Bool => Ending.returned (Value.bool z)) HE.out.symm, hf⟩
  · have e1 : ((len : Int) != (len' : Int)) = true := bne_iff_ne.2 (by omega)
    rw [eqI_len hll]
    clear hll
    go_enter Try.func12, Try.ntmps12
    go_wp2_with fail
    go_ret
    exact ⟨rfl, Fr.refl _ _⟩

end Go.Proofs.Ytpgdllphnmimlaa.Shape
