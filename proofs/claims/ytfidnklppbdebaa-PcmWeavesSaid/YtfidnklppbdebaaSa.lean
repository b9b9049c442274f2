/- Whether two sounds are the same: the program's Same, the document's. Conditions: both lie in memory as their lists. -/
import Derived.Test.YtfidnklppbdebaaEl
namespace Go.Proofs.Ytfidnklppbdebaa.Pcm
open Go.RowKit Gen

def eqL (a b : Dat) (i : Nat) : Bool := eqI (a.X i) (b.X i) (a.ln i) (b.ln i)
def eqS (a b : Dat) : Bool := (a.n == b.n) && !anyB (fun i => !eqL a b i) a.n
theorem eqS_len {a b : Dat} (h : ¬ a.n = b.n) : eqS a b = false := by unfold eqS; rw [beq_eq_false_iff_ne.2 h]; rfl
theorem eqS_not {a b : Dat} {i : Nat} (hi : i < a.n) (h : eqL a b i = false) : eqS a b = false := by
  unfold eqS; rw [(any_iff (fun i => !eqL a b i) a.n).2 ⟨i, hi, by rw [h]; rfl⟩, Bool.not_true, Bool.and_false]
theorem eqS_all {a b : Dat} (hn : a.n = b.n) (h : ∀ i, i < a.n → eqL a b i = true) : eqS a b = true := by
  unfold eqS
  rw [hn, beq_self_eq_true]
  cases hu : anyB (fun i => !eqL a b i) b.n with
  | false => rfl
  | true =>
    obtain ⟨i, hi, hq⟩ := (any_iff _ _).1 hu
    rw [h i (by omega)] at hq; cases hq
/-- Are two sounds the same? -/
def same (a b : Dat) : Bool := decide (a.f = b.f) && eqS a b

theorem eqfunc_any (w : World) (a b : Dat) (ha : Snd w a) (hb : Snd w b) : Calls Try.prog 47 #[.slice a.a a.n a.cap, .slice b.a b.n b.cap, .func (.func 48) #[] #[]] w fun e w' => e = .returned (.bool (eqS a b)) ∧ Fr (fun _ => False) w w' := by
  have HA := hid ha
  have HB := hid hb
  have hl := ha.hl
  clear ha hb
  by_cases hn : a.n = b.n
  · have HN := hid hn
    have hnn : ((a.n : Int) != (b.n : Int)) = false := by rw [bne_eq_false_iff_eq]; omega
    clear hn
    go_enter Try.func47, Try.ntmps47
    go_wp2_with fail
    go_loopg [17] a.n (fun g i wr => ∃ k : Nat, k ≤ a.n ∧ g = a.n - k ∧ i = .int .i64 k ∧ Fr (fun _ => False) w wr ∧ ∀ i, i < k → eqL a b i = true)
    case atStart => exact ⟨0, Nat.zero_le _, rfl, rfl, Fr.refl _ _, fun i hi => absurd hi (Nat.not_lt_zero _)⟩
    case round =>
      obtain ⟨k, hk, hg, rfl, hf, hall⟩ := hrel
      have HG := hid hg
      have HALL := hid hall
      have HF := hid hf
      clear hg hall hf
      by_cases hlt : k < a.n
      · have hlt2 : (k : Int) < (a.n : Int) := by omega
        have hlt3 : (k : Int) < (b.n : Int) := by have := HN.out; omega
        have hlt4 : k < b.n := by have := HN.out; omega
        have HAD := hid (HA.out.addr (by omega))
        have HBD := hid (HB.out.addr (by omega))
        have ca := (HA.out.fr HF.out).c k hlt
        have cb := (HB.out.fr HF.out).c k hlt4
        obtain ⟨pa, oa, la⟩ := (HA.out.fr HF.out).l k hlt
        obtain ⟨pb, ob, lb⟩ := (HB.out.fr HF.out).l k hlt4
        have HE := hid (equal_gen wr (a.la k) (b.la k) (a.ln k) (b.ln k) (a.lc k) (b.lc k) pa oa pb ob (a.X k) (b.X k) la lb)
        rw [show eqI (a.X k) (b.X k) (a.ln k) (b.ln k) = eqL a b k from rfl] at HE
        clear la lb
        rw [HAD.out, HBD.out]
        go_wp2_with fail
        refine HE.out.mono ?_
        rintro e w1 ⟨rfl, hf1⟩
        have HF1 := hid (HF.out.trans hf1)
        clear hf1 ca cb
        cases he : eqL a b k with
        | true =>
          have HEQ := hid he
          clear he
          go_wp2_with fail
          rw [← HAD.out, ← HBD.out]
          go_roundg (a.n - (k + 1))
          case measure => rw [HG.out]; omega
          case rel => exact ⟨k + 1, by omega, rfl, by go_num, HF1.out, fun i hi => by
            by_cases e : i = k
            · rw [e]; exact HEQ.out
            · exact HALL.out i (by omega)⟩
        | false =>
          have HEQ : Hid (eqS a b = false) := hid (eqS_not hlt he)
          clear he
          go_wp2_with fail
          go_ret
          exact ⟨congrArg (fun z : Bool => Ending.returned (Value.bool z)) HEQ.out.symm, HF1.out⟩
      · have hge : ¬ (k : Int) < (a.n : Int) := by omega
        have HEQ : Hid (eqS a b = true) := hid (eqS_all HN.out fun i hi => HALL.out i (by omega))
        go_wp2_with fail
        go_ret
        exact ⟨congrArg (fun z : Bool => Ending.returned (Value.bool z)) HEQ.out.symm, HF.out⟩
  · have hnn : ((a.n : Int) != (b.n : Int)) = true := bne_iff_ne.2 (by omega)
    rw [eqS_len hn]
    clear hn
    go_enter Try.func47, Try.ntmps47
    go_wp2_with fail
    go_ret
    exact ⟨rfl, Fr.refl _ _⟩
end Go.Proofs.Ytfidnklppbdebaa.Pcm
