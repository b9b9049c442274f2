/- each: a list gone over by a goto; what is told, again and again. Conditions: those of the memory's own form alone. -/
import Derived.Test.YtjimamjhakainaaSRa
import Derived.WalkMore
import Derived.ScopeJumps
namespace Go.Proofs.Ytjimamjhakainaa.Runs
open Go.RowKit Bit Rice

/-- A scope that begins with the label to which the run jumps back. -/
theorem wp_scope_again {P : Program} {a : Act} {w : World} {Q : Exit → Act → World → Prop} {X : Code} (l : Nat) (J : Act → World → Prop) (μ : Act → World → Nat) (hf : findLabel ((Code.label l).seq X) l = some (Code.skip.seq X)) (h0 : J a w)
    (pass : ∀ a w, J a w → X.wp P (Exit.jump l (fun a' w' => J a' w' ∧ μ a' w' < μ a w) Q) a w) : (Code.scope ((Code.label l).seq X)).wp P Q a w := by
  refine wp_scope_jumps l J μ hf (wp_seq (wp_label ?_)) (fun a w h => wp_seq (wp_skip ?_))
  · refine wp_mono (pass a w h0) ?_
    intro e a' w' h
    cases e with
    | goto l' => exact ⟨h.1, h.2.1⟩
    | normal => exact h
    | exit id => exact h
    | ret => exact h
    | panic ch => exact h
    | outgrown => exact h
  · exact pass a w h

def lenOf : Value → Nat
  | .slice _ n _ => n
  | _ => 0
/-- A frame of each. -/
def EachAt (v f : Value) (a : Act) : Prop := ∃ u2 u3 u4 u5 u6 u7 u8 u9 u10 u11 u12 u13 u14 u15 u16 u17 u18 u19 u20 u21 u22 u23 u24 u25 u26 u27 u28 u29 u30 u31 : Value, a = { tmps := #[v, f, u2, u3, u4, u5, u6, u7, u8, u9, u10, u11, u12, u13, u14, u15, u16, u17, u18, u19, u20, u21, u22, u23, u24, u25, u26, u27, u28, u29, u30, u31], defers := [] }
/-- The list from place o on. -/
def Tail (len b off o : Nat) (v : Value) : Prop := ∃ a' cap', v = .slice a' (len - o) cap' ∧ (0 < len - o → a' = some ⟨b, off + o, none⟩) ∧ len - o ≤ cap' ∧ cap' ≤ 9223372036854775807

set_option maxHeartbeats 1600000 in
set_option maxRecDepth 100000 in
theorem each_any (kf : FuncId) (caps : Array Value) (hent : ∀ args w, (callFunc kf args).run Try.prog w = .ok (.enter kf args) w) (w : World) (a : Option Addr) (len cap b off : Nat) (I : Nat → Int) (Q : World → Prop)
    (St : Nat → World → Prop) (h : Is w a len cap b off I) (h0 : St 0 w) (hI : ∀ o wr, St o wr → Is wr a len cap b off I)
    (hstep : ∀ o k wr v, o + k < len → (∀ i, i < k → I (o + i) = 0) → I (o + k) ≠ 0 → St o wr → Tail len b off (o + k) v →
      Calls Try.prog kf (#[.int .i64 ((k : Nat) : Int), v] ++ caps) wr fun e w' => e = .returned (.tuple #[]) ∧ St (o + k + 1) w')
    (hlast : ∀ o k wr v, o + k = len → (∀ i, i < k → I (o + i) = 0) → St o wr → Tail len b off (o + k) v →
      Calls Try.prog kf (#[.int .i64 ((k : Nat) : Int), v] ++ caps) wr fun e w' => e = .returned (.tuple #[]) ∧ Q w') :
    Calls Try.prog 121 #[.slice a len cap, .func (.func kf) #[] caps] w fun e w' => e = .returned (.tuple #[]) ∧ Q w' := by
  have HI := hid hI; have HS := hid hstep; have HL := hid hlast
  have hl0 : Tail len b off 0 (.slice a len cap) := ⟨a, cap, rfl, fun h1 => h.addr (by omega), h.hl, h.hc⟩
  clear hI hstep hlast h
  go_enter Try.func121, Try.ntmps121
  go_wp2_with fail
  refine wp_scope_again 0 (fun a' w' => ∃ o v, o ≤ len ∧ St o w' ∧ Tail len b off o v ∧ EachAt v (.func (.func kf) #[] caps) a') (fun a' _ => lenOf (a'.tmps.getD 0 undef)) rfl ⟨0, _, Nat.zero_le _, h0, hl0, _, _, _, _, _, _, _, _, _, _, _, _, _, _, _, _, _, _, _, _, _, _, _, _, _, _, _, _, _, _, rfl⟩ ?pass
  case pass =>
    rintro a1 w1 ⟨o, v, ho, hst, ⟨at_, capt, rfl, hat, hlc, hcc⟩, u2, u3, u4, u5, u6, u7, u8, u9, u10, u11, u12, u13, u14, u15, u16, u17, u18, u19, u20, u21, u22, u23, u24, u25, u26, u27, u28, u29, u30, u31, rfl⟩
    go_wp2_with fail
    go_step3
    go_wp2_with fail
    go_loopg [4, 10] (len - o) (fun g n i wr => ∃ k : Nat, k ≤ len - o ∧ g = len - o - k ∧ n = .int .i64 ((k : Nat) : Int) ∧ i = .int .i64 ((k : Nat) : Int) ∧ w1 = wr ∧ ∀ i, i < k → I (o + i) = 0)
    case atStart => exact ⟨0, Nat.zero_le _, rfl, rfl, rfl, rfl, fun i hi => absurd hi (Nat.not_lt_zero _)⟩
    case round =>
      obtain ⟨k, hk, hg, rfl, rfl, rfl, hz⟩ := hrel
      have HG := hid hg
      have HZ := hid hz
      clear hg hz
      have his := HI.out o w1 hst
      by_cases hlt : k < len - o
      · have hlt2 : (k : Int) < ((len - o : Nat) : Int) := by omega
        have hlt3 : (k : Int) < (len : Int) - (o : Int) := by omega
        obtain rfl := hat (by omega)
        have ck := his.c (o + k) (by omega)
        rw [← Nat.add_assoc] at ck
        by_cases hzk : I (o + k) = 0
        · rw [hzk] at ck
          go_wp2_with fail
          go_roundg (len - o - (k + 1))
          case measure => rw [HG.out]; omega
          case rel => exact ⟨k + 1, by omega, rfl, by go_num, by go_num, rfl, fun i hi => by
            by_cases e : i = k
            · rw [e]; exact hzk
            · exact HZ.out i (by omega)⟩
        · have hne : (I (o + k) == 0) = false := beq_eq_false_iff_ne.2 hzk
          have HT := hid fun v ht => HS.out o k w1 v (by omega) HZ.out hzk hst ht
          have hpos : (0 : Int) < ((len - o - k : Nat) : Int) := by omega
          go_wp2_with fail
          refine (HT.out (.slice (some ⟨b, off + o + k, none⟩) (len - o - k) (capt - k)) ⟨some ⟨b, off + o + k, none⟩, capt - k, by rw [Nat.sub_sub], fun _ => by rw [Nat.add_assoc], by omega, by omega⟩).mono ?_
          rintro e w2 ⟨rfl, hst2⟩
          clear HT ck hst his hat
          have hh1 : (1 : Int) ≤ ((len - o - k : Nat) : Int) := by omega
          have hh2 : 1 ≤ len - o - k := by omega
          have hh3 : len - o - k ≤ capt - k := by omega
          go_wp2_with fail
          all_goals
            go_step3
            refine ⟨rfl, ⟨o + k + 1, _, by omega, hst2, ?tail, _, _, _, _, _, _, _, _, _, _, _, _, _, _, _, _, _, _, _, _, _, _, _, _, _, _, _, _, _, _, rfl⟩, ?_⟩
            case tail => exact ⟨_, _, congrArg (fun z => Value.slice _ z _) (show len - o - k - 1 = len - (o + k + 1) by omega), fun h => by first | (exfalso; omega) | exact congrArg (fun z => some (⟨b, z, none⟩ : Addr)) (by omega), by omega, by omega⟩
            show len - o - k - 1 < len - o
            omega
      · have hge : ¬ (k : Int) < ((len - o : Nat) : Int) := by omega
        have hge2 : ¬ (k : Int) < (len : Int) - (o : Int) := by omega
        obtain rfl : k = len - o := by omega
        have HT := hid fun v ht => HL.out o (len - o) w1 v (by omega) HZ.out hst ht
        go_wp2_with fail
        all_goals
          refine Calls.mono (HT.out _ ?ht) ?_
          case ht => exact ⟨_, _, congrArg (fun z => Value.slice _ z _) (show 0 = len - (o + (len - o)) by omega), fun h => by omega, by omega, by omega⟩
          rintro e w2 ⟨rfl, hst2⟩
          clear HT hst his hat
          go_wp2_with fail
          simp only [Exit.jump]
          go_end0
          exact ⟨rfl, hst2⟩
end Go.Proofs.Ytjimamjhakainaa.Runs
