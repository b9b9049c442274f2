/- together and Total of rice, and the document's Total: the same sum. Conditions: a list lies in memory as its numbers; the document's sum is below 2^62. -/
import Derived.Test.YtjimamjhakainaaM04
namespace Go.Proofs.Ytjimamjhakainaa.Rice
open Go.RowKit Bit

/-- What is told of the first numbers, added up, at most 2^62. -/
def tog (fn : Nat → Nat) (U : Nat → Nat) : Nat → Nat
  | 0 => 0
  | j + 1 => min (tog fn U j + min (fn (U j)) 4611686018427387904) 4611686018427387904
theorem tog_le (fn : Nat → Nat) (U : Nat → Nat) (j : Nat) : tog fn U j ≤ 4611686018427387904 := by
  cases j with
  | zero => exact Nat.zero_le _
  | succ j => exact Nat.min_le_right _ _

theorem together_any (fn : Nat → Nat) (kf : FuncId) (caps : Array Value) (hent : ∀ args w, (callFunc kf args).run Try.prog w = .ok (.enter kf args) w) (w : World) (a : Option Addr) (len cap b off : Nat) (U : Nat → Nat) (h : Us w a len b off U)
    (hcall : ∀ i, i < len → Calls Try.prog kf (#[.int .u64 (U i : Int)] ++ caps) w fun e w' => e = .returned (.int .u64 (fn (U i) : Int)) ∧ w = w') (hfn : ∀ i, i < len → fn (U i) < 18446744073709551616) :
    Calls Try.prog 86 #[.slice a len cap, .func (.func kf) #[] caps] w fun e w' => e = .returned (.int .u64 (tog fn U len : Int)) ∧ w = w' := by
  have H := hid h
  have HC := hid hcall
  have HF := hid hfn
  have hl := h.hl
  clear h hcall hfn
  go_enter Try.func86, Try.ntmps86
  go_wp2_with fail
  go_loopg [5, 10] len (fun g s i wr => ∃ j : Nat, j ≤ len ∧ g = len - j ∧ s = .int .u64 (tog fn U j : Int) ∧ i = .int .i64 j ∧ w = wr)
  case atStart => exact ⟨0, Nat.zero_le _, rfl, rfl, rfl, rfl⟩
  case round =>
    obtain ⟨j, hj, hg, rfl, rfl, rfl⟩ := hrel
    have HG := hid hg
    have htl := tog_le fn U j
    clear hg
    by_cases hlt : j < len
    · have hlt2 : (j : Int) < (len : Int) := by omega
      obtain rfl := H.out.addr (by omega)
      have ck := H.out.c j hlt
      have HN : Hid (tog fn U (j + 1) = min (tog fn U j + min (fn (U j)) 4611686018427387904) 4611686018427387904) := hid rfl
      have hc := HC.out j hlt
      have hf := HF.out j hlt
      generalize fn (U j) = x at *
      generalize tog fn U j = t at *
      go_wp2_with fail
      refine hc.mono ?_
      rintro e w1 ⟨rfl, rfl⟩
      clear hc
      have hx : (x : Int) < 18446744073709551616 := by omega
      by_cases h1 : (4611686018427387904 : Int) < x
      · by_cases h2 : (4611686018427387904 : Int) < (t : Int) + 4611686018427387904
        · go_wp2_with fail
          go_roundg (len - (j + 1))
          case measure => rw [HG.out]; omega
          case rel => exact ⟨j + 1, by omega, rfl, congrArg (Value.int .u64) (by rw [HN.out]; omega), by go_num, rfl⟩
        · go_wp2_with fail
          go_roundg (len - (j + 1))
          case measure => rw [HG.out]; omega
          case rel => exact ⟨j + 1, by omega, rfl, congrArg (Value.int .u64) (by rw [HN.out]; omega), by go_num, rfl⟩
      · by_cases h2 : (4611686018427387904 : Int) < (t : Int) + x
        · go_wp2_with fail
          go_roundg (len - (j + 1))
          case measure => rw [HG.out]; omega
          case rel => exact ⟨j + 1, by omega, rfl, congrArg (Value.int .u64) (by rw [HN.out]; omega), by go_num, rfl⟩
        · go_wp2_with fail
          go_roundg (len - (j + 1))
          case measure => rw [HG.out]; omega
          case rel => exact ⟨j + 1, by omega, rfl, congrArg (Value.int .u64) (by rw [HN.out]; omega), by go_num, rfl⟩
    · have hge : ¬ (j : Int) < (len : Int) := by omega
      obtain rfl : j = len := by omega
      go_wp2_with fail
      go_ret
      exact ⟨rfl, rfl⟩

/-- What all numbers of a list cost. -/
def tot (U : Nat → Nat) (k : Int) : Nat → Nat
  | 0 => 0
  | j + 1 => tot U k j + cost (U j) k
theorem tot_le (U : Nat → Nat) (k : Int) : ∀ j, tot U k j ≤ 64 * j
  | 0 => Nat.le_refl _
  | j + 1 => by
    have := tot_le U k j
    have := cost_le (U j) k
    show _ + _ ≤ _
    omega
theorem tog_cost (U : Nat → Nat) (k : Int) : ∀ j, j ≤ 1048576 → tog (fun u => cost u k) U j = tot U k j
  | 0, _ => rfl
  | j + 1, h => by
    have h1 := tog_cost U k j (by omega)
    have h2 := tot_le U k j
    have h3 := cost_le (U j) k
    show min (tog (fun u => cost u k) U j + min (cost (U j) k) 4611686018427387904) 4611686018427387904 = tot U k j + cost (U j) k
    rw [h1]; omega

theorem total1_any (u : Nat) (k : Int) (hu : u < 18446744073709551616) (ad : Addr) (w : World) (hc : w.cell? ad = some (.int .i64 k)) :
    Calls Try.prog 87 #[.int .u64 (u : Int), .pointer (some ad)] w fun e w' => e = .returned (.int .u64 (cost u k : Int)) ∧ w = w' := by
  have h := cost_any u k hu w
  have hl := cost_le u k
  generalize cost u k = c at *
  go_enter Try.func87, Try.ntmps87
  go_wp2_with fail
  refine h.mono ?_
  rintro e w1 ⟨rfl, rfl⟩
  clear h
  go_wp2_with fail
  go_ret
  exact ⟨rfl, rfl⟩

theorem total_any (w : World) (a : Option Addr) (len cap b off : Nat) (U : Nat → Nat) (h : Us w a len b off U) (hlen : len ≤ 1048576) (k : Int) :
    Calls Try.prog 61 #[.slice a len cap, .int .i64 k] w fun e w' => e = .returned (.int .i64 (tot U k len : Int)) ∧ Below w.heap.size w w' := by
  have hb : Below w.heap.size w (w.alloc (.cells #[.int .i64 k] 3)) := (Below.refl _ _).alloc (Nat.le_refl _) _
  have h1 := h.below hb h.lt
  have hcell : (w.alloc (.cells #[.int .i64 k] 3)).cell? ⟨w.heap.size, 0, none⟩ = some (.int .i64 k) := by simp
  have ht := together_any (fun u => cost u k) 87 #[.pointer (some ⟨w.heap.size, 0, none⟩)] (fun args w => Try.call87 args w) _ a len cap b off U h1 (fun i hi => total1_any (U i) k (h.ub i hi) _ _ hcell) (fun i _ => by have := cost_le (U i) k; omega)
  rw [tog_cost U k len hlen] at ht
  have hl := tot_le U k len
  generalize tot U k len = t at *
  have HT := hid ht
  have HB := hid hb
  clear ht hb hcell h1 h
  go_enter Try.func61, Try.ntmps61
  go_wp2_with fail
  refine HT.out.mono ?_
  rintro e w1 ⟨rfl, rfl⟩
  go_wp2_with fail
  go_ret
  exact ⟨rfl, HB.out⟩

theorem rtotal_any (w : World) (a : Option Addr) (len cap b off : Nat) (U : Nat → Nat) (h : Us w a len b off U) (hlen : len ≤ 1048576) (k : Int) :
    Calls Try.prog 68 #[.slice a len cap, .int .i64 k] w fun e w' => e = .returned (.int .i64 (tot U k len : Int)) ∧ w = w' := by
  have H := hid h
  clear h
  go_enter Try.func68, Try.ntmps68
  go_wp2_with fail
  go_loopg [5, 6] len (fun g s i wr => ∃ j : Nat, j ≤ len ∧ g = len - j ∧ s = .int .i64 (tot U k j : Int) ∧ i = .int .i64 j ∧ w = wr)
  case atStart => exact ⟨0, Nat.zero_le _, rfl, rfl, rfl, rfl⟩
  case round =>
    obtain ⟨j, hj, hg, rfl, rfl, rfl⟩ := hrel
    have HG := hid hg
    have htl := tot_le U k j
    clear hg
    by_cases hlt : j < len
    · have hlt2 : (j : Int) < (len : Int) := by omega
      obtain rfl := H.out.addr (by omega)
      have ck := H.out.c j hlt
      have HN : Hid (tot U k (j + 1) = tot U k j + cost (U j) k) := hid rfl
      have hc := rcost_any (U j) k (H.out.ub j hlt) w
      have hcl := cost_le (U j) k
      generalize cost (U j) k = c at *
      generalize tot U k j = t at *
      go_wp2_with fail
      refine hc.mono ?_
      rintro e w1 ⟨rfl, rfl⟩
      clear hc
      go_wp2_with fail
      go_roundg (len - (j + 1))
      case measure => rw [HG.out]; omega
      case rel => exact ⟨j + 1, by omega, rfl, congrArg (Value.int .i64) (by rw [HN.out]; omega), by go_num, rfl⟩
    · have hge : ¬ (j : Int) < (len : Int) := by omega
      obtain rfl : j = len := by omega
      go_wp2_with fail
      go_ret
      exact ⟨rfl, rfl⟩
end Go.Proofs.Ytjimamjhakainaa.Rice
