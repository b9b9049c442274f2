/- RiceCosts' walk: what a number costs, and all of a list, is as the document says, and as many bits as its code has. Conditions: those of the memory's own form alone. -/
import Derived.Test.YtgojdhffhocceaaKn
import Derived.Test.YtgojdhffhocceaaTo
import Derived.Test.YtgojdhffhocceaaCd
namespace Go.Proofs.Ytgojdhffhocceaa.Rice
open Go.RowKit Bit

set_option maxHeartbeats 800000 in
theorem costs_walk (w : World) (u : Nat) (hu : u < 18446744073709551616) (a : Option Addr) (len cap b off : Nat) (U : Nat → Nat) (k : Int) (h : Us w a len b off U) :
    Calls Try.prog 3 #[.int .u64 (u : Int), .slice a len cap, .int .i64 k] w fun e w' => e = .returned (.bool true) ∧ Below w.heap.size w w' := by
  by_cases h2 : 200 < len
  · have h1 : (200 : Int) < (len : Int) := by omega
    go_enter Try.func3, Try.ntmps3
    go_wp2_with fail
    refine (known_true _).mono ?_
    rintro e w' ⟨rfl, hb⟩
    go_wp2_with fail
    go_ret
    exact ⟨rfl, hb⟩
  · have h1 : ¬ (200 : Int) < (len : Int) := by omega
    have hc := cost_any u k hu
    have hrc := rcost_any u k hu
    have ht := total_any w a len cap b off U h (by omega) k
    have hrt := fun w' (hb : Below w.heap.size w w') => rtotal_any w' a len cap b off U (h.below hb h.lt) (by omega) k
    have hcd := code_any u k
    generalize cost u k = c at *
    generalize tot U k len = t at *
    generalize codI u k = x at *
    have HRT := hid hrt
    have HU := hid hu
    clear hrt hu h
    go_enter Try.func3, Try.ntmps3
    go_wp2_with fail
    refine (hc _).mono ?_
    rintro e w1 ⟨rfl, rfl⟩
    go_wp2_with fail
    refine (hrc _).mono ?_
    rintro e w1 ⟨rfl, rfl⟩
    go_wp2_with fail
    refine ht.mono ?_
    rintro e w1 ⟨rfl, hb1⟩
    clear ht
    go_wp2_with fail
    refine (HRT.out _ hb1).mono ?_
    rintro e w2 ⟨rfl, rfl⟩
    go_wp2_with fail
    refine (hcd _).mono ?_
    rintro e w2 ⟨lo, lcap, rfl, hn⟩
    have hb2 := hb1.trans (hn.below.mono hb1.size)
    clear hn hb1
    go_wp2_with fail
    refine (hc _).mono ?_
    rintro e w3 ⟨rfl, rfl⟩
    go_wp2_with fail
    refine (known_true _).mono ?_
    rintro e w3 ⟨rfl, hb3⟩
    have hfin := hb2.trans (hb3.mono hb2.size)
    clear hb2 hb3
    go_wp2_with fail
    go_ret
    exact ⟨rfl, hfin⟩
end Go.Proofs.Ytgojdhffhocceaa.Rice
