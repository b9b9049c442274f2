/- HeadBack's walk, of any payload. Conditions: the memory's own form. -/
import Derived.Test.YtjdifacjeeadkaaBw
namespace Go.Proofs.Ytjdifacjeeadkaa.Head
open Go.RowKit Gen Fld
open Crc hiding hid

theorem back_far (w : World) (h : Hh) (a b : Option Addr) (len cap m mc : Nat) (hn : 300 < len ∨ (len ≤ 300 ∧ 300 < m)) :
    Calls Try.prog 7 #[hv h, .slice a len cap, .slice b m mc] w fun e w' => e = .returned (.bool true) ∧ Below w.heap.size w w' := by
  have HK := hid known_true
  have HB0 := hid (below_new w (.cells (hvl h) 24))
  change Calls Try.prog 7 #[.agg #[.int .i64 h.k, .int .i64 h.ix, .int .i64 h.ln, .int .i64 h.st, .int .i64 h.bd, .bool h.la, .int .u32 (h.lk : Int), .int .i64 h.sz], .slice a len cap, .slice b m mc] w _
  have hc : (300 : Int) < (len : Int) ∨ (¬ (300 : Int) < (len : Int) ∧ (300 : Int) < (m : Int)) := by omega
  clear hn
  rcases hc with h1 | ⟨h1, h2⟩
  all_goals
    go_enter Try.func7, Try.ntmps7
    go_wp2_with fail
    refine (HK.out _).mono ?_
    rintro e w1 ⟨rfl, hb1⟩
    have hfin := HB0.out.trans (hb1.mono HB0.out.size)
    clear hb1
    go_wp2_with fail
    go_ret
    exact ⟨rfl, hfin⟩
theorem back_walk (w : World) (h : Hh) (hk : h.lk < 4294967296) {a b : Option Addr} {p q : List Nat} {len cap m mc : Nat} (hl : p.length = len) (hb : Byts w a p) (hnil : a = none → len = 0 ∧ cap = 0) (hm : q.length = m) (hq : Byts w b q) (hqn : b = none → m = 0 ∧ mc = 0) :
    Calls Try.prog 7 #[hv h, .slice a len cap, .slice b m mc] w fun e w' => e = .returned (.bool true) ∧ Below w.heap.size w w' := by
  by_cases h1 : 300 < len
  · exact back_far w h a b len cap m mc (.inl h1)
  by_cases h2 : 300 < m
  · exact back_far w h a b len cap m mc (.inr ⟨by omega, h2⟩)
  by_cases hr : Rt (szd h len)
  · exact back_ok w h hk hl hb hnil hm hq hqn (by omega) (by omega) hr
  · exact back_bad w h a b len cap m mc (by omega) (by omega) hr
end Go.Proofs.Ytjdifacjeeadkaa.Head
