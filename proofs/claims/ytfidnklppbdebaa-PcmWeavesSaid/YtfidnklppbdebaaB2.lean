/- What is wrong with two sounds beside each other, in the program. Conditions: both lie in memory as their lists. -/
import Derived.Test.YtfidnklppbdebaaBt
namespace Go.Proofs.Ytfidnklppbdebaa.Pcm
open Go.RowKit Gen

/-- Two sounds in a row. -/
def pairCells (a b : Dat) : Array Value := #[.int .i64 a.f.ch, .int .i64 a.f.bits, .int .i64 a.f.rate, .slice a.a a.n a.cap, .int .i64 b.f.ch, .int .i64 b.f.bits, .int .i64 b.f.rate, .slice b.a b.n b.cap]
structure Two (W : World) (q : Nat) (a b : Dat) : Prop where
  c : ∀ i v, (pairCells a b)[i]? = some v → W.cell? ⟨q, i, none⟩ = some v
theorem Two.fr {W W' : World} {q : Nat} {a b : Dat} (h : Two W q a b) (hf : Fr (fun _ => False) W W') : Two W' q a b :=
  ⟨fun i v hi => ((Below.of_fr hf).cell (p := ⟨q, i, none⟩) (World.block_lt_of_cell? _ _ (h.c i v hi))).trans (h.c i v hi)⟩
theorem two_new (w : World) (q : Nat) (a b : Dat) (t : TypeId) (hq : q = w.heap.size) : Two (w.alloc (.cells (pairCells a b) t)) q a b :=
  ⟨fun i v hi => by rw [World.cell?_alloc_at _ _ _ _ hq]; exact hi⟩

set_option maxHeartbeats 3200000 in
theorem both_any (w : World) (a b : Dat) (ha : Snd w a) (hb : Snd w b) : Calls Try.prog 40 #[a.v, b.v] w fun e w' => e = .returned (.int .i64 (both a b)) ∧ Below w.heap.size w w' := by
  have HC1 := hid fun w' (hw : Below w.heap.size w w') => check_any w' a (ha.below hw)
  have HC2 := hid fun w' (hw : Below w.heap.size w w') => check_any w' b (hb.below hw)
  have h1 := below_new w (.cells #[.int .i64 a.f.ch, .int .i64 a.f.bits, .int .i64 a.f.rate, .slice a.a a.n a.cap] 26)
  have h2 := below_new (w.alloc (.cells #[.int .i64 a.f.ch, .int .i64 a.f.bits, .int .i64 a.f.rate, .slice a.a a.n a.cap] 26)) (.cells #[.int .i64 b.f.ch, .int .i64 b.f.bits, .int .i64 b.f.rate, .slice b.a b.n b.cap] 26)
  have HB0 := hid (h1.trans (h2.mono h1.size))
  have HX0 := hid ((bx_new w a).below h2)
  have HY0 := hid (bx_new (w.alloc (.cells #[.int .i64 a.f.ch, .int .i64 a.f.bits, .int .i64 a.f.rate, .slice a.a a.n a.cap] 26)) b)
  have hz : (w.alloc (.cells #[.int .i64 a.f.ch, .int .i64 a.f.bits, .int .i64 a.f.rate, .slice a.a a.n a.cap] 26)).heap.size = w.heap.size + 1 := by simp
  rw [hz] at HY0
  clear h1 h2 hz
  unfold Dat.v at HC1 HC2
  show Calls Try.prog 40 #[.agg #[.int .i64 a.f.ch, .int .i64 a.f.bits, .int .i64 a.f.rate, .slice a.a a.n a.cap], .agg #[.int .i64 b.f.ch, .int .i64 b.f.bits, .int .i64 b.f.rate, .slice b.a b.n b.cap]] w _
  clear ha hb
  go_enter Try.func40, Try.ntmps40
  go_wp2_with fail
  have h3 := below_new ((w.alloc (.cells #[.int .i64 a.f.ch, .int .i64 a.f.bits, .int .i64 a.f.rate, .slice a.a a.n a.cap] 26)).alloc (.cells #[.int .i64 b.f.ch, .int .i64 b.f.bits, .int .i64 b.f.rate, .slice b.a b.n b.cap] 26)) (.cells (pairCells a b) 26)
  have HB := hid (HB0.out.trans (h3.mono HB0.out.size))
  have HX := hid (HX0.out.below h3)
  have HY := hid (HY0.out.below h3)
  have HT := hid (two_new ((w.alloc (.cells #[.int .i64 a.f.ch, .int .i64 a.f.bits, .int .i64 a.f.rate, .slice a.a a.n a.cap] 26)).alloc (.cells #[.int .i64 b.f.ch, .int .i64 b.f.bits, .int .i64 b.f.rate, .slice b.a b.n b.cap] 26)) (w.heap.size + 1 + 1) a b 26 (by simp))
  have hpc : pairCells a b = #[.int .i64 a.f.ch, .int .i64 a.f.bits, .int .i64 a.f.rate, .slice a.a a.n a.cap, .int .i64 b.f.ch, .int .i64 b.f.bits, .int .i64 b.f.rate, .slice b.a b.n b.cap] := rfl
  rw [hpc] at h3 HB HX HY HT
  generalize (((w.alloc (.cells #[.int .i64 a.f.ch, .int .i64 a.f.bits, .int .i64 a.f.rate, .slice a.a a.n a.cap] 26)).alloc (.cells #[.int .i64 b.f.ch, .int .i64 b.f.bits, .int .i64 b.f.rate, .slice b.a b.n b.cap] 26)).alloc (.cells #[.int .i64 a.f.ch, .int .i64 a.f.bits, .int .i64 a.f.rate, .slice a.a a.n a.cap, .int .i64 b.f.ch, .int .i64 b.f.bits, .int .i64 b.f.rate, .slice b.a b.n b.cap] 26)) = W0 at *
  clear h3 HB0 HX0 HY0 hpc
  go_loopg [12] 2 (fun g i wr => ∃ k : Nat, k ≤ 2 ∧ g = 2 - k ∧ i = .int .i64 k ∧ Fr (fun _ => False) W0 wr ∧ (1 ≤ k → a.chk = 0) ∧ (2 ≤ k → b.chk = 0))
  case atStart => exact ⟨0, by omega, rfl, rfl, Fr.refl _ _, fun h => by omega, fun h => by omega⟩
  case round =>
    obtain ⟨k, hk, hg, rfl, hf, hA, hB⟩ := hrel
    have HG := hid hg
    have HA := hid hA
    have HBB := hid hB
    clear hg hA hB
    have HXW := hid (HX.out.fr hf)
    have HYW := hid (HY.out.fr hf)
    have HTW := hid (HT.out.fr hf)
    have HBW := hid (below_fr HB.out hf)
    have HF := hid hf
    clear hf
    match k, hk with
    | 0, _ =>
      have t0 : wr.cell? ⟨w.heap.size + 1 + 1, 0, none⟩ = some (.int .i64 a.f.ch) := HTW.out.c 0 _ rfl
      have t1 : wr.cell? ⟨w.heap.size + 1 + 1, 1, none⟩ = some (.int .i64 a.f.bits) := HTW.out.c 1 _ rfl
      have t2 : wr.cell? ⟨w.heap.size + 1 + 1, 2, none⟩ = some (.int .i64 a.f.rate) := HTW.out.c 2 _ rfl
      have t3 : wr.cell? ⟨w.heap.size + 1 + 1, 3, none⟩ = some (.slice a.a a.n a.cap) := HTW.out.c 3 _ rfl
      have hn := below_new wr (.cells #[.int .i64 a.f.ch, .int .i64 a.f.bits, .int .i64 a.f.rate, .slice a.a a.n a.cap] 26)
      have HN := hid (HBW.out.trans (hn.mono HBW.out.size))
      have HFN := hid (HF.out.trans (fr_of_below hn))
      clear hn
      go_wp2_with fail
      refine (HC1.out _ HN.out).mono ?_
      rintro e w1 ⟨rfl, hb1⟩
      have HB1 := hid (HN.out.trans (hb1.mono HN.out.size))
      have HF1 := hid (HFN.out.trans (fr_of_below hb1))
      clear hb1 t0 t1 t2 t3
      by_cases hc : a.chk = 0
      · have e1 : (a.chk != 0) = false := by rw [hc]; rfl
        have HCC := hid hc
        clear hc
        go_wp2_with fail
        go_roundg 1
        case measure => rw [HG.out]; omega
        case rel => exact ⟨1, by omega, rfl, rfl, HF1.out, fun _ => HCC.out, fun h => by omega⟩
      · have e1 : (a.chk != 0) = true := bne_iff_ne.2 hc
        have HE : Hid (both a b = a.chk) := hid (both_1 hc)
        clear hc
        go_wp2_with fail
        go_ret
        exact ⟨congrArg (fun z : Int => Ending.returned (Value.int .i64 z)) HE.out.symm, HB1.out⟩
    | 1, _ =>
      have t0 : wr.cell? ⟨w.heap.size + 1 + 1, 4, none⟩ = some (.int .i64 b.f.ch) := HTW.out.c 4 _ rfl
      have t1 : wr.cell? ⟨w.heap.size + 1 + 1, 5, none⟩ = some (.int .i64 b.f.bits) := HTW.out.c 5 _ rfl
      have t2 : wr.cell? ⟨w.heap.size + 1 + 1, 6, none⟩ = some (.int .i64 b.f.rate) := HTW.out.c 6 _ rfl
      have t3 : wr.cell? ⟨w.heap.size + 1 + 1, 7, none⟩ = some (.slice b.a b.n b.cap) := HTW.out.c 7 _ rfl
      have hn := below_new wr (.cells #[.int .i64 b.f.ch, .int .i64 b.f.bits, .int .i64 b.f.rate, .slice b.a b.n b.cap] 26)
      have HN := hid (HBW.out.trans (hn.mono HBW.out.size))
      have HFN := hid (HF.out.trans (fr_of_below hn))
      clear hn
      go_wp2_with fail
      refine (HC2.out _ HN.out).mono ?_
      rintro e w1 ⟨rfl, hb1⟩
      have HB1 := hid (HN.out.trans (hb1.mono HN.out.size))
      have HF1 := hid (HFN.out.trans (fr_of_below hb1))
      clear hb1 t0 t1 t2 t3
      by_cases hc : b.chk = 0
      · have e1 : (b.chk != 0) = false := by rw [hc]; rfl
        have HCC := hid hc
        clear hc
        go_wp2_with fail
        go_roundg 0
        case measure => rw [HG.out]; omega
        case rel => exact ⟨2, by omega, rfl, rfl, HF1.out, fun _ => HA.out (by omega), fun _ => HCC.out⟩
      · have e1 : (b.chk != 0) = true := bne_iff_ne.2 hc
        have HE : Hid (both a b = b.chk) := hid (both_2 (HA.out (by omega)) hc)
        clear hc
        go_wp2_with fail
        go_ret
        exact ⟨congrArg (fun z : Int => Ending.returned (Value.int .i64 z)) HE.out.symm, HB1.out⟩
    | 2, _ =>
      have HA1 := hid (HA.out (by omega))
      have HA2 := hid (HBB.out (by omega))
      obtain ⟨a0, a1, a2, a3⟩ := HXW.out
      obtain ⟨b0, b1, b2, b3⟩ := HYW.out
      by_cases hf : a.f = b.f
      · have HE : Hid (both a b = 0) := hid (both_4 HA1.out HA2.out hf)
        rw [← hf] at b0 b1 b2
        clear hf
        go_wp2_with fail
        go_ret
        exact ⟨congrArg (fun z : Int => Ending.returned (Value.int .i64 z)) HE.out.symm, HBW.out⟩
      · have HE : Hid (both a b = 20) := hid (both_3 HA1.out HA2.out hf)
        rcases fmt_ne hf with q | ⟨q, q1⟩ | ⟨q, q1, q2⟩
        · have x0 : (a.f.ch == b.f.ch) = false := beq_eq_false_iff_ne.2 q
          clear hf
          go_wp2_with fail
          all_goals (go_ret; exact ⟨congrArg (fun z : Int => Ending.returned (Value.int .i64 z)) HE.out.symm, HBW.out⟩)
        · have x1 : (a.f.bits == b.f.bits) = false := beq_eq_false_iff_ne.2 q1
          rw [← q] at b0
          clear hf q
          go_wp2_with fail
          all_goals (go_ret; exact ⟨congrArg (fun z : Int => Ending.returned (Value.int .i64 z)) HE.out.symm, HBW.out⟩)
        · have x2 : (a.f.rate == b.f.rate) = false := beq_eq_false_iff_ne.2 q2
          rw [← q] at b0
          rw [← q1] at b1
          clear hf q q1
          go_wp2_with fail
          all_goals (go_ret; exact ⟨congrArg (fun z : Int => Ending.returned (Value.int .i64 z)) HE.out.symm, HBW.out⟩)
end Go.Proofs.Ytfidnklppbdebaa.Pcm
