/- Same of the program and of the document. Conditions: both sounds lie in memory as their lists. -/
import Derived.Test.YtkdpalmdcnpnoaaSa
namespace Go.Proofs.Ytkdpalmdcnpnoaa.Pcm
open Go.RowKit Gen

set_option maxRecDepth 20000 in
theorem Snd.frl {W W' : World} {d : Dat} (h : Snd W d) (hf : Fr (fun _ => False) W W') : Snd W' d := h.fr hf
set_option maxRecDepth 20000 in
theorem same_no {a b : Dat} (h : ¬ a.f = b.f) : same a b = false := by unfold same; rw [decide_eq_false h]; rfl
set_option maxRecDepth 20000 in
theorem same_yes {a b : Dat} (h : a.f = b.f) : same a b = eqS a b := by unfold same; rw [decide_eq_true h]; rfl

set_option maxRecDepth 20000 in
/-- Two boxes. -/
theorem boxes (w : World) (a b : Dat) : Below w.heap.size w ((w.alloc (.cells #[.int .i64 a.f.ch, .int .i64 a.f.bits, .int .i64 a.f.rate, .slice a.a a.n a.cap] 26)).alloc (.cells #[.int .i64 b.f.ch, .int .i64 b.f.bits, .int .i64 b.f.rate, .slice b.a b.n b.cap] 26)) ∧
    Bx ((w.alloc (.cells #[.int .i64 a.f.ch, .int .i64 a.f.bits, .int .i64 a.f.rate, .slice a.a a.n a.cap] 26)).alloc (.cells #[.int .i64 b.f.ch, .int .i64 b.f.bits, .int .i64 b.f.rate, .slice b.a b.n b.cap] 26)) w.heap.size a ∧
    Bx ((w.alloc (.cells #[.int .i64 a.f.ch, .int .i64 a.f.bits, .int .i64 a.f.rate, .slice a.a a.n a.cap] 26)).alloc (.cells #[.int .i64 b.f.ch, .int .i64 b.f.bits, .int .i64 b.f.rate, .slice b.a b.n b.cap] 26)) (w.heap.size + 1) b := by
  have h1 := below_new w (.cells #[.int .i64 a.f.ch, .int .i64 a.f.bits, .int .i64 a.f.rate, .slice a.a a.n a.cap] 26)
  have h2 := below_new (w.alloc (.cells #[.int .i64 a.f.ch, .int .i64 a.f.bits, .int .i64 a.f.rate, .slice a.a a.n a.cap] 26)) (.cells #[.int .i64 b.f.ch, .int .i64 b.f.bits, .int .i64 b.f.rate, .slice b.a b.n b.cap] 26)
  have hz : (w.alloc (.cells #[.int .i64 a.f.ch, .int .i64 a.f.bits, .int .i64 a.f.rate, .slice a.a a.n a.cap] 26)).heap.size = w.heap.size + 1 := by simp
  have hy := bx_new (w.alloc (.cells #[.int .i64 a.f.ch, .int .i64 a.f.bits, .int .i64 a.f.rate, .slice a.a a.n a.cap] 26)) b
  rw [hz] at hy
  exact ⟨h1.trans (h2.mono h1.size), (bx_new w a).below h2, hy⟩

set_option maxHeartbeats 1600000 in
set_option maxRecDepth 100000 in
theorem rsame_any (w : World) (a b : Dat) (ha : Snd w a) (hb : Snd w b) : Calls Try.prog 18 #[a.v, b.v] w fun e w' => e = .returned (.bool (same a b)) ∧ Below w.heap.size w w' := by
  obtain ⟨hb0, hx0, hy0⟩ := boxes w a b
  have HB0 := hid hb0
  have HX0 := hid hx0
  have HY0 := hid hy0
  have HA := hid ha
  have HB := hid hb
  have hl := ha.hl
  clear hb0 hx0 hy0 ha hb
  show Calls Try.prog 18 #[.agg #[.int .i64 a.f.ch, .int .i64 a.f.bits, .int .i64 a.f.rate, .slice a.a a.n a.cap], .agg #[.int .i64 b.f.ch, .int .i64 b.f.bits, .int .i64 b.f.rate, .slice b.a b.n b.cap]] w _
  by_cases hf : a.f = b.f
  · rw [same_yes hf]
    rw [← hf] at HB0 HX0 ⊢
    have hy1 := HY0.out.c1
    have hy2 := HY0.out.c2
    have hy3 := HY0.out.c3
    have hy0 := HY0.out.c0
    rw [← hf] at hy0 hy1 hy2 hy3
    clear HY0
    by_cases hn : a.n = b.n
    · have HN := hid hn
      have hnn : ((a.n : Int) != (b.n : Int)) = false := by rw [bne_eq_false_iff_eq]; omega
      clear hn hf
      go_enter Try.func18, Try.ntmps18
      go_wp2_with fail
      generalize hW0 : ((w.alloc (.cells #[.int .i64 a.f.ch, .int .i64 a.f.bits, .int .i64 a.f.rate, .slice a.a a.n a.cap] 26)).alloc (.cells #[.int .i64 a.f.ch, .int .i64 a.f.bits, .int .i64 a.f.rate, .slice b.a b.n b.cap] 26)) = W0 at *
      clear hW0
      have HY3 := hid hy3
      clear hy0 hy1 hy2 hy3
      go_loopg [5] a.n (fun g i wr => ∃ k : Nat, k ≤ a.n ∧ g = a.n - k ∧ i = .int .i64 k ∧ Fr (fun _ => False) W0 wr ∧ ∀ i, i < k → eqL a b i = true)
      case atStart => exact ⟨0, Nat.zero_le _, rfl, rfl, Fr.refl _ _, fun i hi => absurd hi (Nat.not_lt_zero _)⟩
      case round =>
        obtain ⟨k, hk, hg, rfl, hfr, hall⟩ := hrel
        have HG := hid hg
        have HALL := hid hall
        have HF := hid hfr
        clear hg hall hfr
        have HBW := hid (below_fr HB0.out HF.out)
        have a3 := (HX0.out.fr HF.out).c3
        by_cases hlt : k < a.n
        · have hlt2 : (k : Int) < (a.n : Int) := by omega
          have hlt3 : (k : Int) < (b.n : Int) := by have := HN.out; omega
          have hlt4 : k < b.n := by have := HN.out; omega
          have HAD := hid (HA.out.addr (by omega))
          have HBD := hid (HB.out.addr (by omega))
          obtain ⟨pa, oa, la⟩ := HA.out.l k hlt
          obtain ⟨pb, ob, lb⟩ := HB.out.l k hlt4
          have HLA := hid la
          have HLB := hid lb
          clear la lb
          go_wp2_with fail
          have c3 : ∀ p : Kp wr, p.w'.cell? ⟨w.heap.size, 3, none⟩ = some (.slice (some ⟨a.b, a.off, none⟩) a.n a.cap) := fun p => by rw [← HAD.out]; exact ((HX0.out.fr HF.out).fr p.h).c3
          have d3 : ∀ p : Kp wr, p.w'.cell? ⟨w.heap.size + 1, 3, none⟩ = some (.slice (some ⟨b.b, b.off, none⟩) b.n b.cap) := fun p => by
            rw [← HBD.out]
            have hh := (Below.of_fr (HF.out.trans p.h)).cell (p := ⟨w.heap.size + 1, 3, none⟩) (World.block_lt_of_cell? _ _ HY3.out)
            exact hh.trans HY3.out
          have ca : ∀ p : Kp wr, p.w'.cell? ⟨a.b, a.off + k, none⟩ = some (.slice (a.la k) (a.ln k) (a.lc k)) := fun p => (HA.out.below (below_fr HBW.out p.h)).c k hlt
          have cb : ∀ p : Kp wr, p.w'.cell? ⟨b.b, b.off + k, none⟩ = some (.slice (b.la k) (b.ln k) (b.lc k)) := fun p => (HB.out.below (below_fr HBW.out p.h)).c k hlt4
          have HI := hid fun p : Kp wr => ints_gen p.w' (a.la k) (b.la k) (a.ln k) (b.ln k) (a.lc k) (b.lc k) pa oa pb ob (a.X k) (b.X k) (HLA.out.below (below_fr HBW.out p.h) HLA.out.lt) (HLB.out.below (below_fr HBW.out p.h) HLB.out.lt)
          rw [show eqI (a.X k) (b.X k) (a.ln k) (b.ln k) = eqL a b k from rfl] at HI
          clear a3
          refine wp_region_quiet_kp (by kernel_rfl) (by kernel_rfl) ?_
          repeat (first | go_big_quiet_step ((go_at_call 47; exact kp_call (HI.out _))) | fail)
          refine wpQuiet_nil ?_
          intro _ hw'
          obtain ⟨⟨wq, hq⟩, hw''⟩ := hw'
          subst hw''
          have HFQ := hid (HF.out.trans hq)
          have HBQ := hid (below_fr HBW.out hq)
          clear hq c3 d3 ca cb
          cases he : eqL a b k with
          | true =>
            have HEQ := hid he
            clear he
            go_wp2_with fail
            go_roundg (a.n - (k + 1))
            case measure => rw [HG.out]; omega
            case rel => exact ⟨k + 1, by omega, rfl, by go_num, HFQ.out, fun i hi => by
              by_cases e : i = k
              · rw [e]; exact HEQ.out
              · exact HALL.out i (by omega)⟩
          | false =>
            have HEQ : Hid (eqS a b = false) := hid (eqS_not hlt he)
            clear he
            go_wp2_with fail
            go_ret
            exact ⟨congrArg (fun z : Bool => Ending.returned (Value.bool z)) HEQ.out.symm, HBQ.out⟩
        · have hge : ¬ (k : Int) < (a.n : Int) := by omega
          have HEQ : Hid (eqS a b = true) := hid (eqS_all HN.out fun i hi => HALL.out i (by omega))
          go_wp2_with fail
          go_ret
          exact ⟨congrArg (fun z : Bool => Ending.returned (Value.bool z)) HEQ.out.symm, HBW.out⟩
    · have hnn : ((a.n : Int) != (b.n : Int)) = true := bne_iff_ne.2 (by omega)
      rw [eqS_len hn]
      clear hn hf
      go_enter Try.func18, Try.ntmps18
      go_wp2_with fail
      all_goals (go_ret; exact ⟨rfl, HB0.out⟩)
  · rw [same_no hf]
    rcases fmt_ne hf with q | ⟨q, q1⟩ | ⟨q, q1, q2⟩
    · have x0 : (a.f.ch == b.f.ch) = false := beq_eq_false_iff_ne.2 q
      clear hf
      go_enter Try.func18, Try.ntmps18
      go_wp2_with fail
      all_goals (go_ret; exact ⟨rfl, HB0.out⟩)
    · have x1 : (a.f.bits == b.f.bits) = false := beq_eq_false_iff_ne.2 q1
      rw [← q] at HB0 HX0 HY0 ⊢
      clear hf q
      go_enter Try.func18, Try.ntmps18
      go_wp2_with fail
      all_goals (go_ret; exact ⟨rfl, HB0.out⟩)
    · have x2 : (a.f.rate == b.f.rate) = false := beq_eq_false_iff_ne.2 q2
      rw [← q, ← q1] at HB0 HX0 HY0 ⊢
      clear hf q q1
      go_enter Try.func18, Try.ntmps18
      go_wp2_with fail
      all_goals (go_ret; exact ⟨rfl, HB0.out⟩)
end Go.Proofs.Ytkdpalmdcnpnoaa.Pcm
