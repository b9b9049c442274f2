/- Apart of pcm. Conditions: both sounds lie in memory as their lists. -/
import Derived.Test.YtfidnklppbdebaaFa
namespace Go.Proofs.Ytfidnklppbdebaa.Pcm
open Go.RowKit Gen

theorem near_of {d : Dat} (h : d.chk = 0) : ∀ i, i < d.n → Near (d.X i) (d.ln i) := fun i hi j hj => by
  obtain ⟨hr, _, _, _, _, _, hfar⟩ := chk_ok h
  have hP : 2 ^ (d.f.bits.toNat - 1) ≤ 2 ^ 23 := Nat.pow_le_pow_right (by decide) (by have := hr.2.1; omega)
  cases hb : beyond (2 ^ (d.f.bits.toNat - 1)) (d.X i j) with
  | true =>
    have h1 : anyB (fun j => beyond (2 ^ (d.f.bits.toNat - 1)) (d.X i j)) (d.ln i) = true := (any_iff _ _).2 ⟨j, hj, hb⟩
    have h2 : d.far = true := (any_iff (fun i => anyB (fun j => beyond (2 ^ (d.f.bits.toNat - 1)) (d.X i j)) (d.ln i)) d.n).2 ⟨i, hi, h1⟩
    rw [hfar] at h2; cases h2
  | false =>
    unfold beyond at hb
    rw [Bool.not_eq_false', decide_eq_true_eq] at hb
    generalize 2 ^ (d.f.bits.toNat - 1) = P at *
    omega

/-- What becomes of two sounds. -/
def apc (a b : Dat) : Int := if both a b ≠ 0 then both a b else if ¬ a.cnt = b.cnt then 22 else 0
def apf (a b : Dat) (c : Nat) : Int := far (a.X c) (b.X c) (a.cnt)
theorem apc_1 {a b : Dat} (h : both a b ≠ 0) : apc a b = both a b := if_pos h
theorem apc_2 {a b : Dat} (h : both a b = 0) (h2 : ¬ a.cnt = b.cnt) : apc a b = 22 := by unfold apc; rw [if_neg (fun x => x h), if_pos h2]
theorem apc_3 {a b : Dat} (h : both a b = 0) (h2 : a.cnt = b.cnt) : apc a b = 0 := by unfold apc; rw [if_neg (fun x => x h), if_neg (fun x => x h2)]
theorem both_ok {a b : Dat} (h : both a b = 0) : a.chk = 0 ∧ b.chk = 0 ∧ a.f = b.f := by
  unfold both at h
  by_cases h1 : a.chk = 0
  · rw [if_neg (fun x => x h1)] at h
    by_cases h2 : b.chk = 0
    · rw [if_neg (fun x => x h2)] at h
      by_cases h3 : a.f = b.f
      · exact ⟨h1, h2, h3⟩
      · rw [if_neg h3] at h; cases h
    · rw [if_pos h2] at h; exact absurd h h2
  · rw [if_pos h1] at h; exact absurd h h1
def ApPost (w : World) (a b : Dat) (e : Ending) (w' : World) : Prop := ∃ (lo : Option Addr) (lcap len g off : Nat), len = (if apc a b = 0 then a.n else 0) ∧ e = .returned (.tuple #[.slice lo len lcap, .int .i64 (apc a b)]) ∧ Isb w' lo len g off (apf a b) ∧ Below w.heap.size w w'
theorem isb_nil (w : World) (X : Nat → Int) : Isb w none 0 0 0 X := ⟨fun h => absurd h (Nat.lt_irrefl 0), fun i hi => absurd hi (Nat.not_lt_zero i), fun h => absurd h (Nat.lt_irrefl 0), Nat.zero_le _⟩

/-- The list that is being filled. -/
structure Fl (wr : World) (g n k : Nat) (X : Nat → Int) : Prop where
  c : ∀ i, i < n → wr.cell? ⟨g, i, none⟩ = some (.int .i64 (if i < k then X i else 0))
  f : ∀ i, wr.frozen? ⟨g, i, none⟩ = false
theorem Fl.fr {w w' : World} {g n k : Nat} {X : Nat → Int} (h : Fl w g n k X) (hf : Fr (fun _ => False) w w') (hg : g < w.heap.size) : Fl w' g n k X :=
  ⟨fun i hi => ((Below.of_fr hf).cell (p := ⟨g, i, none⟩) hg).trans (h.c i hi), fun i => ((Below.of_fr hf).frozen (p := ⟨g, i, none⟩) hg).trans (h.f i)⟩
theorem Fl.set {w : World} {g n k : Nat} {X : Nat → Int} (h : Fl w g n k X) (hk : k < n) (x : Int) (hx : x = X k) : Fl (w.setCell ⟨g, k, none⟩ (.int .i64 x)) g n (k + 1) X := by
  refine ⟨fun i hi => ?_, fun i => by rw [World.frozen?_setCell]; exact h.f i⟩
  by_cases e : i = k
  · subst e
    rw [World.cell?_setCell_same _ _ _ (h.c i hi), if_pos (by omega), hx]
  · rw [World.cell?_setCell_other _ _ _ _ (by intro e2; simp at e2 <;> omega), h.c i hi]
    by_cases h1 : i < k
    · rw [if_pos h1, if_pos (by omega)]
    · rw [if_neg h1, if_neg (by omega)]
theorem fl_new (w : World) (n : Nat) (X : Nat → Int) : Fl (w.alloc (.cells (madeCells #[.int .i64 0] n) 3)) w.heap.size n 0 X := by
  refine ⟨fun i hi => ?_, fun i => ?_⟩
  · rw [World.cell?_alloc_at _ _ _ _ rfl]
    simp [madeCells, hi, Nat.mod_one]
  · rw [frozen?_alloc_cells]; simp [World.frozen?]

/-- What stands while the list is filled. -/
structure Sf (w wr : World) (a b : Dat) (g k : Nat) : Prop where
  fl : Fl wr g a.n k (apf a b)
  bx : Bx wr w.heap.size a
  by' : Bx wr (w.heap.size + 1) b
  below : Below w.heap.size w wr
  lt : g < wr.heap.size
  gt : w.heap.size + 1 < g
theorem Sf.fr {w w1 w2 : World} {a b : Dat} {g k : Nat} (h : Sf w w1 a b g k) (hf : Fr (fun _ => False) w1 w2) : Sf w w2 a b g k :=
  ⟨h.fl.fr hf h.lt, h.bx.fr hf, h.by'.fr hf, below_fr h.below hf, Nat.lt_of_lt_of_le h.lt hf.size, h.gt⟩
theorem Bx.set {w : World} {p g k : Nat} {d : Dat} (h : Bx w p d) (hp : p ≠ g) (v : Value) : Bx (w.setCell ⟨g, k, none⟩ v) p d := by
  have hc : ∀ i, (w.setCell ⟨g, k, none⟩ v).cell? ⟨p, i, none⟩ = w.cell? ⟨p, i, none⟩ := fun i => World.cell?_setCell_other _ _ _ _ (by intro e; simp at e <;> omega)
  exact ⟨(hc 0).trans h.c0, (hc 1).trans h.c1, (hc 2).trans h.c2, (hc 3).trans h.c3⟩
theorem Sf.set {w wr : World} {a b : Dat} {g k : Nat} (h : Sf w wr a b g k) (hk : k < a.n) (x : Int) (hx : x = apf a b k) : Sf w (wr.setCell ⟨g, k, none⟩ (.int .i64 x)) a b g (k + 1) := by
  have hgt := h.gt
  exact ⟨h.fl.set hk x hx, h.bx.set (by omega) _, h.by'.set (by omega) _, h.below.setCell (p := ⟨g, k, none⟩) (show w.heap.size ≤ g by omega) _, by have := h.lt; simpa using this, h.gt⟩

set_option maxHeartbeats 800000 in
set_option maxRecDepth 100000 in
theorem apart_any (w : World) (a b : Dat) (ha : Snd w a) (hb : Snd w b) : Calls Try.prog 28 #[a.v, b.v] w (ApPost w a b) := by
  have HBO := hid fun w' (hw : Below w.heap.size w w') => both_any w' a b (ha.below hw) (hb.below hw)
  have HCA := hid fun w' (hw : Below w.heap.size w w') => count_any w' a (ha.below hw)
  have HCB := hid fun w' (hw : Below w.heap.size w w') => count_any w' b (hb.below hw)
  obtain ⟨hb0, hx0, hy0⟩ := boxes w a b
  have HB0 := hid hb0
  have HX0 := hid hx0
  have HY0 := hid hy0
  have HA := hid ha
  have HB := hid hb
  clear hb0 hx0 hy0 ha hb
  unfold Dat.v at HBO HCA HCB
  obtain ⟨i0, hi, hz0, hz1, hz2⟩ := info_parts Try.info3
  show Calls Try.prog 28 #[.agg #[.int .i64 a.f.ch, .int .i64 a.f.bits, .int .i64 a.f.rate, .slice a.a a.n a.cap], .agg #[.int .i64 b.f.ch, .int .i64 b.f.bits, .int .i64 b.f.rate, .slice b.a b.n b.cap]] w _
  go_enter Try.func28, Try.ntmps28
  go_wp2_with fail
  refine (HBO.out _ HB0.out).mono ?_
  rintro e w1 ⟨rfl, hb1⟩
  have HB1 := hid (HB0.out.trans (hb1.mono HB0.out.size))
  have HX1 := hid (HX0.out.below hb1)
  have HY1 := hid (HY0.out.below hb1)
  clear hb1
  by_cases hbo : both a b = 0
  · have e0 : (both a b != 0) = false := by rw [hbo]; rfl
    obtain ⟨ok1, ok2, hff⟩ := both_ok hbo
    have HO1 := hid (chk_ok ok1)
    have HO2 := hid (chk_ok ok2)
    have HN1 := hid (near_of ok1)
    have HN2 := hid (near_of ok2)
    have HNN : Hid (a.n = b.n) := hid (by have h1 := HO1.out.2.1; have h2 := HO2.out.2.1; rw [hff] at h1; omega)
    have HBZ := hid hbo
    clear hbo hff ok1 ok2
    go_wp2_with fail
    have c0 : ∀ p : Kp w1, p.w'.cell? ⟨w.heap.size, 0, none⟩ = some (.int .i64 a.f.ch) := fun p => (HX1.out.fr p.h).c0
    have c1 : ∀ p : Kp w1, p.w'.cell? ⟨w.heap.size, 1, none⟩ = some (.int .i64 a.f.bits) := fun p => (HX1.out.fr p.h).c1
    have c2 : ∀ p : Kp w1, p.w'.cell? ⟨w.heap.size, 2, none⟩ = some (.int .i64 a.f.rate) := fun p => (HX1.out.fr p.h).c2
    have c3 : ∀ p : Kp w1, p.w'.cell? ⟨w.heap.size, 3, none⟩ = some (.slice a.a a.n a.cap) := fun p => (HX1.out.fr p.h).c3
    have d0 : ∀ p : Kp w1, p.w'.cell? ⟨w.heap.size + 1, 0, none⟩ = some (.int .i64 b.f.ch) := fun p => (HY1.out.fr p.h).c0
    have d1 : ∀ p : Kp w1, p.w'.cell? ⟨w.heap.size + 1, 1, none⟩ = some (.int .i64 b.f.bits) := fun p => (HY1.out.fr p.h).c1
    have d2 : ∀ p : Kp w1, p.w'.cell? ⟨w.heap.size + 1, 2, none⟩ = some (.int .i64 b.f.rate) := fun p => (HY1.out.fr p.h).c2
    have d3 : ∀ p : Kp w1, p.w'.cell? ⟨w.heap.size + 1, 3, none⟩ = some (.slice b.a b.n b.cap) := fun p => (HY1.out.fr p.h).c3
    have HCAp := hid fun p : Kp w1 => HCA.out p.w' (below_fr HB1.out p.h)
    have HCBp := hid fun p : Kp w1 => HCB.out p.w' (below_fr HB1.out p.h)
    refine wp_region_quiet_kp (by kernel_rfl) (by kernel_rfl) ?_
    repeat (first | go_big_quiet_step ((first | (go_at_call 14; with_reducible exact kp_below (HCAp.out _)) | (go_at_call 14; with_reducible exact kp_below (HCBp.out _)))) | fail)
    refine wpQuiet_nil ?_
    intro wz hw'
    obtain ⟨⟨wq, hq⟩, hw''⟩ := hw'
    subst hw''
    have HBQ := hid (below_fr HB1.out hq)
    have HXQ := hid (HX1.out.fr hq)
    have HYQ := hid (HY1.out.fr hq)
    clear hq c0 c1 c2 c3 d0 d1 d2 d3 e0
    by_cases hcc : a.cnt = b.cnt
    · have e1 : ((a.cnt : Int) != (b.cnt : Int)) = false := by rw [bne_eq_false_iff_eq]; omega
      have HE := hid (apc_3 HBZ.out hcc)
      have HCC := hid hcc
      clear hcc
      obtain ⟨b0, b1, b2, b3⟩ := HXQ.out
      have hmk : ∀ W : World, (Instr.makeSlice 42 (.int .i64 (a.n : Int)) (.int .i64 (a.n : Int))).run Try.prog W = .ok (.slice (some ⟨W.heap.size, 0, none⟩) a.n a.n) (W.alloc (.cells (madeCells #[.int .i64 0] a.n) 3)) := fun W => by
        have h8 := HO1.out.2.2.1
        have hm := run_make (P := Try.prog) W 42 3 i0 (.int .i64 0) Try.underlying42 hi hz0 .i64 .i64 (a.n : Int) (a.n : Int) (by omega) (by omega) (by rw [hz2]; omega) (by omega)
        rw [hz1, Int.toNat_natCast, Nat.mul_one] at hm
        exact hm
      have hbn := below_new wz (.cells (madeCells #[.int .i64 0] a.n) 3)
      have m3 : (wz.alloc (.cells (madeCells #[.int .i64 0] a.n) 3)).cell? ⟨w.heap.size, 3, none⟩ = some (.slice a.a a.n a.cap) := (HXQ.out.below hbn).c3
      go_wp2_with fail
      have hs0 : Sf w (wz.alloc (.cells (madeCells #[.int .i64 0] a.n) 3)) a b wz.heap.size 0 :=
        ⟨fl_new wz a.n _, HXQ.out.below hbn, HYQ.out.below hbn, HBQ.out.trans (hbn.mono HBQ.out.size), by simp, HYQ.out.lt⟩
      rw [e1]
      clear hmk m3 b0 b1 b2 b3 hbn e1
      generalize wz.alloc (.cells (madeCells #[.int .i64 0] a.n) 3) = W0 at *
      generalize wz.heap.size = g at *
      go_loopg [28] a.n (fun z i wr => ∃ k : Nat, k ≤ a.n ∧ z = a.n - k ∧ i = .int .i64 k ∧ Sf w wr a b g k)
      case atStart => exact ⟨0, Nat.zero_le _, rfl, rfl, hs0⟩
      case round =>
        obtain ⟨k, hk, hg, rfl, hs⟩ := hrel
        have HG := hid hg
        have HS := hid hs
        clear hg hs hs0
        by_cases hlt : k < a.n
        · have hlt2 : (k : Int) < (a.n : Int) := by omega
          have hlt3 : (k : Int) < (b.n : Int) := by have := HNN.out; omega
          have hlt4 : k < b.n := by have := HNN.out; omega
          have HAD := hid (HA.out.addr (by omega))
          have HBD := hid (HB.out.addr (by omega))
          have ca := (HA.out.below HS.out.below).c k hlt
          have cb := (HB.out.below HS.out.below).c k hlt4
          have d3 := HS.out.by'.c3
          obtain ⟨pa, oa, la⟩ := (HA.out.below HS.out.below).l k hlt
          obtain ⟨pb, ob, lb⟩ := (HB.out.below HS.out.below).l k hlt4
          have hla := HO1.out.2.2.2.2.2.1 k hlt
          have hlb := HO2.out.2.2.2.2.2.1 k hlt4
          have hna := HN1.out k hlt
          have hnb := HN2.out k hlt4
          rw [hlb, ← HCC.out] at lb hnb cb
          rw [hla] at la hna ca
          have HFA := hid (farthest_any wr (a.la k) (b.la k) a.cnt (a.lc k) (b.lc k) pa oa pb ob (a.X k) (b.X k) la lb hna hnb)
          rw [show far (a.X k) (b.X k) a.cnt = apf a b k from rfl] at HFA
          clear la lb hla hlb hna hnb
          rw [HBD.out] at d3
          rw [HAD.out]
          go_wp2_with fail
          refine HFA.out.mono ?_
          rintro e w4 ⟨rfl, hf4⟩
          have HS4 := hid (HS.out.fr hf4)
          have hfz := HS4.out.fl.f k
          have hcz := HS4.out.fl.c k hlt
          clear hf4 ca cb d3
          go_wp2_with fail
          have hs5 := HS4.out.set hlt _ rfl
          clear hfz hcz
          rw [← HAD.out]
          go_roundg (a.n - (k + 1))
          case measure => rw [HG.out]; omega
          case rel => exact ⟨k + 1, by omega, rfl, congrArg (Value.int .i64) ((w64 _ (by omega) (by have := HO1.out.2.2.1; omega)).trans (by push_cast; rfl)), hs5⟩
        · have hge : ¬ (k : Int) < (a.n : Int) := by omega
          have HKE : Hid (k = a.n) := hid (by omega)
          go_wp2_with fail
          go_ret2
          refine ⟨some ⟨g, 0, none⟩, a.n, a.n, g, 0, by rw [HE.out]; rfl, by rw [HE.out]; rfl, ⟨fun _ => rfl, fun i hi => ?_, fun _ => HS.out.lt, by have := HO1.out.2.2.1; omega⟩, HS.out.below⟩
          have := HS.out.fl.c i hi
          rw [if_pos (by have := HKE.out; omega)] at this
          rw [Nat.zero_add]; exact this
    · have e1 : ((a.cnt : Int) != (b.cnt : Int)) = true := bne_iff_ne.2 (by omega)
      have HE := hid (apc_2 HBZ.out hcc)
      clear hcc
      go_wp2_with fail
      go_ret2
      exact ⟨none, 0, 0, 0, 0, by rw [HE.out]; rfl, by rw [HE.out]; rfl, isb_nil _ _, HBQ.out⟩
  · have e0 : (both a b != 0) = true := bne_iff_ne.2 hbo
    have HE := hid (apc_1 hbo)
    have HBZ := hid hbo
    clear hbo
    go_wp2_with fail
    go_ret2
    exact ⟨none, 0, 0, 0, 0, by rw [HE.out, if_neg HBZ.out], by rw [HE.out]; rfl, isb_nil _ _, HB1.out⟩
end Go.Proofs.Ytfidnklppbdebaa.Pcm
