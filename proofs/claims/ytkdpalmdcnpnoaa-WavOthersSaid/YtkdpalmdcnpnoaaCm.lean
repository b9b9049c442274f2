/- Check of pcm: which sound may be, and else why not. Conditions: sound lies in memory as its lists. -/
import Derived.Test.YtkdpalmdcnpnoaaCk
namespace Go.Proofs.Ytkdpalmdcnpnoaa.Pcm
open Go.RowKit Gen

def Dat.unlike (d : Dat) : Bool := anyB (fun i => (d.ln i : Int) != (d.cnt : Int)) d.n
def Dat.far (d : Dat) : Bool := anyB (fun i => anyB (fun j => beyond (2 ^ (d.f.bits.toNat - 1)) (d.X i j)) (d.ln i)) d.n
/-- What is wrong with sound. -/
def Dat.chk (d : Dat) : Int := if ¬ d.f.right then 20 else if (d.n : Int) ≠ d.f.ch ∨ 4294967295 < d.cnt ∨ d.unlike = true then 22 else if d.far = true then 21 else 0

/-- A struct of sound in a block of its own. -/
structure Bx (W : World) (p : Nat) (d : Dat) : Prop where
  c0 : W.cell? ⟨p, 0, none⟩ = some (.int .i64 d.f.ch)
  c1 : W.cell? ⟨p, 1, none⟩ = some (.int .i64 d.f.bits)
  c2 : W.cell? ⟨p, 2, none⟩ = some (.int .i64 d.f.rate)
  c3 : W.cell? ⟨p, 3, none⟩ = some (.slice d.a d.n d.cap)
set_option maxRecDepth 20000 in
theorem Bx.lt {W : World} {p : Nat} {d : Dat} (h : Bx W p d) : p < W.heap.size := World.block_lt_of_cell? _ _ h.c0
set_option maxRecDepth 20000 in
theorem Bx.below {W W' : World} {p : Nat} {d : Dat} (h : Bx W p d) (hb : Below W.heap.size W W') : Bx W' p d :=
  ⟨(hb.cell (p := ⟨p, 0, none⟩) h.lt).trans h.c0, (hb.cell (p := ⟨p, 1, none⟩) h.lt).trans h.c1, (hb.cell (p := ⟨p, 2, none⟩) h.lt).trans h.c2, (hb.cell (p := ⟨p, 3, none⟩) h.lt).trans h.c3⟩
set_option maxRecDepth 20000 in
theorem bx_new (w : World) (d : Dat) : Bx (w.alloc (.cells #[.int .i64 d.f.ch, .int .i64 d.f.bits, .int .i64 d.f.rate, .slice d.a d.n d.cap] 26)) w.heap.size d := by
  constructor <;> simp
set_option maxRecDepth 20000 in
theorem below_new (w : World) (ob : Obj) : Below w.heap.size w (w.alloc ob) := (Below.refl _ _).alloc (Nat.le_refl _) _

set_option maxRecDepth 20000 in
set_option maxHeartbeats 1600000 in
theorem check_any (w : World) (d : Dat) (h : Snd w d) : Calls Try.prog 25 #[d.v] w fun e w' => e = .returned (.int .i64 d.chk) ∧ Below w.heap.size w w' := by
  have HCT := hid fun w' (hb : Below w.heap.size w w') => count_any w' d (h.below hb)
  have HRT := hid fun w' => right_any d.f w'
  have HB0 := hid (below_new w (.cells #[.int .i64 d.f.ch, .int .i64 d.f.bits, .int .i64 d.f.rate, .slice d.a d.n d.cap] 26))
  have HX0 := hid (bx_new w d)
  have H := hid h
  clear h
  show Calls Try.prog 25 #[.agg #[.int .i64 d.f.ch, .int .i64 d.f.bits, .int .i64 d.f.rate, .slice d.a d.n d.cap]] w _
  unfold Dat.v at HCT
  unfold Fmt.v at HRT
  go_enter Try.func25, Try.ntmps25
  go_wp2_with fail
  refine (HCT.out _ HB0.out).mono ?_
  rintro e w1 ⟨rfl, hb1⟩
  go_upto_region 4 with fail
  have hx1 := (HX0.out.below hb1).below (below_new w1 (.cells #[.int .i64 (d.cnt : Int)] 3))
  have hbw1 := HB0.out.trans (hb1.mono HB0.out.size)
  have HB2 := hid (hbw1.trans ((below_new w1 (.cells #[.int .i64 (d.cnt : Int)] 3)).mono hbw1.size))
  have hn1 : (w1.alloc (.cells #[.int .i64 (d.cnt : Int)] 3)).cell? ⟨w1.heap.size, 0, none⟩ = some (.int .i64 (d.cnt : Int)) := by simp
  clear hb1 hbw1
  generalize hpn : w1.heap.size = pn at *
  generalize (w1.alloc (.cells #[.int .i64 (d.cnt : Int)] 3)) = W2 at *
  clear hpn
  obtain ⟨b0, b1, b2, b3⟩ := hx1
  have HBX : Hid (Bx W2 w.heap.size d) := hid ⟨b0, b1, b2, b3⟩
  have HN := hid hn1
  go_wp2_with fail
  refine (HRT.out W2).mono ?_
  rintro e w3 ⟨rfl, hb3⟩
  have HB3 := hid (HB2.out.trans (hb3.mono HB2.out.size))
  have HX3 := hid (HBX.out.below hb3)
  have HN3 := hid ((hb3.cell (p := ⟨pn, 0, none⟩) (World.block_lt_of_cell? _ _ HN.out)).trans HN.out)
  clear b0 b1 b2 b3 hn1 hb3
  by_cases hr : d.f.right
  · rw [decide_eq_true hr]
    obtain ⟨b0, b1, b2, b3⟩ := HX3.out
    have hn3 := HN3.out
    by_cases h1 : (d.n : Int) = d.f.ch
    · have e1 : ((d.n : Int) != d.f.ch) = false := by rw [bne_eq_false_iff_eq]; exact h1
      by_cases h2 : 4294967295 < d.cnt
      · have e2 : (4294967295 : Int) < (d.cnt : Int) := by omega
        have HE : Hid (d.chk = 22) := hid (by unfold Dat.chk; rw [if_neg (fun h => h hr), if_pos (.inr (.inl h2))])
        clear h1 h2
        go_wp2_with fail
        go_ret
        exact ⟨congrArg (fun z : Int => Ending.returned (Value.int .i64 z)) HE.out.symm, HB3.out⟩
      · have e2 : ¬ (4294967295 : Int) < (d.cnt : Int) := by omega
        have HUL := hid (has_l (fun i => (d.ln i : Int) != (d.cnt : Int)) 54 #[.pointer (some ⟨pn, 0, none⟩)] (fun args w => Try.call54 args w) w3 d (H.out.below HB3.out) (fun i hi w' hb' => by
          refine (unlike_any (d.la i) (d.ln i) (d.lc i) (d.cnt : Int) ⟨pn, 0, none⟩ w' ((hb'.cell (p := ⟨pn, 0, none⟩) (World.block_lt_of_cell? _ _ HN3.out)).trans HN3.out)).mono ?_
          rintro e w'' ⟨rfl, rfl⟩
          exact ⟨rfl, Below.refl _ _⟩))
        have HC1 := hid h1
        have HC2 := hid h2
        clear h1 h2
        go_wp2_with fail
        refine HUL.out.mono ?_
        rintro e w4 hp
        obtain ⟨rfl, hb4⟩ := hp.any
        have HB4 := hid (HB3.out.trans (hb4.mono HB3.out.size))
        have HX4 := hid (HX3.out.below hb4)
        rw [show anyB (fun i => (d.ln i : Int) != (d.cnt : Int)) d.n = d.unlike from rfl]
        clear hp hb4 b0 b1 b2 b3 hn3
        obtain ⟨b0, b1, b2, b3⟩ := HX4.out
        cases hu : d.unlike with
        | true =>
          have HE : Hid (d.chk = 22) := hid (by unfold Dat.chk; rw [if_neg (fun h => h hr), if_pos (.inr (.inr hu))])
          clear hu
          go_wp2_with fail
          go_ret
          exact ⟨congrArg (fun z : Int => Ending.returned (Value.int .i64 z)) HE.out.symm, HB4.out⟩
        | false =>
          have hno : ¬ ((d.n : Int) ≠ d.f.ch ∨ 4294967295 < d.cnt ∨ d.unlike = true) := by
            rintro (h | h | h)
            · exact h HC1.out
            · exact HC2.out h
            · rw [hu] at h; cases h
          have hbits : ∃ m : Nat, d.f.bits = ((m + 1 : Nat) : Int) ∧ m ≤ 61 ∧ d.f.bits.toNat - 1 = m := ⟨d.f.bits.toNat - 1, by have := hr.2.1; omega, by have := hr.2.1; omega, rfl⟩
          obtain ⟨m, hm1, hm2, hm3⟩ := hbits
          have HFR := hid (has_l (fun i => anyB (fun j => beyond (2 ^ m) (d.X i j)) (d.ln i)) 55 #[.pointer (some ⟨w.heap.size, 0, none⟩)] (fun args w => Try.call55 args w) w4 d (H.out.below HB4.out) (fun i hi w' hb' =>
            beyond_any w' (d.la i) (d.ln i) (d.lc i) (d.X i) (((H.out.below HB4.out).l i hi).below hb') m (2 ^ m) hm2 rfl w.heap.size ((HX4.out.below hb').c1.trans (by rw [hm1]))))
          have HF : Hid (anyB (fun i => anyB (fun j => beyond (2 ^ m) (d.X i j)) (d.ln i)) d.n = d.far) := hid (by unfold Dat.far; rw [hm3])
          have HE : Hid (d.chk = if d.far = true then 21 else 0) := hid (by unfold Dat.chk; rw [if_neg (fun h => h hr), if_neg hno])
          clear hno hu hm1 hm3
          go_wp2_with fail
          refine HFR.out.mono ?_
          rintro e w5 hp
          obtain ⟨rfl, hb5⟩ := hp.any
          rw [HF.out]
          have HB5 := hid (HB4.out.trans (hb5.mono HB4.out.size))
          clear hp hb5 b0 b1 b2 b3 HF HFR
          cases hf : d.far with
          | true =>
            rw [hf, if_pos rfl] at HE
            clear hf
            go_wp2_with fail
            go_ret
            exact ⟨congrArg (fun z : Int => Ending.returned (Value.int .i64 z)) HE.out.symm, HB5.out⟩
          | false =>
            rw [hf, if_neg (by decide)] at HE
            clear hf
            go_wp2_with fail
            go_ret
            exact ⟨congrArg (fun z : Int => Ending.returned (Value.int .i64 z)) HE.out.symm, HB5.out⟩
    · have e1 : ((d.n : Int) != d.f.ch) = true := bne_iff_ne.2 h1
      have HE : Hid (d.chk = 22) := hid (by unfold Dat.chk; rw [if_neg (fun h => h hr), if_pos (.inl h1)])
      clear h1
      go_wp2_with fail
      go_ret
      exact ⟨congrArg (fun z : Int => Ending.returned (Value.int .i64 z)) HE.out.symm, HB3.out⟩
  · rw [decide_eq_false hr]
    have HE : Hid (d.chk = 20) := hid (if_pos hr)
    clear hr
    go_wp2_with fail
    go_ret
    exact ⟨congrArg (fun z : Int => Ending.returned (Value.int .i64 z)) HE.out.symm, HB3.out⟩
end Go.Proofs.Ytkdpalmdcnpnoaa.Pcm
