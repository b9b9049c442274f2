/- Even's Put, Get, Centre and Off; the statements' fixed calls; EvenNil's and EvenCentres' walks. Conditions: those of the memory's own form alone. -/
import Derived.Test.YtfpmdfbggifjiaaEb
import Derived.Test.YtfpmdfbggifjiaaGt
import Derived.Test.YtfpmdfbggifjiaaRd2
namespace Go.Proofs.Ytfpmdfbggifjiaa.Even
open Go.RowKit Bit Rice

theorem eput_nil (v n : Int) (w : World) : Calls Try.prog 18 #[.pointer none, .int .u64 v, .int .u64 n] w fun e w' => e = .returned (.int .i64 2) ∧ Below w.heap.size w w' := by
  have hb : Below w.heap.size w (w.alloc (.cells #[.int .u64 v] 23)) := (Below.refl _ _).alloc (Nat.le_refl _) _
  have HB := hid hb
  clear hb
  go_enter Try.func18, Try.ntmps18
  go_wp2_with fail
  refine (putall_nil _ _ _).mono ?_
  rintro e w' ⟨rfl, hb1⟩
  have hfin := HB.out.trans (hb1.mono HB.out.size)
  clear hb1
  go_wp2_with fail
  go_ret
  exact ⟨rfl, hfin⟩
theorem eput_arg (p : Addr) (v : Int) (n : Nat) (hn : ¬ spn n) (w : World) : Calls Try.prog 18 #[.pointer (some p), .int .u64 v, .int .u64 (n : Int)] w fun e w' => e = .returned (.int .i64 1) ∧ Below w.heap.size w w' := by
  have hb : Below w.heap.size w (w.alloc (.cells #[.int .u64 v] 23)) := (Below.refl _ _).alloc (Nat.le_refl _) _
  have HB := hid hb
  clear hb
  go_enter Try.func18, Try.ntmps18
  go_wp2_with fail
  refine (putall_arg _ _ n hn _).mono ?_
  rintro e w' ⟨rfl, hb1⟩
  have hfin := HB.out.trans (hb1.mono HB.out.size)
  clear hb1
  go_wp2_with fail
  go_ret
  exact ⟨rfl, hfin⟩
theorem eput_range (p : Addr) (v n : Nat) (hv : v < 18446744073709551616) (hn : spn n) (hc : ¬ v < n) (w : World) : Calls Try.prog 18 #[.pointer (some p), .int .u64 (v : Int), .int .u64 (n : Int)] w fun e w' => e = .returned (.int .i64 3) ∧ Below w.heap.size w w' := by
  have hb : Below w.heap.size w (w.alloc (.cells #[.int .u64 (v : Int)] 23)) := (Below.refl _ _).alloc (Nat.le_refl _) _
  have HB := hid hb
  have HU := hid (us_new w v hv 23)
  clear hb
  go_enter Try.func18, Try.ntmps18
  go_wp2_with fail
  refine (putall_range p _ 1 _ _ _ _ n hn _ HU.out (fun h => hc (h 0 (by decide)))).mono ?_
  rintro e w' ⟨rfl, hb1⟩
  have hfin := HB.out.trans (hb1.mono HB.out.size)
  clear hb1
  go_wp2_with fail
  go_ret
  exact ⟨rfl, hfin⟩
theorem eput_ok (B p o : Nat) (v n : Nat) (hc : okv v n) (ao : Option Addr) (acap N L : Nat) (w : World) (hw : WrN w B p o ao acap N L) (hL : L ≤ 3000000000000) :
    Calls Try.prog 18 #[.pointer (some ⟨p, o, none⟩), .int .u64 (v : Int), .int .u64 (n : Int)] w (PutAllOk w B p o ao L (N * 2 ^ ct v n + cd v n, L + ct v n)) := by
  have hu : v < 18446744073709551616 := by have := hc.1.2; have := hc.2; omega
  have HU := hid (us_new w v hu 23)
  have HW := hid (Wr.alloc hw (.cells #[.int .u64 (v : Int)] 23))
  have hlt0 : ∀ g, blk ao = some g → g < w.heap.size ∧ g ≠ p := fun g hg => ⟨(hw.rlt g hg).2, fun e => hw.far (e ▸ hg)⟩
  have hpl := hw.plt
  have hP := Pushed.alloc p (fun g hg => (hlt0 g hg).1) (L / 8) (.cells #[.int .u64 (v : Int)] 23)
  have HP := hid hP
  have HLT := hid hlt0
  clear hlt0 hP
  go_enter Try.func18, Try.ntmps18
  go_wp2_with fail
  refine (putall_ok B p o _ 1 _ _ _ _ n hc.1 ao acap N L _ HW.out HU.out (fun _ => ⟨by omega, fun e => by have := (HLT.out _ e).1; omega⟩) (fun i _ => hc.2) hL (by decide)).mono ?_
  rintro e w1 ⟨rfl, ao1, cap1, hw1, hp1⟩
  have hfin : Wrote w B p o ao L (N * 2 ^ ct v n + cd v n) (L + ct v n) w1 := ⟨ao1, cap1, hw1, HP.out.trans hp1 (Nat.le_refl _) HLT.out⟩
  clear hw1 hp1
  go_wp2_with fail
  go_ret
  exact ⟨rfl, hfin⟩

/-- What Get answers, and where it leads. -/
def getE (M T p n : Nat) : Nat × Int × Nat :=
  if n = 1 then (0, 0, p) else if 8 * T < p + (lg n - 1) then (0, 10, p) else if seg M (8 * T) p (lg n - 1) < sh n then (seg M (8 * T) p (lg n - 1), 0, p + (lg n - 1)) else
    if 8 * T < p + (lg n - 1) + 1 then (0, 10, p + (lg n - 1)) else (2 * seg M (8 * T) p (lg n - 1) + seg M (8 * T) (p + (lg n - 1)) 1 - sh n, 0, p + (lg n - 1) + 1)
theorem getE_le (M T p n : Nat) (hp : p ≤ 8 * T) : (getE M T p n).2.2 ≤ 8 * T := by
  unfold getE
  repeat' split
  all_goals (try simp only []); omega

theorem get_nI {w : World} {q g M T p : Nat} (h : Rd w q g M T p) (hp : p ≤ 8 * T) (hT : T ≤ 1099511627776) (ni : Int) (n : Nat) (hni : ni = n) (hn : n ≤ 64) : Calls Try.prog 40 #[.pointer (some ⟨q, 0, none⟩), .int .i64 ni] w (GetNPost w q g M T p n) := by subst hni; exact get_n h hp hT n hn
def EGetPost (w : World) (q g M T p n : Nat) (e : Ending) (w' : World) : Prop := e = .returned (.tuple #[.int .u64 ((getE M T p n).1 : Int), .int .i64 (getE M T p n).2.1]) ∧ Rd w' q g M T (getE M T p n).2.2 ∧ Fr (fun b => b = q) w w'

theorem eget_nil (n : Int) (w : World) : Calls Try.prog 20 #[.pointer none, .int .u64 n] w fun e w' => e = .returned (.tuple #[.int .u64 0, .int .i64 2]) ∧ w = w' := by
  go_enter Try.func20, Try.ntmps20
  go_wp2_with fail
  go_ret2
  exact ⟨rfl, rfl⟩

set_option maxHeartbeats 800000 in
theorem eget_any {w : World} {q g M T p : Nat} (h : Rd w q g M T p) (hp : p ≤ 8 * T) (hT : T ≤ 1099511627776) (n : Nat) (hn : spn n) : Calls Try.prog 20 #[.pointer (some ⟨q, 0, none⟩), .int .u64 (n : Int)] w (EGetPost w q g M T p n) := by
  unfold EGetPost
  by_cases h1 : n = 1
  · subst h1
    rw [show getE M T p 1 = (0, 0, p) from if_pos rfl]
    have HR := hid h
    clear h
    go_enter Try.func20, Try.ntmps20
    go_wp2_with fail
    refine (isspan 1 w).mono ?_
    rintro e w1 ⟨rfl, rfl⟩
    rw [decide_eq_true hn]
    go_wp2_with fail
    go_ret2
    exact ⟨rfl, HR.out, Fr.refl _ _⟩
  · have hg1 : ((n : Int) == 1) = false := beq_eq_false_iff_ne.2 (by omega)
    have hsp := fun w => isspan n w
    rw [decide_eq_true hn] at hsp
    have hsh := fun w => shape_any n hn w
    have hlp := lg_pos hn h1
    have hll := lg_le hn
    have hsl := sh_lt hn h1
    have hpl : 2 ^ (lg n - 1) ≤ 2 ^ 39 := Nat.pow_le_pow_right (by decide) (by omega)
    have hge := fun (w : World) (nq : Nat) (hr : Rd (w.drewN nq) q g M T p) ni hni => get_nI hr hp hT ni (lg n - 1) hni (by omega)
    have HX1 : Hid (8 * T < p + (lg n - 1) → getE M T p n = (0, 10, p)) := hid fun h => by unfold getE; rw [if_neg h1, if_pos h]
    have HX2 : Hid (¬ 8 * T < p + (lg n - 1) → seg M (8 * T) p (lg n - 1) < sh n → getE M T p n = (seg M (8 * T) p (lg n - 1), 0, p + (lg n - 1))) := hid fun h h' => by unfold getE; rw [if_neg h1, if_neg h, if_pos h']
    have HX3 : Hid (¬ 8 * T < p + (lg n - 1) → ¬ seg M (8 * T) p (lg n - 1) < sh n → 8 * T < p + (lg n - 1) + 1 → getE M T p n = (0, 10, p + (lg n - 1))) := hid fun h h' h'' => by unfold getE; rw [if_neg h1, if_neg h, if_neg h', if_pos h'']
    have HX4 : Hid (¬ 8 * T < p + (lg n - 1) → ¬ seg M (8 * T) p (lg n - 1) < sh n → ¬ 8 * T < p + (lg n - 1) + 1 → getE M T p n = (2 * seg M (8 * T) p (lg n - 1) + seg M (8 * T) (p + (lg n - 1)) 1 - sh n, 0, p + (lg n - 1) + 1)) := hid fun h h' h'' => by unfold getE; rw [if_neg h1, if_neg h, if_neg h', if_neg h'']
    have hseg := seg_lt M (8 * T) p (lg n - 1)
    have HSP := hid hsp; have HSH := hid hsh; have HGE := hid hge; have HR := hid h
    have hl1 := hlp.1
    have hs1 := hsl.1
    have hn4 : n ≤ 1099511627776 := hn.2
    clear hsp hsh hge h hn hlp hsl
    generalize lg n = L at *
    generalize sh n = s at *
    generalize getE M T p n = x at *
    go_enter Try.func20, Try.ntmps20
    go_wp2_with fail
    refine (HSP.out w).mono ?_
    rintro e w1 ⟨rfl, rfl⟩
    go_wp2_with fail
    refine (HSH.out w).mono ?_
    rintro e w1 ⟨rfl, nq, rfl⟩
    go_wp2_with fail
    refine (HGE.out w nq (HR.out.drewN nq) _ (by omega)).mono ?_
    rintro e w2 ⟨rfl, hr2, hf2⟩
    have hf2 : Fr (fun b => b = q) w w2 := ((Fr.refl (fun b => b = q) w).drewN nq).trans hf2
    by_cases h2 : 8 * T < p + (L - 1)
    · obtain rfl := HX1.out h2
      rw [getN_end h2] at hr2 ⊢
      clear hg1
      go_wp2_with fail
      go_ret2
      exact ⟨rfl, hr2, hf2⟩
    · rw [getN_ok h2] at hr2 ⊢
      by_cases h3 : seg M (8 * T) p (L - 1) < s
      · obtain rfl := HX2.out h2 h3
        clear hg1 HX1 HX2 HX3 HX4
        generalize hv : seg M (8 * T) p (L - 1) = v at *
        have HV := hid hv
        clear hv
        have h3' : (v : Int) < (s : Int) := by omega
        go_wp2_with fail
        go_ret2
        exact ⟨congrArg (fun z : Nat => Ending.returned (.tuple #[.int .u64 (z : Int), .int .i64 0])) HV.out.symm, hr2, hf2⟩
      · have HX3' := hid fun h => HX3.out h2 h3 h
        have HX4' := hid fun h => HX4.out h2 h3 h
        clear hg1 HX1 HX2 HX3 HX4
        generalize hv : seg M (8 * T) p (L - 1) = v at *
        have HV := hid hv
        clear hv
        have h3' : ¬ (v : Int) < (s : Int) := by omega
        have hvb : v < 549755813888 := by omega
        have hg3 := get_n hr2 (by show p + (L - 1) ≤ 8 * T; omega) hT 1 (by decide)
        unfold GetNPost at hg3
        clear hr2
        simp only [] at hg3
        go_wp2_with fail
        refine hg3.mono ?_
        rintro e w3 ⟨rfl, hr3, hf3⟩
        have hf4 := hf2.trans hf3
        clear hg3 hf2 hf3
        by_cases h4 : 8 * T < p + (L - 1) + 1
        · obtain rfl := HX3'.out h4
          rw [getN_end h4] at hr3 ⊢
          go_wp2_with fail
          go_ret2
          exact ⟨rfl, hr3, hf4⟩
        · obtain rfl := HX4'.out h4
          rw [getN_ok h4] at hr3 ⊢
          have hbit := seg_lt M (8 * T) (p + (L - 1)) 1
          clear HX3' HX4'
          generalize hy : seg M (8 * T) (p + (L - 1)) 1 = y at *
          have HY := hid hy
          clear hy
          have hy2 : y ≤ 1 := by omega
          go_wp2_with fail
          go_ret2
          exact ⟨congrArg (fun z : Int => Ending.returned (.tuple #[.int .u64 z, .int .i64 0])) (by have := HV.out; have := HY.out; omega), hr3, hf4⟩

theorem us_three (w : World) (x y z : Nat) (hx : x < 18446744073709551616) (hy : y < 18446744073709551616) (hz : z < 18446744073709551616) (t : TypeId) : Us (w.alloc (.cells #[.int .u64 (x : Int), .int .u64 (y : Int), .int .u64 (z : Int)] t)) (some ⟨w.heap.size, 0, none⟩) 3 w.heap.size 0 (fun i => if i = 0 then x else if i = 1 then y else z) :=
  ⟨fun _ => rfl, fun i hi => by
      rcases (by omega : i = 0 ∨ i = 1 ∨ i = 2) with rfl | rfl | rfl
      · simp
      · simp
      · simp, fun i hi => by
      rcases (by omega : i = 0 ∨ i = 1 ∨ i = 2) with rfl | rfl | rfl
      · exact hx
      · exact hy
      · exact hz, fun _ => by simp, by decide⟩

set_option maxHeartbeats 800000 in
theorem known_true (w : World) : Calls Try.prog 9 #[] w fun e w' => e = .returned (.bool true) ∧ Below w.heap.size w w' := by
  have hw0 := new_writer' w 28 _ (Nat.le_refl _)
  have hb0 : Below w.heap.size w (w.alloc (.cells #[.slice none 0 0, .int .u64 0, .int .i64 0] 28)) := (Below.refl _ _).alloc (Nat.le_refl _) _
  have hz0 : (w.alloc (.cells #[.slice none 0 0, .int .u64 0, .int .i64 0] 28)).heap.size = w.heap.size + 1 := by simp
  have HB0 := hid hb0
  have hp : w.heap.size ≤ w.heap.size := Nat.le_refl _
  clear hb0
  go_enter Try.func9, Try.ntmps9
  go_wp2_with fail
  have hu := us_three (w.alloc (.cells #[.slice none 0 0, .int .u64 0, .int .i64 0] 28)) 2 3 4 (by decide) (by decide) (by decide) 23
  have hw1 := Wr.alloc hw0 (.cells #[.int .u64 ((2 : Nat) : Int), .int .u64 ((3 : Nat) : Int), .int .u64 ((4 : Nat) : Int)] 23)
  have hb1 := HB0.out.alloc HB0.out.size (.cells #[.int .u64 ((2 : Nat) : Int), .int .u64 ((3 : Nat) : Int), .int .u64 ((4 : Nat) : Int)] 23)
  rw [hz0] at hu
  clear hw0 HB0
  refine (putall_ok w.heap.size w.heap.size 0 _ 3 3 (w.heap.size + 1) 0 _ 5 (by decide) none 0 0 0 _ hw1 hu (fun _ => ⟨by omega, by simp [blk]⟩) (fun i hi => by
      rcases (by omega : i = 0 ∨ i = 1 ∨ i = 2) with rfl | rfl | rfl <;> decide) (by decide) (by decide)).mono ?_
  rintro e w1 ⟨rfl, ao1, cap1, h1, p1⟩
  have h5 : WrN w1 w.heap.size w.heap.size 0 ao1 cap1 183 8 := h1
  have HB1 := hid (hb1.trans (pushed_below p1 hp (fun g hg => by simp [blk] at hg) hb1.size))
  clear p1 h1 hw1 hu hz0 hb1
  go_wp2_with fail
  refine (bytes_any h5 (by decide)).mono ?_
  rintro e w2 ⟨rfl, b2, r2⟩
  have h6 : WrN w2 w.heap.size w.heap.size 0 ao1 cap1 183 8 := Wr.keep h5 (Fr.of_below b2) (by have := Wr.plt h5; omega) (fun g hg => by have := (Wr.rlt h5 g hg).2; omega)
  have HB2 := hid (HB1.out.trans (b2.mono HB1.out.size))
  clear h5 HB1 b2
  go_wp2_with fail
  refine (read_any w2 (some ⟨w1.heap.size, 0, none⟩) 1 1 183 (by decide) (fun j hj => ⟨_, rfl, by rw [Addr.add_lit, Nat.zero_add]; exact r2.cell hj⟩) (fun a ha _ => by cases ha; exact r2.lt)).mono ?_
  rintro e w3 ⟨q, rfl, hq, b3, r3⟩
  have h7 : WrN w3 w.heap.size w.heap.size 0 ao1 cap1 183 8 := Wr.keep h6 (Fr.of_below b3) (by have := Wr.plt h6; omega) (fun g hg => by have := (Wr.rlt h6 g hg).2; omega)
  have HB3 := hid (HB2.out.trans (b3.mono HB2.out.size))
  have hpq : w.heap.size < q := by have := HB2.out.size; omega
  have haq : ∀ g, blk ao1 = some g → g ≠ q := fun g hg => by have := (Wr.rlt h6 g hg).2; omega
  have HAQ := hid haq
  clear h6 HB2 r2 haq b3
  go_wp2_with fail
  refine (eget_any r3 (Nat.zero_le _) (by decide) 5 (by decide)).mono ?_
  rintro e w4 ⟨rfl, r4, f4⟩
  rw [show getE 183 1 0 5 = (2, 0, 2) from by decide]
  have h8 : WrN w4 w.heap.size w.heap.size 0 ao1 cap1 183 8 := Wr.keep h7 f4 (by omega) HAQ.out
  have HB4 := hid (HB3.out.trans ⟨f4.os, f4.tape, f4.output, f4.size, fun k hk => f4.block k (Nat.lt_of_lt_of_le hk HB3.out.size) (by omega)⟩)
  clear h7 r3 r4 f4 HB3 HAQ
  go_wp2_with fail
  refine (len_any h8 (by decide)).mono ?_
  rintro e w6 ⟨rfl, nq, rfl⟩
  have h9 : WrN (w4.drewN nq) w.heap.size w.heap.size 0 ao1 cap1 183 8 := h8.drewN nq
  have HB6 : Hid (Below w.heap.size w (w4.drewN nq)) := hid (HB4.out.trans ⟨rfl, rfl, rfl, Nat.le_refl _, fun _ _ => rfl⟩)
  clear h8 HB4
  generalize w4.drewN nq = w7 at *
  go_wp2_with fail
  refine (bytes_any h9 (by decide)).mono ?_
  rintro e w8 ⟨rfl, b8, r8⟩
  have hc := conv_row r8
  have es : strOfNums ((List.range ((8 + 7) / 8)).map fun i => (bts 183 8 i : Int)) = ⟨#[183]⟩ := by decide +kernel
  rw [es] at hc
  have hfin := HB6.out.trans (b8.mono HB6.out.size)
  clear r8 b8 h9 HB6 es
  go_wp2_with fail
  go_ret
  exact ⟨rfl, hfin⟩
end Go.Proofs.Ytfpmdfbggifjiaa.Even
