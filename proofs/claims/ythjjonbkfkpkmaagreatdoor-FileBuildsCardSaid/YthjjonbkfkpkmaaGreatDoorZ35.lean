/- FileBuilds' walk: any parts are put together as the document says, or refused. Condition: the two tables of unicode/utf8 lie as their initialisers lay them. -/
import Derived.Test.YthjjonbkfkpkmaaGreatDoorZ26
import Derived.Test.YthjjonbkfkpkmaaGreatDoorZxFl
import Derived.Test.YthjjonbkfkpkmaaGreatDoorZ14
import Derived.Test.YthjjonbkfkpkmaaGreatDoorZ06
import Derived.Test.YthjjonbkfkpkmaaGreatDoorRows
import Derived.ProofKit
import Derived.OpenShut
import Derived.Deep.Slices
import Derived.Deep.Matrix
import Derived.Deep.Strs
import Derived.Test.YthjjonbkfkpkmaaGreatDoorZ25
import Derived.Test.YthjjonbkfkpkmaaGreatDoorZ20
import Derived.Lib.LaidIn
import Derived.Lib.LaidU8T
import Derived.LaidLaws
import Derived.LaidMore
namespace Go.Proofs.YthjjonbkfkpkmaaGreatDoor.Fil
open Go.RowKit Gen
open Tl (il il_app rise TRt)
attribute [local go_sem] Oper.semAt_some

set_option maxHeartbeats 4000000 in
set_option maxRecDepth 100000 in
theorem builds_walk (w : World) (hT : Tg.Tabs w) (i : Inf.If) {a : Option Addr} {len b off capt : Nat} {T : Nat → Tg.Tag} (hl : Tg.Tb w a len b off T) (hct : len ≤ capt) (hlm : len ≤ 9223372036854775807)
    {ab : Option Addr} {n bb bo capb : Nat} {L : Nat → List Nat} (hb : Bb w ab n bb bo L) (hnm : n ≤ 9223372036854775807) {s : Nat} (hs : s < 4294967296) :
    Calls Tryz.prog 3 #[Inf.iv i, .slice a len capt, .slice ab n capb, .int .u32 (s : Int)] w fun e w' => e = .returned (.bool true) ∧ Below w.heap.size w w' := by
  have hb0 := Inf.below_new w (.cells (Inf.ivl i) 25)
  have HB0 := hid hb0
  have HF1 := hid (Tg.few_any (w.alloc (.cells (Inf.ivl i) 25)) (hl.keep hb0) hlm capt)
  have HF2 := hid fun (w' : World) (hbw : Below w.heap.size w w') => rfew_any w' (hb.keep hbw) hnm capb
  have HK := hid fun (w' : World) (hbw : Below w.heap.size w w') => known_true w' (hT.keep hbw)
  have HM := hid fun w => Crc.make_any w
  have HBD := hid fun (w' : World) (g : Nat) (ht : Crc.Tab w' g) (hbw : Below w.heap.size w w') (hz : Tg.Sz T len) (hf : Fwb L n) => build_any (capb := capb) ht (hT.keep hbw) i (hl.keep hbw) hz hct (hb.keep hbw) hf hs
  have HRB := hid fun (w' : World) (hbw : Below w.heap.size w w') (hz : Tg.Sz T len) (hf : Fwb L n) => rbuild_any (capb := capb) i (hl.keep hbw) hz hct (hb.keep hbw) hf hs
  have HX := hid (Inf.Bx.new w i)
  clear hT hl hb hb0
  obtain ⟨ik, ⟨ich, ibits, irate⟩, ibk, ish⟩ := i
  change Calls Tryz.prog 3 #[.agg #[.int .i64 ik, .int .i64 ich, .int .i64 ibits, .int .i64 irate, .int .i64 ibk, .int .i64 ish], .slice a len capt, .slice ab n capb, .int .u32 (s : Int)] w _
  change Hid (Calls Tryz.prog 6 _ (w.alloc (.cells #[.int .i64 ik, .int .i64 ich, .int .i64 ibits, .int .i64 irate, .int .i64 ibk, .int .i64 ish] 25)) _) at HF1
  change Hid (Below w.heap.size w (w.alloc (.cells #[.int .i64 ik, .int .i64 ich, .int .i64 ibits, .int .i64 irate, .int .i64 ibk, .int .i64 ish] 25))) at HB0
  change Hid (Inf.Bx (w.alloc (.cells #[.int .i64 ik, .int .i64 ich, .int .i64 ibits, .int .i64 irate, .int .i64 ibk, .int .i64 ish] 25)) w.heap.size ⟨ik, ⟨ich, ibits, irate⟩, ibk, ish⟩) at HX
  by_cases f1 : Tg.Fw T len
  rotate_left 1
  · rw [decide_eq_false f1] at HF1
    go_enter Tryz.func3, Tryz.ntmps3
    go_wp2_with fail
    refine HF1.out.mono ?_
    rintro e w1 ⟨rfl, hb1⟩
    have HB1 := hid (HB0.out.trans (hb1.mono HB0.out.size))
    clear hb1
    go_wp2_with fail
    refine (HK.out _ HB1.out).mono ?_
    rintro e w2 ⟨rfl, hb2⟩
    have HB2 := hid (HB1.out.trans (hb2.mono HB1.out.size))
    clear hb2
    go_wp2_with fail
    go_ret
    exact ⟨rfl, HB2.out⟩
  rw [decide_eq_true f1] at HF1
  by_cases f2 : Fwb L n
  rotate_left 1
  · rw [decide_eq_false f2] at HF2
    go_enter Tryz.func3, Tryz.ntmps3
    go_wp2_with fail
    refine HF1.out.mono ?_
    rintro e w1 ⟨rfl, hb1⟩
    have HB1 := hid (HB0.out.trans (hb1.mono HB0.out.size))
    clear hb1
    go_wp2_with fail
    refine (HF2.out _ HB1.out).mono ?_
    rintro e w1' ⟨rfl, rfl⟩
    go_wp2_with fail
    refine (HK.out _ HB1.out).mono ?_
    rintro e w2 ⟨rfl, hb2⟩
    have HB2 := hid (HB1.out.trans (hb2.mono HB1.out.size))
    clear hb2
    go_wp2_with fail
    go_ret
    exact ⟨rfl, HB2.out⟩
  rw [decide_eq_true f2] at HF2
  have hsz := f1.sz
  go_enter Tryz.func3, Tryz.ntmps3
  go_wp2_with fail
  refine HF1.out.mono ?_
  rintro e w1 ⟨rfl, hb1⟩
  have HB1 := hid (HB0.out.trans (hb1.mono HB0.out.size))
  have HX1 := hid (HX.out.below hb1 HX.out.lt)
  clear hb1 HX HB0 HF1
  go_wp2_with fail
  refine (HF2.out _ HB1.out).mono ?_
  rintro e w1' ⟨rfl, rfl⟩
  clear HF2
  go_wp2_with fail
  have HX2 := hid (show Inf.Bx w1.drew w.heap.size ⟨ik, ⟨ich, ibits, irate⟩, ibk, ish⟩ from ⟨HX1.out.row⟩)
  have HB2 := hid HB1.out.drew
  generalize bdE ⟨ik, ⟨ich, ibits, irate⟩, ibk, ish⟩ T len L n = E at *
  generalize bdB ⟨ik, ⟨ich, ibits, irate⟩, ibk, ish⟩ T len L n s = R at *
  have HTT : Hid (∀ l, Pcm.Till (fun w' => Inf.Bx w' w.heap.size ⟨ik, ⟨ich, ibits, irate⟩, ibk, ish⟩) (fun _ => True) 99 l w1.drew) := hid fun l => ⟨HX2.out, fun _ => trivial⟩
  refine Pcm.region_T (T := Pcm.Till (fun w' => Inf.Bx w' w.heap.size ⟨ik, ⟨ich, ibits, irate⟩, ibk, ish⟩) (fun _ => True) 99) (by kernel_rfl) ?_
  refine Pcm.take_1 (i := 1) (oi := ({ dst := some 24, op := Op.load 25 (Operand.tmp 4), type := 25, pos := _, after := #[], guard := none } : Oper)) (v := .agg #[.int .i64 ik, .int .i64 ich, .int .i64 ibits, .int .i64 irate, .int .i64 ibk, .int .i64 ish]) rfl (by kernel_rfl) (by kernel_rfl) (by kernel_rfl) (by decide) (fun _ _ _ h => h) (HTT.out _) (.inl ⟨by rfl, fun w' hSw => ?_⟩) ?_
  · (try dsimp only at hSw)
    have x0 := hSw.c0
    have x1 := hSw.c1
    have x2 := hSw.c2
    have x3 := hSw.c3
    have x4 := hSw.c4
    have x5 := hSw.c5
    clear hSw
    go_simp
  (try simp only [Act.put, List.setIfInBounds_toArray, List.set_cons_zero, List.set_cons_succ])
  refine Pcm.take_1 (i := 2) (oi := ({ dst := some 25, op := Op.move (Operand.tmp 1), type := 26, pos := _, after := #[], guard := none } : Oper)) (v := .slice a len capt) rfl (by kernel_rfl) (by kernel_rfl) (by kernel_rfl) (by decide) (fun _ _ _ h => h) (HTT.out _) (.inl ⟨by rfl, fun w' hSw => ?_⟩) ?_
  · (try dsimp only at hSw)
    go_simp
  (try simp only [Act.put, List.setIfInBounds_toArray, List.set_cons_zero, List.set_cons_succ])
  refine Pcm.take_1 (i := 3) (oi := ({ dst := some 26, op := Op.move (Operand.tmp 2), type := 27, pos := _, after := #[], guard := none } : Oper)) (v := .slice ab n capb) rfl (by kernel_rfl) (by kernel_rfl) (by kernel_rfl) (by decide) (fun _ _ _ h => h) (HTT.out _) (.inl ⟨by rfl, fun w' hSw => ?_⟩) ?_
  · (try dsimp only at hSw)
    go_simp
  (try simp only [Act.put, List.setIfInBounds_toArray, List.set_cons_zero, List.set_cons_succ])
  refine Pcm.take_1 (i := 4) (oi := ({ dst := some 27, op := Op.move (Operand.tmp 3), type := 28, pos := _, after := #[], guard := none } : Oper)) (v := .int .u32 (s : Int)) rfl (by kernel_rfl) (by kernel_rfl) (by kernel_rfl) (by decide) (fun _ _ _ h => h) (HTT.out _) (.inl ⟨by rfl, fun w' hSw => ?_⟩) ?_
  · (try dsimp only at hSw)
    go_simp
  (try simp only [Act.put, List.setIfInBounds_toArray, List.set_cons_zero, List.set_cons_succ])
  refine Pcm.anyT_one (i := 0) (o := ({ dst := some 23, op := Op.call { callee := Callee.value (Operand.func 10), args := #[], argTypes := #[] }, type := 36, pos := _, after := #[], guard := none } : Oper)) (by kernel_rfl) rfl (fun K HK2 => ?_)
  go_simp
  refine (HM.out _).mono ?_
  rintro e w3 ⟨rfl, htab, hb3⟩
  have HX3 := hid (HX2.out.below hb3 HX2.out.lt)
  have HB3 := hid (HB2.out.trans (hb3.mono HB2.out.size))
  have HBC := hid (HBD.out w3 _ htab HB3.out hsz f2)
  clear hb3 htab
  refine HK2.out _ _ ⟨HX3.out, fun _ => trivial⟩ ?_
  clear HK2 K
  (try simp only [Act.put, List.setIfInBounds_toArray, List.set_cons_zero, List.set_cons_succ])
  refine Pcm.anyT_one (i := 5) (o := ({ dst := some 28, op := Op.call { callee := Callee.value (Operand.func 9), args := #[Operand.tmp 23, Operand.tmp 24, Operand.tmp 25, Operand.tmp 26, Operand.tmp 27], argTypes := #[36, 25, 26, 27, 28] }, type := 34, pos := _, after := #[{ on := 0, ground := Ground.data }, { on := 1, ground := Ground.data }, { on := 2, ground := Ground.data }, { on := 3, ground := Ground.data }, { on := 4, ground := Ground.data }, { on := 0, ground := Ground.chain }], guard := none } : Oper)) (by kernel_rfl) rfl (fun K HK2 => ?_)
  go_simp
  refine HBC.out.mono ?_
  rintro e w4 ⟨ao, ca, rfl, hby, hcl, hnn, hnw, hb4⟩
  have HX4 := hid (HX3.out.below hb4 HX3.out.lt)
  have HB4 := hid (HB3.out.trans (hb4.mono HB3.out.size))
  have HBY4 := hid hby
  clear hby hcl hnn hnw hb4
  refine HK2.out _ _ ⟨HX4.out, fun _ => trivial⟩ ?_
  have HTT : Hid (∀ l, Pcm.Till (fun w' => Inf.Bx w' w.heap.size ⟨ik, ⟨ich, ibits, irate⟩, ibk, ish⟩) (fun _ => True) 99 l w4) := hid fun l => ⟨HX4.out, fun _ => trivial⟩
  clear HK2 K HBC
  (try simp only [Act.put, List.setIfInBounds_toArray, List.set_cons_zero, List.set_cons_succ])
  refine Pcm.take_1 (i := 6) (oi := ({ dst := some 22, op := Op.move (Operand.tmp 28), type := 34, pos := _, after := #[{ on := 5, ground := Ground.data }], guard := none } : Oper)) (v := .tuple #[.slice ao R.length ca, .int .i64 E]) rfl (by kernel_rfl) (by kernel_rfl) (by kernel_rfl) (by decide) (fun _ _ _ h => h) (HTT.out _) (.inl ⟨by rfl, fun w' hSw => ?_⟩) ?_
  · (try dsimp only at hSw)
    go_simp
  (try simp only [Act.put, List.setIfInBounds_toArray, List.set_cons_zero, List.set_cons_succ])
  refine Pcm.take_1 (i := 7) (oi := ({ dst := some 29, op := Op.extract (Operand.tmp 22) 0, type := 32, pos := _, after := #[{ on := 6, ground := Ground.data }], guard := none } : Oper)) (v := .slice ao R.length ca) rfl (by kernel_rfl) (by kernel_rfl) (by kernel_rfl) (by decide) (fun _ _ _ h => h) (HTT.out _) (.inl ⟨by rfl, fun w' hSw => ?_⟩) ?_
  · (try dsimp only at hSw)
    go_simp
  (try simp only [Act.put, List.setIfInBounds_toArray, List.set_cons_zero, List.set_cons_succ])
  refine Pcm.take_1 (i := 8) (oi := ({ dst := some 30, op := Op.extract (Operand.tmp 22) 1, type := 33, pos := _, after := #[{ on := 6, ground := Ground.data }, { on := 9, ground := Ground.gcOnly Departure.lateStores }], guard := none } : Oper)) (v := .int .i64 E) rfl (by kernel_rfl) (by kernel_rfl) (by kernel_rfl) (by decide) (fun _ _ _ h => h) (HTT.out _) (.inl ⟨by rfl, fun w' hSw => ?_⟩) ?_
  · (try dsimp only at hSw)
    go_simp
  (try simp only [Act.put, List.setIfInBounds_toArray, List.set_cons_zero, List.set_cons_succ])
  refine Pcm.take_1 (i := 9) (oi := ({ dst := some 9, op := Op.assign (Operand.tmp 29), type := 32, pos := _, after := #[{ on := 7, ground := Ground.data }, { on := 5, ground := Ground.chain }, { on := 0, ground := Ground.phase }, { on := 1, ground := Ground.phase }, { on := 2, ground := Ground.phase }, { on := 3, ground := Ground.phase }, { on := 4, ground := Ground.phase }, { on := 5, ground := Ground.phase }, { on := 6, ground := Ground.phase }, { on := 7, ground := Ground.phase }, { on := 8, ground := Ground.textOnly Departure.lateStores }], guard := none } : Oper)) (v := .slice ao R.length ca) rfl (by kernel_rfl) (by kernel_rfl) (by kernel_rfl) (by decide) (fun _ _ _ h => h) (HTT.out _) (.inl ⟨by rfl, fun w' hSw => ?_⟩) ?_
  · (try dsimp only at hSw)
    go_simp
  (try simp only [Act.put, List.setIfInBounds_toArray, List.set_cons_zero, List.set_cons_succ])
  refine Pcm.take_1 (i := 10) (oi := ({ dst := some 10, op := Op.assign (Operand.tmp 30), type := 33, pos := _, after := #[{ on := 8, ground := Ground.data }, { on := 9, ground := Ground.chain }, { on := 0, ground := Ground.phase }, { on := 1, ground := Ground.phase }, { on := 2, ground := Ground.phase }, { on := 3, ground := Ground.phase }, { on := 4, ground := Ground.phase }, { on := 5, ground := Ground.phase }, { on := 6, ground := Ground.phase }, { on := 7, ground := Ground.phase }, { on := 8, ground := Ground.phase }, { on := 9, ground := Ground.phase }], guard := none } : Oper)) (v := .int .i64 E) rfl (by kernel_rfl) (by kernel_rfl) (by kernel_rfl) (by decide) (fun _ _ _ h => h) (HTT.out _) (.inl ⟨by rfl, fun w' hSw => ?_⟩) ?_
  · (try dsimp only at hSw)
    go_simp
  (try simp only [Act.put, List.setIfInBounds_toArray, List.set_cons_zero, List.set_cons_succ])
  refine Pcm.anyT_done (by kernel_rfl) ?_ _
  have x0 := HX4.out.c0
  have x1 := HX4.out.c1
  have x2 := HX4.out.c2
  have x3 := HX4.out.c3
  have x4 := HX4.out.c4
  have x5 := HX4.out.c5
  go_wp2_with fail
  refine (HRB.out w4 HB4.out hsz f2).mono ?_
  rintro e w5 ⟨a2, c2, rfl, hby5, _, _, _, hb5⟩
  have HB5 := hid (HB4.out.trans (hb5.mono HB4.out.size))
  have cv1 := (HBY4.out.keep hb5).conv ca
  have cv2 := hby5.conv c2
  clear hb5 hby5 x0 x1 x2 x3 x4 x5
  generalize R.length = RL at *
  go_wp2_with fail
  refine (HK.out w5 HB5.out).mono ?_
  rintro e w6 ⟨rfl, hb6⟩
  have HB6 := hid (HB5.out.trans (hb6.mono HB5.out.size))
  clear hb6
  go_wp2_with fail
  go_ret
  exact ⟨rfl, HB6.out⟩
end Go.Proofs.YthjjonbkfkpkmaaGreatDoor.Fil
namespace Go.Proofs.YthjjonbkfkpkmaaGreatDoor.Inf
open Go.ChangeShapes Go.WideShapes Go.ChangeAt Go.RowKit Gen Pcm

set_option maxRecDepth 100000 in
theorem cells25 : Tryz.prog.cellsOf 25 = 6 := by kernel_rfl
set_option maxRecDepth 100000 in
theorem cells23 : Tryz.prog.cellsOf 23 = 3 := by kernel_rfl
set_option maxRecDepth 100000 in
theorem cells3 : Tryz.prog.cellsOf 3 = 1 := by kernel_rfl
set_option maxRecDepth 100000 in
theorem cells5 : Tryz.prog.cellsOf 5 = 1 := by kernel_rfl
set_option maxRecDepth 100000 in
theorem open_bytes {H : Type} {enc : TypeId × Value → H} {W : World} {spare : Nat → Bool} {held : Bool} {fuel : Nat} {a : Option Addr} {len cap : Nat} {x : DataW H × List MemPlace}
    (hf : DataW.trod enc Tryz.prog W 0 spare held fuel 32 [.slice a len cap] = some x) : ∃ L : List Nat, L.length = len ∧ Byts W a L ∧ len ≤ cap ∧ cap ≤ 9223372036854775807 ∧ (a = none → len = 0 ∧ cap = 0) := by
  rcases Deep.open_slice Tryz.underlying32 hf with ⟨hcs, _⟩ | ⟨a', l, c, m, n, D, Pl, hcs, _, hlc, hcm, hm, _, hel⟩
  · simp at hcs
    obtain ⟨rfl, rfl, rfl⟩ := hcs
    exact ⟨[], rfl, Byts.nil _ _, Nat.le_refl _, by decide, fun _ => ⟨rfl, rfl⟩⟩
  · simp at hcs
    obtain ⟨rfl, rfl, rfl⟩ := hcs
    have hmx : maxLen = 9223372036854775807 := rfl
    have hlm : len ≤ m := by rw [hm]; split <;> omega
    by_cases h0 : len = 0
    · subst h0
      exact ⟨[], rfl, Byts.nil _ _, hlc, by omega, fun e => by cases e⟩
    rw [cells5] at hel
    have each : ∀ i, i < len → ∃ y : Nat, W.cell? ((a'.add (i * 1)).add 0) = some (.int .u8 (y : Int)) ∧ y < 256 := by
      intro i hi
      obtain ⟨cs', h1, h2⟩ := hel i (by omega)
      obtain ⟨_, hl3, hcell⟩ := World.cells?_some h1
      obtain ⟨k0, e0, _, w0⟩ := DataW.trod_int Tryz.underlying5 h2
      subst e0
      have hb := bounds_u8 w0
      refine ⟨k0.toNat, ?_, by omega⟩
      rw [hcell 0 (by omega)]
      simp; omega
    obtain ⟨b, off, spot⟩ := a'
    obtain ⟨y, hy⟩ := Deep.choose_lt each
    have hspot : spot = none := by
      have := (hy 0 (by omega)).1
      simpa [Addr.add] using World.cell?_spot this
    subst hspot
    have ea : ∀ i, ((⟨b, off, none⟩ : Addr).add (i * 1)).add 0 = ⟨b, off + i, none⟩ := fun i => by rw [Addr.add_lit, Addr.add_lit]; simp
    refine ⟨(List.range len).map y, by simp, ⟨fun z hz => ?_, fun j z hj => ⟨b, off, rfl, ?_⟩⟩, hlc, by omega, fun e => by cases e⟩
    · obtain ⟨i, hi, rfl⟩ := List.mem_map.1 hz
      exact (hy i (List.mem_range.1 hi)).2
    · rw [List.getElem?_map] at hj
      by_cases hjl : j < len
      · rw [List.getElem?_range hjl] at hj
        cases hj
        have := (hy j hjl).1; rw [ea] at this; exact this
      · rw [List.getElem?_eq_none (by simpa using Nat.le_of_not_lt hjl)] at hj
        cases hj
set_option maxRecDepth 100000 in
theorem form_open {H : Type} {enc : TypeId × Value → H} {W : World} {b0 : Nat} {v : Value} {d : DataW H} {p : List MemPlace} (hv0 : Value.okWide Tryz.prog W .any b0 23 v) (h : DataW.Trod enc Tryz.prog W 0 (fun _ => true) true 23 v d p) :
    ∃ x : Fmt, v = x.v ∧ True := by
  obtain ⟨cs, rfl, hsz⟩ := okWide_struct Tryz.underlying23 hv0
  rw [cells23] at hsz
  obtain ⟨l⟩ := cs
  match l, hsz with
  | [c0, c1, c2], _ =>
  obtain ⟨fuel, hf⟩ := h
  obtain ⟨z0, z1, z2, m', _, _, h0, h1, h2⟩ := Deep.trod_struct3 Tryz.underlying23 hf
  simp [Value.cells, cells3] at h0 h1 h2
  obtain ⟨ch, e0, _, _⟩ := DataW.trod_int Tryz.underlying3 h0
  obtain ⟨bits, e1, _, _⟩ := DataW.trod_int Tryz.underlying3 h1
  obtain ⟨rate, e2, _, _⟩ := DataW.trod_int Tryz.underlying3 h2
  simp at e0 e1 e2
  subst e0 e1 e2
  exact ⟨⟨ch, bits, rate⟩, rfl, trivial⟩
set_option maxRecDepth 100000 in
theorem info_open {H : Type} {enc : TypeId × Value → H} {W : World} {b0 : Nat} {v : Value} {d : DataW H} {p : List MemPlace} (hv0 : Value.okWide Tryz.prog W .any b0 25 v) (h : DataW.Trod enc Tryz.prog W 0 (fun _ => true) true 25 v d p) :
    ∃ x : If, v = iv x ∧ True := by
  obtain ⟨cs, rfl, hsz⟩ := okWide_struct Tryz.underlying25 hv0
  rw [cells25] at hsz
  obtain ⟨l⟩ := cs
  match l, hsz with
  | [c0, c1, c2, c3, c4, c5], _ =>
  obtain ⟨fuel, hf⟩ := h
  obtain ⟨xs, n, _, hx, hl, hlen, hfd⟩ := DataW.trod_struct Tryz.underlying25 hf
  have h0 := hfd 0 _ rfl
  have h1 := hfd 1 _ rfl
  have h2 := hfd 2 _ rfl
  have h3 := hfd 3 _ rfl
  match xs, hlen with
  | [y0, y1, y2, y3], _ =>
  simp [Value.cells, cells3, cells23] at h0 h1 h2 h3
  obtain ⟨z0, z1, z2, m', _, _, g0, g1, g2⟩ := Deep.trod_struct3 Tryz.underlying23 h1
  simp [cells3] at g0 g1 g2
  obtain ⟨k, e0, _, _⟩ := DataW.trod_int Tryz.underlying3 h0
  obtain ⟨ch, e1, _, _⟩ := DataW.trod_int Tryz.underlying3 g0
  obtain ⟨bits, e2, _, _⟩ := DataW.trod_int Tryz.underlying3 g1
  obtain ⟨rate, e3, _, _⟩ := DataW.trod_int Tryz.underlying3 g2
  obtain ⟨bk, e4, _, _⟩ := DataW.trod_int Tryz.underlying3 h2
  obtain ⟨sh, e5, _, _⟩ := DataW.trod_int Tryz.underlying3 h3
  simp at e0 e1 e2 e3 e4 e5
  subst e0 e1 e2 e3 e4 e5
  exact ⟨⟨k, ⟨ch, bits, rate⟩, bk, sh⟩, rfl, trivial⟩
end Go.Proofs.YthjjonbkfkpkmaaGreatDoor.Inf
namespace Go.Proofs.YthjjonbkfkpkmaaGreatDoor.Fil
open Go.ChangeShapes Go.WideShapes Go.ChangeAt Go.RowKit Gen

theorem cells32 : Tryz.prog.cellsOf 32 = 1 := by kernel_rfl
set_option maxRecDepth 100000 in
theorem open_blocks {H : Type} {enc : TypeId × Value → H} {W : World} {spare : Nat → Bool} {held : Bool} {fuel : Nat} {a : Option Addr} {len cap : Nat} {x : DataW H × List MemPlace}
    (hf : DataW.trod enc Tryz.prog W 0 spare held fuel 27 [.slice a len cap] = some x) : ∃ b off L, Bb W a len b off L ∧ len ≤ 9223372036854775807 := by
  rcases Deep.open_slice Tryz.underlying27 hf with ⟨hcs, _⟩ | ⟨a', l, c, m, n, D, Pl, hcs, _, hlc, hcm, hm, _, hel⟩
  · simp at hcs
    obtain ⟨rfl, rfl, rfl⟩ := hcs
    exact ⟨0, 0, fun _ => [], ⟨by omega, by omega⟩, by omega⟩
  · simp at hcs
    obtain ⟨rfl, rfl, rfl⟩ := hcs
    have hmx : maxLen = 9223372036854775807 := rfl
    have hlm : len ≤ m := by rw [hm]; split <;> omega
    by_cases h0 : len = 0
    · subst h0
      exact ⟨0, 0, fun _ => [], ⟨by omega, by omega⟩, by omega⟩
    rw [cells32] at hel
    have each : ∀ i, i < len → ∃ y : Option Addr × Nat × List Nat, W.cell? ((a'.add (i * 1)).add 0) = some (.slice y.1 y.2.2.length y.2.1) ∧ Byts W y.1 y.2.2 ∧ y.2.2.length ≤ y.2.1 := by
      intro i hi
      obtain ⟨cs', h1, h2⟩ := hel i (by omega)
      obtain ⟨_, hl3, hcell⟩ := World.cells?_some h1
      have key : ∃ a2 l2 c2, cs' = [.slice a2 l2 c2] := by
        rcases Deep.open_slice Tryz.underlying32 h2 with ⟨hcs2, _⟩ | ⟨a2, l2, c2, _, _, _, _, hcs2, _⟩
        · exact ⟨none, 0, 0, hcs2⟩
        · exact ⟨some a2, l2, c2, hcs2⟩
      obtain ⟨a2, l2, c2, rfl⟩ := key
      obtain ⟨L2, hl2, hb2, hc2, _, _⟩ := Inf.open_bytes h2
      have hc0 := hcell 0 (by simp)
      refine ⟨(a2, c2, L2), ?_, hb2, ?_⟩
      · rw [hc0]; simp [hl2]
      · show L2.length ≤ c2; omega
    obtain ⟨b, off, spot⟩ := a'
    obtain ⟨y, hy⟩ := Deep.choose_lt each
    have hspot : spot = none := by
      have := (hy 0 (by omega)).1
      simpa [Addr.add] using World.cell?_spot this
    subst hspot
    have ea : ∀ i, ((⟨b, off, none⟩ : Addr).add (i * 1)).add 0 = ⟨b, off + i, none⟩ := fun i => by rw [Addr.add_lit, Addr.add_lit]; simp
    refine ⟨b, off, fun i => (y i).2.2, ⟨fun _ => rfl, fun i hi => ⟨(y i).1, (y i).2.1, ?_, (hy i hi).2.1, (hy i hi).2.2⟩⟩, by omega⟩
    have := (hy i hi).1; rw [ea] at this; exact this
end Go.Proofs.YthjjonbkfkpkmaaGreatDoor.Fil
namespace Go.Proofs.YthjjonbkfkpkmaaGreatDoor.Tg
open Go.Shelf Go.RowKit Go.Lib
set_option maxRecDepth 100000

set_option maxRecDepth 100000 in
theorem first_eq : Rows.laid_unicode_utf8_first = Lib.firstData := by kernel_rfl
set_option maxRecDepth 100000 in
theorem accept_eq : (Rows.laid_unicode_utf8_acceptRanges : DataW Unit) = Lib.acceptData := by kernel_rfl
/-- What the rows list. -/
def listed : List (String × DataW Unit) := Rows.fileBuildsRow.laid
/-- A world in which the two tables lie as their initialisers lay them. -/
noncomputable def laidWorld (os : Os) : World :=
  let w0 := World.holding Tryz.prog os ⟨#[], #[], []⟩
  let put (h : Array Obj) (g : Nat) (cs : Array Value) : Array Obj := h.modify g fun
    | .cells _ t frozen => .cells cs t frozen
    | o => o
  let h1 := put w0.heap 1 (Lib.firstTab.map fun z => Value.int .u8 z).toArray
  let h2 := put h1 2 ((List.range 16).flatMap fun i => [Value.int .u8 (Lib.accLo i), Value.int .u8 (Lib.accHi i)]).toArray
  { w0 with heap := h2 }
set_option maxRecDepth 100000 in
theorem laid_met (os : Os) (args : Array Value) : laidMet Tryz.prog listed ((laidWorld os).forCall (fun _ _ => 0) ⟨#[], args, []⟩).memory :=
  (LaidIn.of_run (l := listed) [2, 1] 8 (by kernel_rfl) (by kernel_rfl) (by kernel_rfl) (by kernel_rfl)).met
set_option maxRecDepth 100000 in
theorem laidH_met (os : Os) (args : Array Value) : laidMetH Tryz.prog listed ((laidWorld os).forCall (fun _ _ => 0) ⟨#[], args, []⟩).memory := laid_met os args
set_option maxRecDepth 100000 in
theorem tabs_of_laid {W : World} (h : laidMetH Tryz.prog listed W) : Tabs W := by
  have hL : laidMet Tryz.prog listed W := h
  have h1 := Lib.laidMet.reads hL (.head _)
  have h2 := Lib.laidMet.reads hL (.tail _ (.head _))
  rw [accept_eq] at h1
  rw [first_eq] at h2
  exact utf8Tabs_of_readsT (U8Types.of196 vlay) ⟨by kernel_rfl, by kernel_rfl, by kernel_rfl, by kernel_rfl, by kernel_rfl, by kernel_rfl, by kernel_rfl⟩ h2 h1
end Go.Proofs.YthjjonbkfkpkmaaGreatDoor.Tg
