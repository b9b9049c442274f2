/- the document's Silence. Conditions: from 1 to 8 channels, at most 2^20 noughts. -/
import Derived.Test.YtkdpalmdcnpnoaaJe
namespace Go.Proofs.Ytkdpalmdcnpnoaa.Pcm
open Go.RowKit Gen

def ws (w : World) (c : Nat) (bits rate : Int) : World := ((w.alloc (.cells #[.int .i64 (c : Int), .int .i64 bits, .int .i64 rate] 23)).alloc (.cells #[.int .i64 0, .int .i64 0, .int .i64 0, .slice none 0 0] 26)).alloc (.cells #[.int .i64 (c : Int), .int .i64 bits, .int .i64 rate, .slice none 0 0] 26)
set_option maxRecDepth 20000 in
theorem NewSnd.set4 {wr : World} {q B B' : Nat} {d : Dat} (hn : NewSnd B wr d) (hq : q < B) (hB : B' ≤ B) (v0 v1 v2 v3 : Value) : NewSnd B' ((((wr.setCell ⟨q, 0, none⟩ v0).setCell ⟨q, 1, none⟩ v1).setCell ⟨q, 2, none⟩ v2).setCell ⟨q, 3, none⟩ v3) d :=
  ⟨Nat.le_trans hB hn.1, fun i hi => (((((hn.2 i hi).set (g := q) (k := 0) hq v0).set (g := q) (k := 1) hq v1).set (g := q) (k := 2) hq v2).set (g := q) (k := 3) hq v3).mono hB⟩

set_option maxHeartbeats 1600000 in
set_option maxRecDepth 100000 in
theorem rsilence_any (w : World) (f : Fmt) (c n : Nat) (hc : f.ch = (c : Int)) (h8 : c ≤ 8) (hn : n ≤ 1048576) : Calls Try.prog 24 #[f.v, .int .i64 (n : Int)] w fun e w' => ∃ d : Dat, e = .returned d.v ∧ Snd w' d ∧ NewSnd w.heap.size w' d ∧ Below w.heap.size w w' ∧ d.f = f ∧ d.n = c ∧ ∀ i, i < d.n → d.ln i = n ∧ d.X i = fun _ => 0 := by
  obtain ⟨i0, hi, hz0, hz1, hz2⟩ := info_parts Try.info3
  obtain ⟨i1, hj, hy0, hy1, hy2⟩ := info_parts Try.info55
  obtain ⟨ch, bits, rate⟩ := f
  obtain rfl : ch = (c : Int) := hc
  have hmk : ∀ W : World, (Instr.makeSlice 55 (.int .i64 (n : Int)) (.int .i64 (n : Int))).run Try.prog W = .ok (.slice (some ⟨W.heap.size, 0, none⟩) n n) (W.alloc (.cells (madeCells #[.int .i64 0] n) 3)) := fun W => by
    have hm := run_make (P := Try.prog) W 55 3 i0 (.int .i64 0) Try.underlying55 hi hz0 .i64 .i64 (n : Int) (n : Int) (by omega) (by omega) (by rw [hz2]; omega) (by omega)
    rw [hz1, Int.toNat_natCast, Nat.mul_one] at hm
    exact hm
  have HMK := hid hmk
  clear hmk
  have hstart : ∀ (L : Nat → Nat) (X : Nat → Nat → Int) (H : Nat → Option Addr × Nat), Us (w.heap.size + 1 + 1 + 1) (w.heap.size + 1 + 1) (((w.alloc (.cells #[.int .i64 (c : Int), .int .i64 bits, .int .i64 rate] 23)).alloc (.cells #[.int .i64 0, .int .i64 0, .int .i64 0, .slice none 0 0] 26)).alloc (.cells #[.int .i64 (c : Int), .int .i64 bits, .int .i64 rate, .slice none 0 0] 26)) ⟨(c : Int), bits, rate⟩ 0 L X none 0 H := fun L X H => by
    have ha : ∀ i (v : Value), (#[.int .i64 (c : Int), .int .i64 bits, .int .i64 rate, .slice none 0 0] : Array Value)[i]? = some v → (((w.alloc (.cells #[.int .i64 (c : Int), .int .i64 bits, .int .i64 rate] 23)).alloc (.cells #[.int .i64 0, .int .i64 0, .int .i64 0, .slice none 0 0] 26)).alloc (.cells #[.int .i64 (c : Int), .int .i64 bits, .int .i64 rate, .slice none 0 0] 26)).cell? ⟨w.heap.size + 1 + 1, i, none⟩ = some v := fun i v hv => by
      rw [World.cell?_alloc_at _ _ _ _ (by simp)]; exact hv
    exact ⟨ha 0 _ rfl, ha 1 _ rfl, ha 2 _ rfl, ha 3 _ rfl, fz_new _ _ _ _ _ (by simp), World.ownsRow_nil _ _ _ _, fun i hi => absurd hi (Nat.not_lt_zero i), by omega, by simp⟩
  have HST := hid hstart
  have hsl := sl_new w ⟨(c : Int), bits, rate⟩ 0
  have hbel : Below w.heap.size w (((w.alloc (.cells #[.int .i64 (c : Int), .int .i64 bits, .int .i64 rate] 23)).alloc (.cells #[.int .i64 0, .int .i64 0, .int .i64 0, .slice none 0 0] 26)).alloc (.cells #[.int .i64 (c : Int), .int .i64 bits, .int .i64 rate, .slice none 0 0] 26)) := ((below_new w _).alloc (by simp) _).alloc (by simp <;> omega) _
  have hcf : (((w.alloc (.cells #[.int .i64 (c : Int), .int .i64 bits, .int .i64 rate] 23)).alloc (.cells #[.int .i64 0, .int .i64 0, .int .i64 0, .slice none 0 0] 26)).alloc (.cells #[.int .i64 (c : Int), .int .i64 bits, .int .i64 rate, .slice none 0 0] 26)).cell? ⟨w.heap.size, 0, none⟩ = some (.int .i64 (c : Int)) := by
    rw [cell_old _ _ _ _ (by simp <;> omega), cell_old _ _ _ _ (by simp), World.cell?_alloc_at _ _ _ _ rfl]; rfl
  have hr : ∀ i (v : Value), (#[.int .i64 0, .int .i64 0, .int .i64 0, .slice none 0 0] : Array Value)[i]? = some v → (((w.alloc (.cells #[.int .i64 (c : Int), .int .i64 bits, .int .i64 rate] 23)).alloc (.cells #[.int .i64 0, .int .i64 0, .int .i64 0, .slice none 0 0] 26)).alloc (.cells #[.int .i64 (c : Int), .int .i64 bits, .int .i64 rate, .slice none 0 0] 26)).cell? ⟨w.heap.size + 1, i, none⟩ = some v := fun i v hv => by
    rw [cell_old _ _ _ _ (by simp), World.cell?_alloc_at _ _ _ _ (by simp)]; exact hv
  have hz : ∀ i, (((w.alloc (.cells #[.int .i64 (c : Int), .int .i64 bits, .int .i64 rate] 23)).alloc (.cells #[.int .i64 0, .int .i64 0, .int .i64 0, .slice none 0 0] 26)).alloc (.cells #[.int .i64 (c : Int), .int .i64 bits, .int .i64 rate, .slice none 0 0] 26)).frozen? ⟨w.heap.size + 1, i, none⟩ = false := fun i => (frozen_old _ _ _ _ (by simp)).trans (fz_new _ _ _ _ _ (by simp))
  have HW0 := hid (And.intro hbel (And.intro hcf (And.intro hr hz)))
  clear hstart hsl hbel hcf hr hz
  show Calls Try.prog 24 #[.agg #[.int .i64 (c : Int), .int .i64 bits, .int .i64 rate], .int .i64 (n : Int)] w _
  go_enter Try.func24, Try.ntmps24
  go_wp2_with fail
  go_loopg [6] c (fun gh i wr => ∃ (k : Nat) (lo : Option Addr) (lcap : Nat) (H : Nat → Option Addr × Nat), k ≤ c ∧ gh = c - k ∧ i = .int .i64 k ∧ Us (w.heap.size + 1 + 1 + 1) (w.heap.size + 1 + 1) wr ⟨(c : Int), bits, rate⟩ k (fun _ => n) (fun _ _ => 0) lo lcap H ∧
    Below (w.heap.size + 1 + 1) (ws w c bits rate) wr)
  case atStart => exact ⟨0, none, 0, fun _ => (none, 0), Nat.zero_le _, rfl, rfl, HST.out _ _ _, Below.refl _ _⟩
  case round =>
    obtain ⟨k, lo, lcap, H, hk, hgh, rfl, hus, hb⟩ := hrel
    have HG := hid hgh
    have HU := hid hus
    have HB := hid hb
    have hcf := (hb.cell (p := ⟨w.heap.size, 0, none⟩) (show w.heap.size < _ by omega)).trans HW0.out.2.1
    have HR : Hid (∀ i (v : Value), (#[.int .i64 0, .int .i64 0, .int .i64 0, .slice none 0 0] : Array Value)[i]? = some v → wr.cell? ⟨w.heap.size + 1, i, none⟩ = some v) := hid fun i v hv => (hb.cell (p := ⟨w.heap.size + 1, i, none⟩) (show w.heap.size + 1 < _ by omega)).trans (HW0.out.2.2.1 i v hv)
    have HZ : Hid (∀ i, wr.frozen? ⟨w.heap.size + 1, i, none⟩ = false) := hid fun i => (hb.frozen (p := ⟨w.heap.size + 1, i, none⟩) (show w.heap.size + 1 < _ by omega)).trans (HW0.out.2.2.2 i)
    have HBW : Hid (Below w.heap.size w wr) := hid (HW0.out.1.trans (hb.mono (by omega)))
    clear hgh hus hb
    by_cases hlt : k < c
    · have hlt2 : (k : Int) < (c : Int) := by omega
      have hmk1 := HMK.out wr.drew
      have hbs := HU.out.bs
      go_wp2_with fail
      have s0 : wr.cell? ⟨w.heap.size + 1 + 1, 3, none⟩ = some (.slice lo k lcap) := HU.out.hdr
      have s1 : (wr.alloc (.cells (madeCells #[.int .i64 0] n) 3)).cell? ⟨w.heap.size + 1 + 1, 3, none⟩ = some (.slice lo k lcap) := (HU.out.fr (below_new _ _)).hdr
      have s2 : ((wr.alloc (.cells (madeCells #[.int .i64 0] n) 3)).alloc (.cells #[.slice (some ⟨wr.heap.size, 0, none⟩) n n] 55)).cell? ⟨w.heap.size + 1 + 1, 3, none⟩ = some (.slice lo k lcap) := ((HU.out.fr (below_new _ _)).fr (below_new _ _)).hdr
      have hbW : Below wr.heap.size wr (((wr.alloc (.cells (madeCells #[.int .i64 0] n) 3)).alloc (.cells #[.slice (some ⟨wr.heap.size, 0, none⟩) n n] 55)).drew) := (((Below.refl _ _).alloc (Nat.le_refl _) _).alloc (by simp) _).drew
      have hownW := (HU.out.fr hbW).own
      have hcW : ((wr.alloc (.cells (madeCells #[.int .i64 0] n) 3)).alloc (.cells #[.slice (some ⟨wr.heap.size, 0, none⟩) n n] 55)).drew.cell? ⟨wr.heap.size + 1, 0, none⟩ = some (.slice (some ⟨wr.heap.size, 0, none⟩) n n) := by
        exact (World.cell?_alloc_at _ _ _ _ (by simp)).trans rfl
      have hnW : NewIs wr.heap.size (((wr.alloc (.cells (madeCells #[.int .i64 0] n) 3)).alloc (.cells #[.slice (some ⟨wr.heap.size, 0, none⟩) n n] 55)).drew) (some ⟨wr.heap.size, 0, none⟩) n (fun _ => 0) := by
        have h0 : NewIs wr.heap.size (wr.alloc (.cells (madeCells #[.int .i64 0] n) 3)) (some ⟨wr.heap.size, 0, none⟩) n (fun _ => 0) := by
          refine ⟨wr.heap.size, 0, ⟨fun _ => rfl, fun j hj => ?_, fun _ => by simp, by omega⟩, fun _ => Nat.le_refl _⟩
          have := (fl_new wr n (fun _ => 0)).c j hj
          rw [Nat.zero_add]
          simpa using this
        exact h0.below (below_new _ _).drew
      go_region_law (first
          | (refine step_append_one (by rfl) (.tmp 16) (.tmp 19) 24 (by rfl) (w.heap.size + 1 + 1 + 1) 55 i1 (.slice none 0 0) 24 Try.underlying24 hj hy0 hy1 hy2 rfl lo k lcap (hx H (fun _ => n) k) (by rfl) hownW ⟨wr.heap.size + 1, 0, none⟩ 1 (.slice (some ⟨wr.heap.size, 0, none⟩) n n) (by rfl) hcW rfl (by unfold maxLen; omega) (by omega) (by simp; omega) ?_
             intro gg cap' w4 hown4 hkept
             obtain ⟨k4, k5, hus4⟩ := HU.out.step hbW hnW hown4 hkept))
      all_goals
        have hb4 : Below (w.heap.size + 1 + 1) (ws w c bits rate) (w4.setCell ⟨w.heap.size + 1 + 1, 3, none⟩ (.slice (some ⟨gg, 0, none⟩) (k + 1) cap')) :=
          ((HB.out.trans (hbW.mono (by omega))).grown hkept.grown (by have := hbW.size; omega) (fun g hg => by have := (World.ownsRow.lt hownW g (by rw [ownBlock_slice]; exact hg)).1; omega)).setCell (p := ⟨w.heap.size + 1 + 1, 3, none⟩) (Nat.le_refl _) _
        have HB4 := hid hb4
        have HU4 := hid hus4
        clear hb4 hus4 k4 k5 hown4 hkept hnW hcW hownW hbW s0 s1 s2 hcf hmk1
        go_wp2_with fail
        go_roundg (c - (k + 1))
        case measure => rw [HG.out]; omega
        case rel => exact ⟨k + 1, some ⟨gg, 0, none⟩, cap', _, by omega, rfl, by go_num, HU4.out, HB4.out⟩
    · have hge : ¬ (k : Int) < (c : Int) := by omega
      obtain rfl : k = c := by omega
      obtain ⟨d, hdv, hdf, hdn, hdl, hdx, hds, hdw⟩ := HU.out.snd (by omega)
      have x0 := HU.out.c0
      have x1 := HU.out.c1
      have x2 := HU.out.c2
      have x3 := HU.out.hdr
      have r0 := HR.out 0 _ rfl
      have r1 := HR.out 1 _ rfl
      have r2 := HR.out 2 _ rfl
      have r3 := HR.out 3 _ rfl
      have z0 := HZ.out 0
      have z1 := HZ.out 1
      have z2 := HZ.out 2
      have z3 := HZ.out 3
      have hfour : ∀ i, i < 4 → ∃ v, wr.cell? ⟨w.heap.size + 1, i, none⟩ = some v := fun i hi => by
        match i, hi with
        | 0, _ => exact ⟨_, r0⟩
        | 1, _ => exact ⟨_, r1⟩
        | 2, _ => exact ⟨_, r2⟩
        | 3, _ => exact ⟨_, r3⟩
      have hfs := four_set wr (w.heap.size + 1) (.int .i64 (k : Int)) (.int .i64 bits) (.int .i64 rate) (.slice lo k lcap) hfour
      obtain ⟨y0, y1, y2, y3, _⟩ := hfs
      have HF : Hid (∃ d : Dat, Ending.returned (.agg #[.int .i64 (k : Int), .int .i64 bits, .int .i64 rate, .slice lo k lcap]) = .returned d.v ∧ Snd ((((wr.setCell ⟨w.heap.size + 1, 0, none⟩ (.int .i64 (k : Int))).setCell ⟨w.heap.size + 1, 1, none⟩ (.int .i64 bits)).setCell ⟨w.heap.size + 1, 2, none⟩ (.int .i64 rate)).setCell ⟨w.heap.size + 1, 3, none⟩ (.slice lo k lcap)) d ∧
          NewSnd w.heap.size ((((wr.setCell ⟨w.heap.size + 1, 0, none⟩ (.int .i64 (k : Int))).setCell ⟨w.heap.size + 1, 1, none⟩ (.int .i64 bits)).setCell ⟨w.heap.size + 1, 2, none⟩ (.int .i64 rate)).setCell ⟨w.heap.size + 1, 3, none⟩ (.slice lo k lcap)) d ∧
          Below w.heap.size w ((((wr.setCell ⟨w.heap.size + 1, 0, none⟩ (.int .i64 (k : Int))).setCell ⟨w.heap.size + 1, 1, none⟩ (.int .i64 bits)).setCell ⟨w.heap.size + 1, 2, none⟩ (.int .i64 rate)).setCell ⟨w.heap.size + 1, 3, none⟩ (.slice lo k lcap)) ∧ d.f = ⟨(k : Int), bits, rate⟩ ∧ d.n = k ∧ ∀ i, i < d.n → d.ln i = n ∧ d.X i = fun _ => 0) :=
        hid ⟨d, by rw [hdv], hds.set4 hdw (by omega) hfour _ _ _ _, hdw.set4 (by omega) (by omega) _ _ _ _, set4_below HBW.out (by omega) _ _ _ _, hdf, hdn, fun i _ => ⟨by rw [hdl], by rw [hdx]⟩⟩
      clear hdv hdf hdn hdl hdx hds hdw hfour
      go_wp2_with fail
      refine bodyPost_ret (v := .agg #[.int .i64 (k : Int), .int .i64 bits, .int .i64 rate, .slice lo k lcap]) ?_ rfl ?_
      · simp only [results, show Try.f24.results = #[.cell 4 26] from by kernel_rfl]
        go_simp
      · exact HF.out
end Go.Proofs.Ytkdpalmdcnpnoaa.Pcm
