/- The document's Silence, whose lists lie apart from one another. Conditions: from 1 to 8 channels, at most 2^20 noughts. -/
import Derived.Test.YtkdpalmdcnpnoaaJf
namespace Go.Proofs.Ytkdpalmdcnpnoaa.Pcm
open Go.RowKit Gen

/-- Where the lists lie: each in a block of its own. -/
structure Ax (B : Nat) (wr : World) (k : Nat) (lo : Option Addr) (H : Nat → Option Addr × Nat) (G : Nat → Nat) : Prop where
  at_ : ∀ i, i < k → (H i).1 = some ⟨G i, 0, none⟩
  lt : ∀ i, i < k → B ≤ G i ∧ G i < wr.heap.size
  fz : ∀ i, i < k → ∀ m, wr.frozen? ⟨G i, m, none⟩ = false
  far : ∀ i, i < k → blk lo ≠ some (G i)
  mono : ∀ i j, i < j → j < k → G i < G j
def updn (G : Nat → Nat) (k x : Nat) (i : Nat) : Nat := if i = k then x else G i
set_option maxRecDepth 20000 in
theorem Ax.step {B p : Nat} {wr W2 : World} {k : Nat} {lo : Option Addr} {H : Nat → Option Addr × Nat} {G : Nat → Nat} (h : Ax B wr k lo H G) (hB : B ≤ wr.heap.size) (hlo : ∀ g, blk lo = some g → g < wr.heap.size) (hb : Below wr.heap.size wr W2) (h2 : wr.heap.size < W2.heap.size) (hz : ∀ m, W2.frozen? ⟨wr.heap.size, m, none⟩ = false)
    {lcap1 gg : Nat} {w4 : World} (hk : Kept W2 w4 (blk lo) k gg) (v : Value) : Ax B (w4.setCell ⟨p, 3, none⟩ v) (k + 1) (some ⟨gg, 0, none⟩) (upd H k (some ⟨wr.heap.size, 0, none⟩, lcap1)) (updn G k wr.heap.size) := by
  have hs := hk.grown.size
  have hfar : ∀ b, b < W2.heap.size → some b ≠ blk lo → w4.heap[b]? = W2.heap[b]? := fun b hb hne => hk.grown.block b hb hne
  refine ⟨fun i hi => ?_, fun i hi => ?_, fun i hi m => ?_, fun i hi => ?_, fun i j hij hj => ?_⟩
  · by_cases e : i = k
    · simp [upd, updn, e]
    · simp only [upd, updn, if_neg e]; exact h.at_ i (by omega)
  · by_cases e : i = k
    · simp only [updn, if_pos e]; simp; omega
    · have := h.lt i (by omega)
      simp only [updn, if_neg e]; simp; omega
  · rw [World.frozen?_setCell]
    by_cases e : i = k
    · simp only [updn, if_pos e]
      exact (World.frozen?_of_block (a := ⟨wr.heap.size, m, none⟩) (hfar wr.heap.size h2 fun e => by have := hlo _ e.symm; omega)).trans (hz m)
    · have := h.lt i (by omega)
      simp only [updn, if_neg e]
      exact (World.frozen?_of_block (a := ⟨G i, m, none⟩) (hfar (G i) (by omega) fun e => h.far i (by omega) e.symm)).trans ((hb.frozen (p := ⟨G i, m, none⟩) this.2).trans (h.fz i (by omega) m))
  · intro e2
    simp only [blk, Option.map_some, Option.some.injEq] at e2
    by_cases e : i = k
    · simp only [updn, if_pos e] at e2
      rcases hk.at_ with e3 | e3
      · have := hlo gg e3; omega
      · omega
    · have := h.lt i (by omega)
      simp only [updn, if_neg e] at e2
      rcases hk.at_ with e3 | e3
      · exact h.far i (by omega) (by rw [e3, e2])
      · omega
  · by_cases e : j = k
    · have := h.lt i (by omega)
      simp only [updn, if_pos e, if_neg (show ¬ i = k by omega)]; omega
    · simp only [updn, if_neg e, if_neg (show ¬ i = k by omega)]
      exact h.mono i j hij (by omega)
/-- Sound whose lists lie each in a block of its own. -/
structure Own (B : Nat) (W : World) (d : Dat) (G : Nat → Nat) : Prop where
  at_ : ∀ i, i < d.n → d.la i = some ⟨G i, 0, none⟩
  lt : ∀ i, i < d.n → B ≤ G i ∧ G i < W.heap.size
  fz : ∀ i, i < d.n → ∀ m, W.frozen? ⟨G i, m, none⟩ = false
  far : ∀ i, i < d.n → G i ≠ d.b
  mono : ∀ i j, i < j → j < d.n → G i < G j
set_option maxRecDepth 20000 in
theorem Us.snd2 {B p : Nat} {wr : World} {f : Fmt} {k : Nat} {L : Nat → Nat} {X : Nat → Nat → Int} {lo : Option Addr} {lcap : Nat} {H : Nat → Option Addr × Nat} {G : Nat → Nat} (h : Us B p wr f k L X lo lcap H) (ha : Ax B wr k lo H G) (hk : k ≤ 9223372036854775807) :
    ∃ d : Dat, d.v = .agg #[.int .i64 f.ch, .int .i64 f.bits, .int .i64 f.rate, .slice lo k lcap] ∧ d.f = f ∧ d.n = k ∧ d.ln = L ∧ d.X = X ∧ Snd wr d ∧ NewSnd B wr d ∧ Own B wr d G := by
  have hnew : ∀ i, i < k → NewIs B wr (H i).1 (L i) (X i) := fun i hi => by
    obtain ⟨b, off, h1, h2⟩ := h.old i hi
    exact ⟨b, off, h1, fun hl => (h2 hl).1⟩
  have his : ∀ i, i < k → Is wr (H i).1 (L i) (X i) := fun i hi => by
    obtain ⟨b, off, h1, _⟩ := h.old i hi
    exact ⟨b, off, h1⟩
  rcases ownsRow_at h.own with ⟨rfl, rfl, rfl, _⟩ | ⟨g, rfl⟩
  · exact ⟨⟨f, none, 0, 0, B, 0, fun i => (H i).1, L, fun i => (H i).2, X⟩, rfl, rfl, rfl, rfl, rfl, ⟨fun h => absurd h (Nat.lt_irrefl 0), fun i hi => absurd hi (Nat.not_lt_zero i), fun i hi => absurd hi (Nat.not_lt_zero i), fun h => absurd h (Nat.lt_irrefl 0), Nat.zero_le _⟩, ⟨Nat.le_refl _, fun i hi => absurd hi (Nat.not_lt_zero i)⟩,
      ⟨fun i hi => absurd hi (Nat.not_lt_zero i), fun i hi => absurd hi (Nat.not_lt_zero i), fun i hi => absurd hi (Nat.not_lt_zero i), fun i hi => absurd hi (Nat.not_lt_zero i), fun i j _ hi => absurd hi (Nat.not_lt_zero j)⟩⟩
  · have hl := World.ownsRow.lt h.own g (by rw [ownBlock_slice]; rfl)
    exact ⟨⟨f, some ⟨g, 0, none⟩, k, lcap, g, 0, fun i => (H i).1, L, fun i => (H i).2, X⟩, rfl, rfl, rfl, rfl, rfl, ⟨fun _ => rfl, fun i hi => by show wr.cell? ⟨g, 0 + i, none⟩ = _; rw [Nat.zero_add]; exact ownsRow_cell h.own i _ (hx_at H L hi), his, fun _ => hl.2, hk⟩, ⟨hl.1, hnew⟩,
      ⟨ha.at_, ha.lt, ha.fz, fun i hi e => ha.far i hi (by rw [show G i = g from e]; rfl), ha.mono⟩⟩
set_option maxRecDepth 20000 in
theorem Own.set4 {wr : World} {q B B' : Nat} {d : Dat} {G : Nat → Nat} (h : Own B wr d G) (hB : B' ≤ B) (v0 v1 v2 v3 : Value) : Own B' ((((wr.setCell ⟨q, 0, none⟩ v0).setCell ⟨q, 1, none⟩ v1).setCell ⟨q, 2, none⟩ v2).setCell ⟨q, 3, none⟩ v3) d G :=
  ⟨h.at_, fun i hi => by have := h.lt i hi; simp; omega, fun i hi m => by simp only [World.frozen?_setCell]; exact h.fz i hi m, h.far, h.mono⟩

set_option maxHeartbeats 1600000 in
set_option maxRecDepth 100000 in
theorem rsil2_any (w : World) (f : Fmt) (c n : Nat) (hc : f.ch = (c : Int)) (h8 : c ≤ 8) (hn : n ≤ 1048576) : Calls Try.prog 24 #[f.v, .int .i64 (n : Int)] w fun e w' => ∃ (d : Dat) (G : Nat → Nat), e = .returned d.v ∧ Snd w' d ∧ NewSnd w.heap.size w' d ∧ Below w.heap.size w w' ∧ d.f = f ∧ d.n = c ∧ (∀ i, i < d.n → d.ln i = n ∧ d.X i = fun _ => 0) ∧ Own w.heap.size w' d G := by
  obtain ⟨i0, hi, hz0, hz1, hz2⟩ := info_parts Try.info3
  obtain ⟨i1, hj, hy0, hy1, hy2⟩ := info_parts Try.info55
  obtain ⟨ch, bits, rate⟩ := f
  obtain rfl : ch = (c : Int) := hc
  have hmk : ∀ W : World, (Instr.makeSlice 55 (.int .i64 (n : Int)) (.int .i64 (n : Int))).run Try.prog W = .ok (.slice (some ⟨W.heap.size, 0, none⟩) n n) (W.alloc (.cells (madeCells #[.int .i64 0] n) 3)) := fun W => by
    have hm := run_make (P := Try.prog) W 55 3 i0 (.int .i64 0) Try.underlying55 hi hz0 .i64 .i64 (n : Int) (n : Int) (by omega) (by omega) (by rw [hz2]; omega) (by omega)
    rw [hz1, Int.toNat_natCast, Nat.mul_one] at hm
    exact hm
  have HMK := hid hmk
  clear hmk
  have hstart : ∀ (L : Nat → Nat) (X : Nat → Nat → Int) (H : Nat → Option Addr × Nat), Us (w.heap.size + 1 + 1 + 1) (w.heap.size + 1 + 1) (((w.alloc (.cells #[.int .i64 (c : Int), .int .i64 bits, .int .i64 rate] 23)).alloc (.cells #[.int .i64 0, .int .i64 0, .int .i64 0, .slice none 0 0] 26)).alloc (.cells #[.int .i64 (c : Int), .int .i64 bits, .int .i64 rate, .slice none 0 0] 26)) ⟨(c : Int), bits, rate⟩ 0 L X none 0 H := fun L X H => by
    have ha : ∀ i (v : Value), (#[.int .i64 (c : Int), .int .i64 bits, .int .i64 rate, .slice none 0 0] : Array Value)[i]? = some v → (((w.alloc (.cells #[.int .i64 (c : Int), .int .i64 bits, .int .i64 rate] 23)).alloc (.cells #[.int .i64 0, .int .i64 0, .int .i64 0, .slice none 0 0] 26)).alloc (.cells #[.int .i64 (c : Int), .int .i64 bits, .int .i64 rate, .slice none 0 0] 26)).cell? ⟨w.heap.size + 1 + 1, i, none⟩ = some v := fun i v hv => by
      rw [World.cell?_alloc_at _ _ _ _ (by simp)]; exact hv
    exact ⟨ha 0 _ rfl, ha 1 _ rfl, ha 2 _ rfl, ha 3 _ rfl, fz_new _ _ _ _ _ (by simp), World.ownsRow_nil _ _ _ _, fun i hi => absurd hi (Nat.not_lt_zero i), by omega, by simp⟩
  have HST := hid hstart
  have HAX : Hid (∀ W : World, Ax (w.heap.size + 1 + 1 + 1) W 0 none (fun _ => (none, 0)) (fun _ => 0)) := hid fun W => ⟨fun i hi => absurd hi (Nat.not_lt_zero i), fun i hi => absurd hi (Nat.not_lt_zero i), fun i hi => absurd hi (Nat.not_lt_zero i), fun i hi => absurd hi (Nat.not_lt_zero i), fun i j _ hi => absurd hi (Nat.not_lt_zero j)⟩
  have hsl := sl_new w ⟨(c : Int), bits, rate⟩ 0
  have hbel : Below w.heap.size w (((w.alloc (.cells #[.int .i64 (c : Int), .int .i64 bits, .int .i64 rate] 23)).alloc (.cells #[.int .i64 0, .int .i64 0, .int .i64 0, .slice none 0 0] 26)).alloc (.cells #[.int .i64 (c : Int), .int .i64 bits, .int .i64 rate, .slice none 0 0] 26)) := ((below_new w _).alloc (by simp) _).alloc (by simp <;> omega) _
  have hcf : (((w.alloc (.cells #[.int .i64 (c : Int), .int .i64 bits, .int .i64 rate] 23)).alloc (.cells #[.int .i64 0, .int .i64 0, .int .i64 0, .slice none 0 0] 26)).alloc (.cells #[.int .i64 (c : Int), .int .i64 bits, .int .i64 rate, .slice none 0 0] 26)).cell? ⟨w.heap.size, 0, none⟩ = some (.int .i64 (c : Int)) := by
    rw [cell_old _ _ _ _ (by simp <;> omega), cell_old _ _ _ _ (by simp), World.cell?_alloc_at _ _ _ _ rfl]; rfl
  have hr : ∀ i (v : Value), (#[.int .i64 0, .int .i64 0, .int .i64 0, .slice none 0 0] : Array Value)[i]? = some v → (((w.alloc (.cells #[.int .i64 (c : Int), .int .i64 bits, .int .i64 rate] 23)).alloc (.cells #[.int .i64 0, .int .i64 0, .int .i64 0, .slice none 0 0] 26)).alloc (.cells #[.int .i64 (c : Int), .int .i64 bits, .int .i64 rate, .slice none 0 0] 26)).cell? ⟨w.heap.size + 1, i, none⟩ = some v := fun i v hv => by
    rw [cell_old _ _ _ _ (by simp), World.cell?_alloc_at _ _ _ _ (by simp)]; exact hv
  have hz : ∀ i, (((w.alloc (.cells #[.int .i64 (c : Int), .int .i64 bits, .int .i64 rate] 23)).alloc (.cells #[.int .i64 0, .int .i64 0, .int .i64 0, .slice none 0 0] 26)).alloc (.cells #[.int .i64 (c : Int), .int .i64 bits, .int .i64 rate, .slice none 0 0] 26)).frozen? ⟨w.heap.size + 1, i, none⟩ = false := fun i => (frozen_old _ _ _ _ (by simp)).trans (fz_new _ _ _ _ _ (by simp))
  have HW0 := hid (And.intro hbel (And.intro hcf (And.intro hr hz)))
  clear hstart hsl hbel hcf hr hz
  show Calls Try.prog 24 #[.agg #[.int .i64 (c : Int), .int .i64 bits, .int .i64 rate], .int .i64 (n : Int)] w _
  go_enter Try.func24, Try.ntmps24
  go_wp2_with fail
  go_loopg [6] c (fun gh i wr => ∃ (k : Nat) (lo : Option Addr) (lcap : Nat) (H : Nat → Option Addr × Nat) (G : Nat → Nat), k ≤ c ∧ gh = c - k ∧ i = .int .i64 k ∧ Us (w.heap.size + 1 + 1 + 1) (w.heap.size + 1 + 1) wr ⟨(c : Int), bits, rate⟩ k (fun _ => n) (fun _ _ => 0) lo lcap H ∧ Ax (w.heap.size + 1 + 1 + 1) wr k lo H G ∧
    Below (w.heap.size + 1 + 1) (ws w c bits rate) wr)
  case atStart => exact ⟨0, none, 0, fun _ => (none, 0), fun _ => 0, Nat.zero_le _, rfl, rfl, HST.out _ _ _, HAX.out _, Below.refl _ _⟩
  case round =>
    obtain ⟨k, lo, lcap, H, G, hk, hgh, rfl, hus, hax, hb⟩ := hrel
    have HA := hid hax
    clear hax
    have HG := hid hgh
    have HU := hid hus
    have HB := hid hb
    have hcf := (hb.cell (p := ⟨w.heap.size, 0, none⟩) (show w.heap.size < _ by omega)).trans HW0.out.2.1
    have HR : Hid (∀ i (v : Value), (#[.int .i64 0, .int .i64 0, .int .i64 0, .slice none 0 0] : Array Value)[i]? = some v → wr.cell? ⟨w.heap.size + 1, i, none⟩ = some v) := hid fun i v hv => (hb.cell (p := ⟨w.heap.size + 1, i, none⟩) (show w.heap.size + 1 < _ by omega)).trans (HW0.out.2.2.1 i v hv)
    have HZ : Hid (∀ i, wr.frozen? ⟨w.heap.size + 1, i, none⟩ = false) := hid fun i => (hb.frozen (p := ⟨w.heap.size + 1, i, none⟩) (show w.heap.size + 1 < _ by omega)).trans (HW0.out.2.2.2 i)
    have HBW : Hid (Below w.heap.size w wr) := hid (HW0.out.1.trans (hb.mono (by omega)))
    clear hgh hus hb
    by_cases hlt : k < c
    · have hlt2 : (k : Int) < (c : Int) := by omega
      have hmk1 := HMK.out wr.drew
      have hbs := HU.out.bs
      go_wp2_with fail
      have s0 : wr.cell? ⟨w.heap.size + 1 + 1, 3, none⟩ = some (.slice lo k lcap) := HU.out.hdr
      have s1 : (wr.alloc (.cells (madeCells #[.int .i64 0] n) 3)).cell? ⟨w.heap.size + 1 + 1, 3, none⟩ = some (.slice lo k lcap) := (HU.out.fr (below_new _ _)).hdr
      have s2 : ((wr.alloc (.cells (madeCells #[.int .i64 0] n) 3)).alloc (.cells #[.slice (some ⟨wr.heap.size, 0, none⟩) n n] 55)).cell? ⟨w.heap.size + 1 + 1, 3, none⟩ = some (.slice lo k lcap) := ((HU.out.fr (below_new _ _)).fr (below_new _ _)).hdr
      have hbW : Below wr.heap.size wr (((wr.alloc (.cells (madeCells #[.int .i64 0] n) 3)).alloc (.cells #[.slice (some ⟨wr.heap.size, 0, none⟩) n n] 55)).drew) := (((Below.refl _ _).alloc (Nat.le_refl _) _).alloc (by simp) _).drew
      have hownW := (HU.out.fr hbW).own
      have HZW : Hid (∀ m, ((wr.alloc (.cells (madeCells #[.int .i64 0] n) 3)).alloc (.cells #[.slice (some ⟨wr.heap.size, 0, none⟩) n n] 55)).drew.frozen? ⟨wr.heap.size, m, none⟩ = false) := hid fun m => (frozen_old _ _ _ _ (by simp)).trans (fz_new _ _ _ _ _ rfl)
      have hcW : ((wr.alloc (.cells (madeCells #[.int .i64 0] n) 3)).alloc (.cells #[.slice (some ⟨wr.heap.size, 0, none⟩) n n] 55)).drew.cell? ⟨wr.heap.size + 1, 0, none⟩ = some (.slice (some ⟨wr.heap.size, 0, none⟩) n n) := by
        exact (World.cell?_alloc_at _ _ _ _ (by simp)).trans rfl
      have hnW : NewIs wr.heap.size (((wr.alloc (.cells (madeCells #[.int .i64 0] n) 3)).alloc (.cells #[.slice (some ⟨wr.heap.size, 0, none⟩) n n] 55)).drew) (some ⟨wr.heap.size, 0, none⟩) n (fun _ => 0) := by
        have h0 : NewIs wr.heap.size (wr.alloc (.cells (madeCells #[.int .i64 0] n) 3)) (some ⟨wr.heap.size, 0, none⟩) n (fun _ => 0) := by
          refine ⟨wr.heap.size, 0, ⟨fun _ => rfl, fun j hj => ?_, fun _ => by simp, by omega⟩, fun _ => Nat.le_refl _⟩
          have := (fl_new wr n (fun _ => 0)).c j hj
          rw [Nat.zero_add]
          simpa using this
        exact h0.below (below_new _ _).drew
      go_region_law (first
          | (refine step_append_one (by rfl) (.tmp 16) (.tmp 19) 24 (by rfl) (w.heap.size + 1 + 1 + 1) 55 i1 (.slice none 0 0) 24 Try.underlying24 hj hy0 hy1 hy2 rfl lo k lcap (hx H (fun _ => n) k) (by rfl) hownW ⟨wr.heap.size + 1, 0, none⟩ 1 (.slice (some ⟨wr.heap.size, 0, none⟩) n n) (by rfl) hcW rfl (by unfold maxLen; omega) (by omega) (by simp; omega) ?_
             intro gg cap' w4 hown4 hkept
             obtain ⟨k4, k5, hus4⟩ := HU.out.step hbW hnW hown4 hkept))
      all_goals
        have hb4 : Below (w.heap.size + 1 + 1) (ws w c bits rate) (w4.setCell ⟨w.heap.size + 1 + 1, 3, none⟩ (.slice (some ⟨gg, 0, none⟩) (k + 1) cap')) :=
          ((HB.out.trans (hbW.mono (by omega))).grown hkept.grown (by have := hbW.size; omega) (fun g hg => by have := (World.ownsRow.lt hownW g (by rw [ownBlock_slice]; exact hg)).1; omega)).setCell (p := ⟨w.heap.size + 1 + 1, 3, none⟩) (Nat.le_refl _) _
        have HB4 := hid hb4
        have HU4 := hid hus4
        have HA4 := hid (HA.out.step (p := w.heap.size + 1 + 1) (lcap1 := n) HU.out.bs (fun g hg => (World.ownsRow.lt HU.out.own g (by rw [ownBlock_slice]; exact hg)).2) hbW (by simp <;> omega) (fun m => HZW.out m) hkept (.slice (some ⟨gg, 0, none⟩) (k + 1) cap'))
        clear hb4 hus4 k4 k5 hown4 hkept hnW hcW hownW hbW s0 s1 s2 hcf hmk1
        go_wp2_with fail
        go_roundg (c - (k + 1))
        case measure => rw [HG.out]; omega
        case rel => exact ⟨k + 1, some ⟨gg, 0, none⟩, cap', _, _, by omega, rfl, by go_num, HU4.out, HA4.out, HB4.out⟩
    · have hge : ¬ (k : Int) < (c : Int) := by omega
      obtain rfl : k = c := by omega
      obtain ⟨d, hdv, hdf, hdn, hdl, hdx, hds, hdw, hdo⟩ := HU.out.snd2 HA.out (by omega)
      have x0 := HU.out.c0
      have x1 := HU.out.c1
      have x2 := HU.out.c2
      have x3 := HU.out.hdr
      have r0 := HR.out 0 _ rfl
      have r1 := HR.out 1 _ rfl
      have r2 := HR.out 2 _ rfl
      have r3 := HR.out 3 _ rfl
      have z0 := HZ.out 0
      have z1 := HZ.out 1
      have z2 := HZ.out 2
      have z3 := HZ.out 3
      have hfour : ∀ i, i < 4 → ∃ v, wr.cell? ⟨w.heap.size + 1, i, none⟩ = some v := fun i hi => by
        match i, hi with
        | 0, _ => exact ⟨_, r0⟩
        | 1, _ => exact ⟨_, r1⟩
        | 2, _ => exact ⟨_, r2⟩
        | 3, _ => exact ⟨_, r3⟩
      have hfs := four_set wr (w.heap.size + 1) (.int .i64 (k : Int)) (.int .i64 bits) (.int .i64 rate) (.slice lo k lcap) hfour
      obtain ⟨y0, y1, y2, y3, _⟩ := hfs
      have HF : Hid (∃ (d : Dat) (G : Nat → Nat), Ending.returned (.agg #[.int .i64 (k : Int), .int .i64 bits, .int .i64 rate, .slice lo k lcap]) = .returned d.v ∧ Snd ((((wr.setCell ⟨w.heap.size + 1, 0, none⟩ (.int .i64 (k : Int))).setCell ⟨w.heap.size + 1, 1, none⟩ (.int .i64 bits)).setCell ⟨w.heap.size + 1, 2, none⟩ (.int .i64 rate)).setCell ⟨w.heap.size + 1, 3, none⟩ (.slice lo k lcap)) d ∧
          NewSnd w.heap.size ((((wr.setCell ⟨w.heap.size + 1, 0, none⟩ (.int .i64 (k : Int))).setCell ⟨w.heap.size + 1, 1, none⟩ (.int .i64 bits)).setCell ⟨w.heap.size + 1, 2, none⟩ (.int .i64 rate)).setCell ⟨w.heap.size + 1, 3, none⟩ (.slice lo k lcap)) d ∧
          Below w.heap.size w ((((wr.setCell ⟨w.heap.size + 1, 0, none⟩ (.int .i64 (k : Int))).setCell ⟨w.heap.size + 1, 1, none⟩ (.int .i64 bits)).setCell ⟨w.heap.size + 1, 2, none⟩ (.int .i64 rate)).setCell ⟨w.heap.size + 1, 3, none⟩ (.slice lo k lcap)) ∧ d.f = ⟨(k : Int), bits, rate⟩ ∧ d.n = k ∧ (∀ i, i < d.n → d.ln i = n ∧ d.X i = fun _ => 0) ∧ Own w.heap.size ((((wr.setCell ⟨w.heap.size + 1, 0, none⟩ (.int .i64 (k : Int))).setCell ⟨w.heap.size + 1, 1, none⟩ (.int .i64 bits)).setCell ⟨w.heap.size + 1, 2, none⟩ (.int .i64 rate)).setCell ⟨w.heap.size + 1, 3, none⟩ (.slice lo k lcap)) d G) :=
        hid ⟨d, G, by rw [hdv], hds.set4 hdw (by omega) hfour _ _ _ _, hdw.set4 (by omega) (by omega) _ _ _ _, set4_below HBW.out (by omega) _ _ _ _, hdf, hdn, fun i _ => ⟨by rw [hdl], by rw [hdx]⟩, hdo.set4 (by omega) _ _ _ _⟩
      clear hdv hdf hdn hdl hdx hds hdw hdo hfour
      go_wp2_with fail
      refine bodyPost_ret (v := .agg #[.int .i64 (k : Int), .int .i64 bits, .int .i64 rate, .slice lo k lcap]) ?_ rfl ?_
      · simp only [results, show Try.f24.results = #[.cell 4 26] from by kernel_rfl]
        go_simp
      · obtain ⟨d, G, h1, h2, h3, h4, h5, h6, h7, h8⟩ := HF.out
        exact ⟨d, h1, h2, h3, h4, h5, h6, h7, G, h8⟩
end Go.Proofs.Ytkdpalmdcnpnoaa.Pcm
