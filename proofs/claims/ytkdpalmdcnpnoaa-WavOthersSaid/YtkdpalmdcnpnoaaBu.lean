/- build of pcm: sound whose lists a function tells. Conditions: the format has from 1 to 8 channels; what the function is asked stands in its contract. -/
import Derived.Test.YtkdpalmdcnpnoaaAw
import Derived.Deep.Slices
namespace Go.Proofs.Ytkdpalmdcnpnoaa.Pcm
open Go.RowKit Gen

set_option maxRecDepth 20000 in
theorem Try.info55 : (Try.prog.info? 55).map (fun i => (i.zero, i.size, i.bytes)) = some (some (.slice none 0 0), 1, 24) := by kernel_rfl

/-- A list in memory that was not there before. -/
def NewIs (B : Nat) (w : World) (lo : Option Addr) (len : Nat) (X : Nat → Int) : Prop := ∃ b off, Isb w lo len b off X ∧ (0 < len → B ≤ b)

/-- The lists that are being filled in at g, the sound's box at p. -/
structure Bs (w wr : World) (f : Fmt) (n p g k : Nat) (L : Nat → Nat) (X : Nat → Nat → Int) : Prop where
  hdr : wr.cell? ⟨p, 3, none⟩ = some (.slice (some ⟨g, 0, none⟩) n n)
  b0 : wr.cell? ⟨p, 0, none⟩ = some (.int .i64 f.ch)
  b1 : wr.cell? ⟨p, 1, none⟩ = some (.int .i64 f.bits)
  b2 : wr.cell? ⟨p, 2, none⟩ = some (.int .i64 f.rate)
  old : ∀ i, i < k → ∃ lo lcap, wr.cell? ⟨g, i, none⟩ = some (.slice lo (L i) lcap) ∧ NewIs (g + 1) wr lo (L i) (X i)
  new : ∀ i, i < n → ∃ v, wr.cell? ⟨g, i, none⟩ = some v
  fz : ∀ i, wr.frozen? ⟨g, i, none⟩ = false
  below : Below w.heap.size w wr
  gl : g < wr.heap.size
  pl : p < wr.heap.size
  pg : p ≠ g
  gw : w.heap.size + 1 < g
  rc : ∀ i, i < 4 → ∃ v, wr.cell? ⟨w.heap.size + 1, i, none⟩ = some v
  rz : ∀ i, wr.frozen? ⟨w.heap.size + 1, i, none⟩ = false
set_option maxRecDepth 20000 in
theorem NewIs.fr {B : Nat} {w w' : World} {lo : Option Addr} {len : Nat} {X : Nat → Int} (h : NewIs B w lo len X) (hf : Fr (fun _ => False) w w') : NewIs B w' lo len X := by
  obtain ⟨b, off, h1, h2⟩ := h
  exact ⟨b, off, h1.fr hf, h2⟩

set_option maxRecDepth 20000 in
theorem made_cell (w : World) (n b i : Nat) (hb : b = w.heap.size) (hi : i < n) : (w.alloc (.cells (madeCells #[.slice none 0 0] n) 55)).cell? ⟨b, i, none⟩ = some (.slice none 0 0) := by
  rw [World.cell?_alloc_at _ _ _ _ hb]
  simp [madeCells, hi, Nat.mod_one]
set_option maxRecDepth 20000 in
theorem fz_new (w : World) (c : Array Value) (t b i : Nat) (h : b = w.heap.size) : (w.alloc (.cells c t)).frozen? ⟨b, i, none⟩ = false := by
  subst h; rw [frozen?_alloc_cells]; simp [World.frozen?]
/-- The world ahead of the lists. -/
def wb (w : World) (n : Nat) (bits rate : Int) : World := (w.alloc (.cells #[.int .i64 (n : Int), .int .i64 bits, .int .i64 rate] 23)).alloc (.cells #[.int .i64 0, .int .i64 0, .int .i64 0, .slice none 0 0] 26)
set_option maxRecDepth 20000 in
theorem wb_size (w : World) (n : Nat) (bits rate : Int) : (wb w n bits rate).heap.size = w.heap.size + 1 + 1 := by simp [wb]
set_option maxRecDepth 20000 in
theorem wb_below (w : World) (n : Nat) (bits rate : Int) : Below w.heap.size w (wb w n bits rate) := (below_new w _).alloc (by simp) _
set_option maxRecDepth 20000 in
theorem bs_1 (w : World) (n : Nat) (bits rate : Int) (L : Nat → Nat) (X : Nat → Nat → Int) :
    Bs w (((wb w n bits rate).alloc (.cells (madeCells #[.slice none 0 0] n) 55)).alloc (.cells #[.int .i64 (n : Int), .int .i64 bits, .int .i64 rate, .slice (some ⟨w.heap.size + 1 + 1, 0, none⟩) n n] 26)).drew ⟨(n : Int), bits, rate⟩ n (w.heap.size + 1 + 1 + 1) (w.heap.size + 1 + 1) 0 L X := by
  have hz := wb_size w n bits rate
  have hb := wb_below w n bits rate
  have hr : ∀ i (v : Value), (#[.int .i64 0, .int .i64 0, .int .i64 0, .slice none 0 0] : Array Value)[i]? = some v → (wb w n bits rate).cell? ⟨w.heap.size + 1, i, none⟩ = some v := fun i v hv => by
    unfold wb; rw [World.cell?_alloc_at _ _ _ _ (by simp)]; exact hv
  have hrz : ∀ i, (wb w n bits rate).frozen? ⟨w.heap.size + 1, i, none⟩ = false := fun i => by unfold wb; exact fz_new _ _ _ _ _ (by simp)
  generalize wb w n bits rate = W0 at *
  have hc : ∀ i (v : Value), (#[.int .i64 (n : Int), .int .i64 bits, .int .i64 rate, .slice (some ⟨w.heap.size + 1 + 1, 0, none⟩) n n] : Array Value)[i]? = some v → ((W0.alloc (.cells (madeCells #[.slice none 0 0] n) 55)).alloc (.cells #[.int .i64 (n : Int), .int .i64 bits, .int .i64 rate, .slice (some ⟨w.heap.size + 1 + 1, 0, none⟩) n n] 26)).cell? ⟨w.heap.size + 1 + 1 + 1, i, none⟩ = some v := fun i v hv => by
    rw [World.cell?_alloc_at _ _ _ _ (by simp [hz])]; exact hv
  refine ⟨hc 3 _ rfl, hc 0 _ rfl, hc 1 _ rfl, hc 2 _ rfl, fun i hi => absurd hi (Nat.not_lt_zero i), fun i hi => ⟨_, (cell_old _ _ _ _ (by simp [hz])).trans (made_cell W0 n _ i hz.symm hi)⟩, fun i => (frozen_old _ _ _ _ (by simp [hz])).trans (fz_new W0 _ _ _ _ hz.symm), ((hb.alloc (by omega) _).alloc (by simp <;> omega) _).drew, by simp [World.drew, hz]; try omega, by simp [World.drew, hz]; try omega, by omega, by omega, fun i hi => ?_, fun i => ?_⟩
  · have : ∃ v, (#[.int .i64 0, .int .i64 0, .int .i64 0, .slice none 0 0] : Array Value)[i]? = some v := ⟨_, Array.getElem?_eq_getElem (by simpa using hi)⟩
    obtain ⟨v, hv⟩ := this
    exact ⟨v, (cell_old _ _ _ _ (by simp <;> omega)).trans ((cell_old _ _ _ _ (by omega)).trans (hr i v hv))⟩
  · exact (frozen_old _ _ _ _ (by simp <;> omega)).trans ((frozen_old _ _ _ _ (by omega)).trans (hrz i))
set_option maxRecDepth 20000 in
theorem bs_2 (w : World) (n : Nat) (bits rate : Int) (L : Nat → Nat) (X : Nat → Nat → Int) :
    Bs w (((wb w n bits rate).alloc (.cells #[.int .i64 (n : Int), .int .i64 bits, .int .i64 rate, .slice (some ⟨w.heap.size + 1 + 1 + 1, 0, none⟩) n n] 26)).alloc (.cells (madeCells #[.slice none 0 0] n) 55)).drew ⟨(n : Int), bits, rate⟩ n (w.heap.size + 1 + 1) (w.heap.size + 1 + 1 + 1) 0 L X := by
  have hz := wb_size w n bits rate
  have hb := wb_below w n bits rate
  have hr : ∀ i (v : Value), (#[.int .i64 0, .int .i64 0, .int .i64 0, .slice none 0 0] : Array Value)[i]? = some v → (wb w n bits rate).cell? ⟨w.heap.size + 1, i, none⟩ = some v := fun i v hv => by
    unfold wb; rw [World.cell?_alloc_at _ _ _ _ (by simp)]; exact hv
  have hrz : ∀ i, (wb w n bits rate).frozen? ⟨w.heap.size + 1, i, none⟩ = false := fun i => by unfold wb; exact fz_new _ _ _ _ _ (by simp)
  generalize wb w n bits rate = W0 at *
  have hc : ∀ i (v : Value), (#[.int .i64 (n : Int), .int .i64 bits, .int .i64 rate, .slice (some ⟨w.heap.size + 1 + 1 + 1, 0, none⟩) n n] : Array Value)[i]? = some v → ((W0.alloc (.cells #[.int .i64 (n : Int), .int .i64 bits, .int .i64 rate, .slice (some ⟨w.heap.size + 1 + 1 + 1, 0, none⟩) n n] 26)).alloc (.cells (madeCells #[.slice none 0 0] n) 55)).cell? ⟨w.heap.size + 1 + 1, i, none⟩ = some v := fun i v hv => by
    rw [cell_old _ _ _ _ (by simp [hz]), World.cell?_alloc_at _ _ _ _ hz.symm]; exact hv
  refine ⟨hc 3 _ rfl, hc 0 _ rfl, hc 1 _ rfl, hc 2 _ rfl, fun i hi => absurd hi (Nat.not_lt_zero i), fun i hi => ⟨_, made_cell _ n _ i (by simp [hz]) hi⟩, fun i => fz_new _ _ _ _ _ (by simp [hz]), ((hb.alloc (by omega) _).alloc (by simp <;> omega) _).drew, by simp [World.drew, hz]; try omega, by simp [World.drew, hz]; try omega, by omega, by omega, fun i hi => ?_, fun i => ?_⟩
  · have : ∃ v, (#[.int .i64 0, .int .i64 0, .int .i64 0, .slice none 0 0] : Array Value)[i]? = some v := ⟨_, Array.getElem?_eq_getElem (by simpa using hi)⟩
    obtain ⟨v, hv⟩ := this
    exact ⟨v, (cell_old _ _ _ _ (by simp <;> omega)).trans ((cell_old _ _ _ _ (by omega)).trans (hr i v hv))⟩
  · exact (frozen_old _ _ _ _ (by simp <;> omega)).trans ((frozen_old _ _ _ _ (by omega)).trans (hrz i))

/-- Sound that was not there before. -/
def NewSnd (B : Nat) (w : World) (d : Dat) : Prop := B ≤ d.b ∧ ∀ i, i < d.n → NewIs B w (d.la i) (d.ln i) (d.X i)
def BuildPost (w : World) (f : Fmt) (n : Nat) (L : Nat → Nat) (X : Nat → Nat → Int) (e : Ending) (w' : World) : Prop :=
  ∃ d : Dat, e = .returned d.v ∧ d.f = f ∧ d.n = n ∧ (∀ i, i < n → d.ln i = L i) ∧ (∀ i, i < n → d.X i = X i) ∧ Snd w' d ∧ NewSnd w.heap.size w' d ∧ Below w.heap.size w w'

set_option maxRecDepth 20000 in
theorem NewIs.below {B : Nat} {w w' : World} {lo : Option Addr} {len : Nat} {X : Nat → Int} (h : NewIs B w lo len X) (hb : Below w.heap.size w w') : NewIs B w' lo len X := by
  obtain ⟨b, off, h1, h2⟩ := h
  exact ⟨b, off, h1.below hb h1.lt, h2⟩
set_option maxRecDepth 20000 in
theorem NewIs.set {B g k : Nat} {w : World} {lo : Option Addr} {len : Nat} {X : Nat → Int} (h : NewIs B w lo len X) (hg : g < B) (v : Value) : NewIs B (w.setCell ⟨g, k, none⟩ v) lo len X := by
  obtain ⟨b, off, h1, h2⟩ := h
  refine ⟨b, off, ⟨h1.addr, fun i hi => ?_, fun hl => by have := h1.lt hl; simpa using this, h1.hl⟩, h2⟩
  rw [World.cell?_setCell_other _ _ _ _ (by intro e; simp at e; try (have := h2 (by omega); omega))]
  exact h1.c i hi
set_option maxRecDepth 20000 in
theorem NewIs.mono {B B' : Nat} {w : World} {lo : Option Addr} {len : Nat} {X : Nat → Int} (h : NewIs B w lo len X) (hB : B' ≤ B) : NewIs B' w lo len X := by
  obtain ⟨b, off, h1, h2⟩ := h
  exact ⟨b, off, h1, fun hl => Nat.le_trans hB (h2 hl)⟩
set_option maxRecDepth 20000 in
theorem Bs.step {w wr w3 : World} {f : Fmt} {n p g k : Nat} {L : Nat → Nat} {X : Nat → Nat → Int} (h : Bs w wr f n p g k L X) (hk : k < n) (hb : Below wr.heap.size wr w3) (lo : Option Addr) (lcap : Nat) (hnew : NewIs wr.heap.size w3 lo (L k) (X k)) :
    Bs w (w3.setCell ⟨g, k, none⟩ (.slice lo (L k) lcap)) f n p g (k + 1) L X := by
  have hgl := h.gl
  have hpl := h.pl
  have hpg := h.pg
  have hgw := h.gw
  have hsz := hb.size
  have ho : ∀ (b i : Nat), b ≠ g → b < wr.heap.size → (w3.setCell ⟨g, k, none⟩ (.slice lo (L k) lcap)).cell? ⟨b, i, none⟩ = wr.cell? ⟨b, i, none⟩ := fun b i h1 h2 => by
    rw [World.cell?_setCell_other _ _ _ _ (by intro e; simp at e <;> omega)]
    exact hb.cell (p := ⟨b, i, none⟩) h2
  have hg : ∀ i, i ≠ k → (w3.setCell ⟨g, k, none⟩ (.slice lo (L k) lcap)).cell? ⟨g, i, none⟩ = wr.cell? ⟨g, i, none⟩ := fun i h1 => by
    rw [World.cell?_setCell_other _ _ _ _ (by intro e; simp at e <;> omega)]
    exact hb.cell (p := ⟨g, i, none⟩) hgl
  have hk2 : (w3.setCell ⟨g, k, none⟩ (.slice lo (L k) lcap)).cell? ⟨g, k, none⟩ = some (.slice lo (L k) lcap) := by
    obtain ⟨v, hv⟩ := h.new k hk
    exact World.cell?_setCell_same _ _ _ ((hb.cell (p := ⟨g, k, none⟩) hgl).trans hv)
  refine ⟨(ho p 3 hpg hpl).trans h.hdr, (ho p 0 hpg hpl).trans h.b0, (ho p 1 hpg hpl).trans h.b1, (ho p 2 hpg hpl).trans h.b2, fun i hi => ?_, fun i hi => ?_, fun i => ?_, (h.below.trans (hb.mono h.below.size)).setCell (p := ⟨g, k, none⟩) (show w.heap.size ≤ g by omega) _, ?_, ?_, hpg, hgw, fun i hi => ?_, fun i => ?_⟩
  · by_cases e : i = k
    · subst e
      exact ⟨lo, lcap, hk2, (hnew.set hgl _).mono hgl⟩
    · obtain ⟨lo', lcap', h1, h2⟩ := h.old i (by omega)
      exact ⟨lo', lcap', (hg i e).trans h1, (h2.below hb).set (by omega) _⟩
  · by_cases e : i = k
    · subst e; exact ⟨_, hk2⟩
    · obtain ⟨v, hv⟩ := h.new i hi
      exact ⟨v, (hg i e).trans hv⟩
  · rw [World.frozen?_setCell]; exact (hb.frozen (p := ⟨g, i, none⟩) hgl).trans (h.fz i)
  · have : g < w3.heap.size := by omega
    simpa using this
  · have : p < w3.heap.size := by omega
    simpa using this
  · obtain ⟨v, hv⟩ := h.rc i hi
    exact ⟨v, (ho _ i (by omega) (by omega)).trans hv⟩
  · rw [World.frozen?_setCell]; exact (hb.frozen (p := ⟨w.heap.size + 1, i, none⟩) (show w.heap.size + 1 < _ by omega)).trans (h.rz i)

def w4s (w : World) (q : Nat) (v0 v1 v2 v3 : Value) : World := (((w.setCell ⟨q, 0, none⟩ v0).setCell ⟨q, 1, none⟩ v1).setCell ⟨q, 2, none⟩ v2).setCell ⟨q, 3, none⟩ v3
set_option maxRecDepth 20000 in
theorem four_set (w : World) (q : Nat) (v0 v1 v2 v3 : Value) (h : ∀ i, i < 4 → ∃ v, w.cell? ⟨q, i, none⟩ = some v) :
    ((((w.setCell ⟨q, 0, none⟩ v0).setCell ⟨q, 1, none⟩ v1).setCell ⟨q, 2, none⟩ v2).setCell ⟨q, 3, none⟩ v3).cell? ⟨q, 0, none⟩ = some v0 ∧
    ((((w.setCell ⟨q, 0, none⟩ v0).setCell ⟨q, 1, none⟩ v1).setCell ⟨q, 2, none⟩ v2).setCell ⟨q, 3, none⟩ v3).cell? ⟨q, 1, none⟩ = some v1 ∧
    ((((w.setCell ⟨q, 0, none⟩ v0).setCell ⟨q, 1, none⟩ v1).setCell ⟨q, 2, none⟩ v2).setCell ⟨q, 3, none⟩ v3).cell? ⟨q, 2, none⟩ = some v2 ∧
    ((((w.setCell ⟨q, 0, none⟩ v0).setCell ⟨q, 1, none⟩ v1).setCell ⟨q, 2, none⟩ v2).setCell ⟨q, 3, none⟩ v3).cell? ⟨q, 3, none⟩ = some v3 ∧
    ∀ b i, b ≠ q → ((((w.setCell ⟨q, 0, none⟩ v0).setCell ⟨q, 1, none⟩ v1).setCell ⟨q, 2, none⟩ v2).setCell ⟨q, 3, none⟩ v3).cell? ⟨b, i, none⟩ = w.cell? ⟨b, i, none⟩ := by
  have ne : ∀ (W : World) (b i j : Nat) (v : Value), (b ≠ q ∨ i ≠ j) → (W.setCell ⟨q, j, none⟩ v).cell? ⟨b, i, none⟩ = W.cell? ⟨b, i, none⟩ := fun W b i j v hh => World.cell?_setCell_other _ _ _ _ (by intro e; simp at e <;> omega)
  obtain ⟨u0, h0⟩ := h 0 (by omega)
  obtain ⟨u1, h1⟩ := h 1 (by omega)
  obtain ⟨u2, h2⟩ := h 2 (by omega)
  obtain ⟨u3, h3⟩ := h 3 (by omega)
  refine ⟨?_, ?_, ?_, ?_, fun b i hb => ?_⟩
  · rw [ne _ _ _ _ _ (.inr (by decide)), ne _ _ _ _ _ (.inr (by decide)), ne _ _ _ _ _ (.inr (by decide))]
    exact World.cell?_setCell_same _ _ _ h0
  · rw [ne _ _ _ _ _ (.inr (by decide)), ne _ _ _ _ _ (.inr (by decide))]
    exact World.cell?_setCell_same _ _ _ ((ne _ _ _ _ _ (.inr (by decide))).trans h1)
  · rw [ne _ _ _ _ _ (.inr (by decide))]
    exact World.cell?_setCell_same _ _ _ ((ne _ _ _ _ _ (.inr (by decide))).trans ((ne _ _ _ _ _ (.inr (by decide))).trans h2))
  · exact World.cell?_setCell_same _ _ _ ((ne _ _ _ _ _ (.inr (by decide))).trans ((ne _ _ _ _ _ (.inr (by decide))).trans ((ne _ _ _ _ _ (.inr (by decide))).trans h3)))
  · rw [ne _ _ _ _ _ (.inl hb), ne _ _ _ _ _ (.inl hb), ne _ _ _ _ _ (.inl hb), ne _ _ _ _ _ (.inl hb)]

set_option maxHeartbeats 1600000 in
set_option maxRecDepth 100000 in
theorem build_any (kf : FuncId) (caps : Array Value) (hent : ∀ args w, (callFunc kf args).run Try.prog w = .ok (.enter kf args) w) (w : World) (f : Fmt) (n : Nat) (hn : f.ch = (n : Int)) (h8 : n ≤ 8) (h0 : 0 < n) (L : Nat → Nat) (X : Nat → Nat → Int)
    (hcall : ∀ i, i < n → ∀ w', Below w.heap.size w w' → Calls Try.prog kf (#[.int .i64 (i : Int)] ++ caps) w' fun e w'' => ∃ lo lcap, e = .returned (.slice lo (L i) lcap) ∧ NewIs w'.heap.size w'' lo (L i) (X i) ∧ Below w'.heap.size w' w'') :
    Calls Try.prog 96 #[f.v, .func (.func kf) #[] caps] w (BuildPost w f n L X) := by
  have HC := hid hcall
  clear hcall
  obtain ⟨ch, bits, rate⟩ := f
  obtain rfl : ch = (n : Int) := hn
  obtain ⟨i0, hi, hz0, hz1, hz2⟩ := info_parts Try.info55
  have hmk : ∀ W : World, (Instr.makeSlice 24 (.int .i64 (n : Int)) (.int .i64 (n : Int))).run Try.prog W = .ok (.slice (some ⟨W.heap.size, 0, none⟩) n n) (W.alloc (.cells (madeCells #[.slice none 0 0] n) 55)) := fun W => by
    have hm := run_make (P := Try.prog) W 24 55 i0 (.slice none 0 0) Try.underlying24 hi hz0 .i64 .i64 (n : Int) (n : Int) (by omega) (by omega) (by rw [hz2]; omega) (by omega)
    rw [hz1, Int.toNat_natCast, Nat.mul_one] at hm
    exact hm
  show Calls Try.prog 96 #[.agg #[.int .i64 (n : Int), .int .i64 bits, .int .i64 rate], .func (.func kf) #[] caps] w _
  go_enter Try.func96, Try.ntmps96
  go_wp2_with fail
  have H1 := hid (bs_1 w n bits rate L X)
  have H2 := hid (bs_2 w n bits rate L X)
  unfold wb at H1 H2
  go_cut [5] (fun v wx => ∃ p g, v = .pointer (some ⟨p, 0, none⟩) ∧ Bs w wx ⟨(n : Int), bits, rate⟩ n p g 0 L X)
  case first =>
    go_region_held3 (fun w' => w'.cell? ⟨w.heap.size, 0, none⟩ = some (.int .i64 (n : Int)) ∧ w'.cell? ⟨w.heap.size, 1, none⟩ = some (.int .i64 bits) ∧ w'.cell? ⟨w.heap.size, 2, none⟩ = some (.int .i64 rate))
      (first | go_keep) (fail)
    all_goals
      go_wp2_with fail
      go_meet
      first | (exact ⟨_, _, rfl, H1.out⟩) | (exact ⟨_, _, rfl, H2.out⟩)
  case rest =>
    obtain ⟨p, g, rfl, hbs⟩ := hcut
    have HBS := hid hbs
    have hdr := hbs.hdr
    clear hbs H1 H2 hmk
    go_wp2_with fail
    go_loopg [15] n (fun z i wr => ∃ k : Nat, k ≤ n ∧ z = n - k ∧ i = .int .i64 k ∧ Bs w wr ⟨(n : Int), bits, rate⟩ n p g k L X)
    case atStart => exact ⟨0, Nat.zero_le _, rfl, rfl, HBS.out⟩
    case round =>
      obtain ⟨k, hk, hg, rfl, hbs⟩ := hrel
      have HG := hid hg
      have HB := hid hbs
      clear hg hbs hdr
      by_cases hlt : k < n
      · have hlt2 : (k : Int) < (n : Int) := by omega
        obtain ⟨vk, hvk⟩ := HB.out.new k hlt
        have s0 : wr.drew.cell? ⟨p, 3, none⟩ = some (.slice (some ⟨g, 0, none⟩) n n) ∧ wr.drew.cell? ⟨g, k, none⟩ = some vk ∧ wr.drew.frozen? ⟨g, k, none⟩ = false := ⟨HB.out.hdr, hvk, HB.out.fz k⟩
        have HBD := hid HB.out.below.drew
        have HVK := hid hvk
        clear hvk
        go_wp2_with fail
        obtain ⟨s00, s01, s02⟩ := s0
        go_region_with ((first | ((with_reducible refine (HC.out k hlt _ HBD.out).mono ?_); rintro e w3 ⟨lo, lcap, rfl, hnew, hb3⟩; have s10 := (hb3.cell (p := ⟨p, 3, none⟩) HB.out.pl).trans s00; have s11 := (hb3.cell (p := ⟨g, k, none⟩) HB.out.gl).trans s01; have s12 := (hb3.frozen (p := ⟨g, k, none⟩) HB.out.gl).trans s02)))
        all_goals
          have hst := HB.out.step hlt (w3 := w3) ⟨hb3.os, hb3.tape, hb3.output, hb3.size, hb3.block⟩ lo lcap hnew
          clear s00 s01 s02 s10 s11 s12 hb3 hnew
          go_wp2_with fail
          go_roundg (n - (k + 1))
          case measure => rw [HG.out]; omega
          case rel => exact ⟨k + 1, by omega, rfl, by go_num, hst⟩
      · have hge : ¬ (k : Int) < (n : Int) := by omega
        obtain rfl : k = n := by omega
        have x0 := HB.out.b0
        have x1 := HB.out.b1
        have x2 := HB.out.b2
        have x3 := HB.out.hdr
        obtain ⟨v0, r0⟩ := HB.out.rc 0 (by omega)
        obtain ⟨v1, r1⟩ := HB.out.rc 1 (by omega)
        obtain ⟨v2, r2⟩ := HB.out.rc 2 (by omega)
        obtain ⟨v3, r3⟩ := HB.out.rc 3 (by omega)
        have rz0 := HB.out.rz 0
        have rz1 := HB.out.rz 1
        have rz2 := HB.out.rz 2
        have rz3 := HB.out.rz 3
        have hfs := four_set wr (w.heap.size + 1) (.int .i64 (k : Int)) (.int .i64 bits) (.int .i64 rate) (.slice (some ⟨g, 0, none⟩) k k) HB.out.rc
        have HFS := hid hfs
        obtain ⟨y0, y1, y2, y3, _⟩ := hfs
        go_wp2_with fail
        refine bodyPost_ret (v := .agg #[.int .i64 (k : Int), .int .i64 bits, .int .i64 rate, .slice (some ⟨g, 0, none⟩) k k]) ?_ rfl ?_
        · simp only [results, show Try.f96.results = #[.cell 4 26] from by kernel_rfl]
          go_simp
        · clear x0 x1 x2 x3 r0 r1 r2 r3 rz0 rz1 rz2 rz3 y0 y1 y2 y3
          obtain ⟨_, _, _, _, ho⟩ := HFS.out
          have hgw := HB.out.gw
          obtain ⟨qq, hqq⟩ := Deep.choose_lt (p := fun i (q : Option Addr × Nat) => wr.cell? ⟨g, i, none⟩ = some (.slice q.1 (L i) q.2) ∧ NewIs (g + 1) wr q.1 (L i) (X i)) (fun i hi => by
            obtain ⟨lo, lcap, h1, h2⟩ := HB.out.old i hi
            exact ⟨(lo, lcap), h1, h2⟩)
          refine ⟨⟨⟨(k : Int), bits, rate⟩, some ⟨g, 0, none⟩, k, k, g, 0, fun i => (qq i).1, L, fun i => (qq i).2, X⟩, rfl, rfl, rfl, fun _ _ => rfl, fun _ _ => rfl, ⟨fun _ => rfl, fun i hi => ?_, fun i hi => ?_, fun _ => ?_, show k ≤ 9223372036854775807 by omega⟩, ⟨show w.heap.size ≤ g by omega, fun i hi => ?_⟩, ?_⟩
          · rw [show (⟨g, 0 + i, none⟩ : Addr) = ⟨g, i, none⟩ from by rw [Nat.zero_add]]
            exact (ho g i (by omega)).trans (hqq i hi).1
          · obtain ⟨b, off, h1, _⟩ := ((((hqq i hi).2.set (g := w.heap.size + 1) (k := 0) (by omega) (.int .i64 (k : Int))).set (g := w.heap.size + 1) (k := 1) (by omega) (.int .i64 bits)).set (g := w.heap.size + 1) (k := 2) (by omega) (.int .i64 rate)).set (g := w.heap.size + 1) (k := 3) (by omega) (.slice (some ⟨g, 0, none⟩) k k)
            exact ⟨b, off, h1⟩
          · have := HB.out.gl
            simpa using this
          · exact (((((hqq i hi).2.set (g := w.heap.size + 1) (k := 0) (by omega) (.int .i64 (k : Int))).set (g := w.heap.size + 1) (k := 1) (by omega) (.int .i64 bits)).set (g := w.heap.size + 1) (k := 2) (by omega) (.int .i64 rate)).set (g := w.heap.size + 1) (k := 3) (by omega) (.slice (some ⟨g, 0, none⟩) k k)).mono (by omega)
          · exact (((HB.out.below.setCell (p := ⟨w.heap.size + 1, 0, none⟩) (Nat.le_succ _) _).setCell (p := ⟨w.heap.size + 1, 1, none⟩) (Nat.le_succ _) _).setCell (p := ⟨w.heap.size + 1, 2, none⟩) (Nat.le_succ _) _).setCell (p := ⟨w.heap.size + 1, 3, none⟩) (Nat.le_succ _) _
end Go.Proofs.Ytkdpalmdcnpnoaa.Pcm
