/- What stands while the document's Part goes on. Conditions: a right format, a list of n K numbers. -/
import Derived.Test.YtfidnklppbdebaaLe
import Derived.Test.YtfidnklppbdebaaLd
namespace Go.Proofs.Ytfidnklppbdebaa.Pcm
open Go.RowKit Gen

structure Pr (w wr : World) (f : Fmt) : Prop where
  f0 : wr.cell? ⟨w.heap.size, 0, none⟩ = some (.int .i64 f.ch)
  f1 : wr.cell? ⟨w.heap.size, 1, none⟩ = some (.int .i64 f.bits)
  f2 : wr.cell? ⟨w.heap.size, 2, none⟩ = some (.int .i64 f.rate)
  r : ∀ i v, (#[.int .i64 0, .int .i64 0, .int .i64 0, .slice none 0 0] : Array Value)[i]? = some v → wr.cell? ⟨w.heap.size + 1, i, none⟩ = some v
  z : ∀ i, wr.frozen? ⟨w.heap.size + 1, i, none⟩ = false
  below : Below w.heap.size w wr
  lt : w.heap.size + 2 ≤ wr.heap.size
theorem Pr.upto {w w1 w2 : World} {f : Fmt} (h : Pr w w1 f) (hb : Below w1.heap.size w1 w2) : Pr w w2 f := by
  have hlt := h.lt
  have hf : ∀ i, w2.cell? ⟨w.heap.size, i, none⟩ = w1.cell? ⟨w.heap.size, i, none⟩ := fun i => hb.cell (p := ⟨w.heap.size, i, none⟩) (show w.heap.size < _ by omega)
  exact ⟨(hf 0).trans h.f0, (hf 1).trans h.f1, (hf 2).trans h.f2,
    fun i v hv => (hb.cell (p := ⟨w.heap.size + 1, i, none⟩) (show w.heap.size + 1 < _ by omega)).trans (h.r i v hv),
    fun i => (hb.frozen (p := ⟨w.heap.size + 1, i, none⟩) (show w.heap.size + 1 < _ by omega)).trans (h.z i), h.below.trans (hb.mono h.below.size), Nat.le_trans hlt hb.size⟩
theorem pr_new (w : World) (f : Fmt) : Pr w ((w.alloc (.cells #[.int .i64 f.ch, .int .i64 f.bits, .int .i64 f.rate] 23)).alloc (.cells #[.int .i64 0, .int .i64 0, .int .i64 0, .slice none 0 0] 26)) f := by
  have h0 : ∀ i (v : Value), (#[.int .i64 f.ch, .int .i64 f.bits, .int .i64 f.rate] : Array Value)[i]? = some v → ((w.alloc (.cells #[.int .i64 f.ch, .int .i64 f.bits, .int .i64 f.rate] 23)).alloc (.cells #[.int .i64 0, .int .i64 0, .int .i64 0, .slice none 0 0] 26)).cell? ⟨w.heap.size, i, none⟩ = some v := fun i v hv => by
    rw [cell_old _ _ _ _ (by simp), World.cell?_alloc_at _ _ _ _ rfl]; exact hv
  refine ⟨h0 0 _ rfl, h0 1 _ rfl, h0 2 _ rfl, fun i v hv => ?_, fun i => fz_new _ _ _ _ _ (by simp), (below_new w _).alloc (by simp) _, by simp⟩
  rw [World.cell?_alloc_at _ _ _ _ (by simp)]; exact hv
theorem Pr.four {w wr : World} {f : Fmt} (h : Pr w wr f) : ∀ i, i < 4 → ∃ v, wr.cell? ⟨w.heap.size + 1, i, none⟩ = some v := fun i hi => by
  match i, hi with
  | 0, _ => exact ⟨_, h.r 0 _ rfl⟩
  | 1, _ => exact ⟨_, h.r 1 _ rfl⟩
  | 2, _ => exact ⟨_, h.r 2 _ rfl⟩
  | 3, _ => exact ⟨_, h.r 3 _ rfl⟩
theorem cell_far (w : World) (g k b i : Nat) (v : Value) (h : b ≠ g) : (w.setCell ⟨g, k, none⟩ v).cell? ⟨b, i, none⟩ = w.cell? ⟨b, i, none⟩ := World.cell?_setCell_other _ _ _ _ (fun e => h (congrArg Addr.block e).symm)
theorem Pr.set {w wr : World} {f : Fmt} (h : Pr w wr f) {g k : Nat} (hg : w.heap.size + 2 ≤ g) (v : Value) : Pr w (wr.setCell ⟨g, k, none⟩ v) f :=
  ⟨(cell_far _ _ _ _ _ _ (by omega)).trans h.f0, (cell_far _ _ _ _ _ _ (by omega)).trans h.f1, (cell_far _ _ _ _ _ _ (by omega)).trans h.f2, fun i v hv => (cell_far _ _ _ _ _ _ (by omega)).trans (h.r i v hv),
    fun i => by rw [World.frozen?_setCell]; exact h.z i, h.below.setCell (p := ⟨g, k, none⟩) (show w.heap.size ≤ g by omega) _, by simp; exact h.lt⟩
/-- Sound of n lists of K numbers, into which the first t of a list are put, frame by frame. -/
structure Pt (w wr : World) (f : Fmt) (q : Nat) (d : Dat) (G : Nat → Nat) (n K : Nat) (X : Nat → Int) (t : Nat) : Prop where
  pr : Pr w wr f
  bx : Bx wr q d
  dn : d.n = n
  df : d.f = f
  da : d.a = some ⟨d.b, d.off, none⟩
  db : w.heap.size + 2 ≤ d.b ∧ d.b < wr.heap.size
  hd : ∀ i, i < n → wr.cell? ⟨d.b, d.off + i, none⟩ = some (.slice (some ⟨G i, 0, none⟩) K (d.lc i))
  el : ∀ i m, i < n → m < K → wr.cell? ⟨G i, m, none⟩ = some (.int .i64 (if n * m + i < t then X (n * m + i) else 0))
  fz : ∀ i m, i < n → wr.frozen? ⟨G i, m, none⟩ = false
  sep : ∀ i, i < n → G i ≠ d.b ∧ G i ≠ q ∧ w.heap.size + 2 ≤ G i ∧ G i < wr.heap.size
  inj : ∀ i j, i < n → j < n → G i = G j → i = j
theorem Pt.step {w wr : World} {f : Fmt} {q : Nat} {d : Dat} {G : Nat → Nat} {n K : Nat} {X : Nat → Int} {t : Nat} (h : Pt w wr f q d G n K X t) {i0 m0 : Nat} (hi : i0 < n) (hm : m0 < K) (ht : t = n * m0 + i0) :
    Pt w (wr.setCell ⟨G i0, m0, none⟩ (.int .i64 (X t))) f q d G n K X (t + 1) := by
  have hs := h.sep i0 hi
  have hc : ∀ b i, b ≠ G i0 → (wr.setCell ⟨G i0, m0, none⟩ (.int .i64 (X t))).cell? ⟨b, i, none⟩ = wr.cell? ⟨b, i, none⟩ := fun b i hb => cell_far _ _ _ _ _ _ hb
  refine ⟨h.pr.set hs.2.2.1 _, ⟨(hc q _ (Ne.symm hs.2.1)).trans h.bx.c0, (hc q _ (Ne.symm hs.2.1)).trans h.bx.c1, (hc q _ (Ne.symm hs.2.1)).trans h.bx.c2, (hc q _ (Ne.symm hs.2.1)).trans h.bx.c3⟩, h.dn, h.df, h.da, by have := h.db; simp; omega,
    fun i hi' => (hc _ _ (Ne.symm hs.1)).trans (h.hd i hi'), fun i m hi' hm' => ?_, fun i m hi' => by rw [World.frozen?_setCell]; exact h.fz i m hi', fun i hi' => by have := h.sep i hi'; simp; omega, h.inj⟩
  have ho := h.el i m hi' hm'
  by_cases e : i = i0 ∧ m = m0
  · obtain ⟨rfl, rfl⟩ := e
    rw [World.cell?_setCell_same _ _ _ ho, if_pos (by omega), ht]
  · have hne : n * m + i ≠ t := fun e2 => e (by
      rw [ht] at e2
      have h1 : (n * m + i) % n = i := by rw [Nat.mul_add_mod, Nat.mod_eq_of_lt hi']
      have h2 : (n * m0 + i0) % n = i0 := by rw [Nat.mul_add_mod, Nat.mod_eq_of_lt hi]
      have h3 : i = i0 := by rw [← h1, e2, h2]
      have h4 : n * m = n * m0 := by omega
      exact ⟨h3, Nat.eq_of_mul_eq_mul_left (by omega) h4⟩)
    have h5 : (wr.setCell ⟨G i0, m0, none⟩ (.int .i64 (X t))).cell? ⟨G i, m, none⟩ = wr.cell? ⟨G i, m, none⟩ := by
      by_cases e3 : i = i0
      · exact World.cell?_setCell_other _ _ _ _ (fun e4 => e ⟨e3, (congrArg Addr.off e4).symm⟩)
      · exact hc _ _ fun e4 => e3 (h.inj i i0 hi' hi e4)
    rw [h5, ho]
    by_cases e6 : n * m + i < t
    · rw [if_pos e6, if_pos (by omega)]
    · rw [if_neg e6, if_neg (by omega)]
theorem Pt.snd {w wr : World} {f : Fmt} {q : Nat} {d : Dat} {G : Nat → Nat} {n K L : Nat} {X : Nat → Int} (h : Pt w wr f q d G n K X L) (hL : L = n * K) (hn : 0 < n) (h8 : n ≤ 8) (hK : K ≤ 4294967296) (hf : f.ch = (n : Int)) :
    ∃ s : Dat, s.v = d.v ∧ PartOk f L X s ∧ Snd wr s ∧ NewSnd (w.heap.size + 2) wr s := by
  have hin : ∀ i m, i < n → m < K → n * m + i < L := fun i m hi hm => by rw [hL]; exact place_lt hm hi
  have hisb : ∀ i, i < n → Isb wr (some ⟨G i, 0, none⟩) K (G i) 0 (fun m => X (n * m + i)) := fun i hi =>
    ⟨fun _ => rfl, fun m hm => by rw [Nat.zero_add, h.el i m hi hm, if_pos (hin i m hi hm)], fun _ => (h.sep i hi).2.2.2, by omega⟩
  refine ⟨⟨d.f, d.a, d.n, d.cap, d.b, d.off, fun i => some ⟨G i, 0, none⟩, fun _ => K, d.lc, fun k m => X (n * m + k)⟩, rfl, ⟨h.df, ?_, fun k hk => ⟨?_, ?_⟩⟩, ⟨fun _ => h.da, fun i hi => ?_, fun i hi => ?_, fun _ => h.db.2, ?_⟩, h.db.1, fun i hi => ?_⟩
  · show (d.n : Int) = f.ch
    rw [h.dn, hf]
  · show K = L / d.n
    rw [h.dn, hL, Nat.mul_div_cancel_left _ hn]
  · show (fun m => X (n * m + k)) = fun m => X (d.n * m + k)
    rw [h.dn]
  · have hi' : i < d.n := hi
    rw [h.dn] at hi'
    exact h.hd i hi'
  · have hi' : i < d.n := hi
    rw [h.dn] at hi'
    exact ⟨_, _, hisb i hi'⟩
  · show d.n ≤ _
    rw [h.dn]; omega
  · have hi' : i < d.n := hi
    rw [h.dn] at hi'
    exact ⟨_, _, hisb i hi', fun _ => (h.sep i hi').2.2.1⟩
/-- Of silence it begins. -/
theorem pt_new {w wr : World} {f : Fmt} {q B n K : Nat} {d : Dat} {G : Nat → Nat} {X : Nat → Int} (hpr : Pr w wr f) (hbx : Bx wr q d) (hs : Snd wr d) (hns : NewSnd B wr d) (ho : Own B wr d G) (hB : w.heap.size + 2 ≤ B) (hq : ∀ i, i < n → G i ≠ q) (hn : 0 < n) (hdn : d.n = n) (hdf : d.f = f) (hl : ∀ i, i < d.n → d.ln i = K ∧ d.X i = fun _ => 0) :
    Pt w wr f q d G n K X 0 := by
  have h0 : 0 < d.n := by omega
  refine ⟨hpr, hbx, hdn, hdf, hs.addr h0, ⟨by have := hns.1; omega, hs.lt h0⟩, fun i hi => ?_, fun i m hi hm => ?_, fun i m hi => ho.fz i (by omega) m, fun i hi => ⟨ho.far i (by omega), hq i hi, by have := ho.lt i (by omega); omega, (ho.lt i (by omega)).2⟩, fun i j hi hj e => ?_⟩
  · rw [hs.c i (by omega), ho.at_ i (by omega), (hl i (by omega)).1]
  · obtain ⟨b, o, hI⟩ := hs.l i (by omega)
    have hk := (hl i (by omega)).1
    have e := hI.addr (by omega)
    rw [ho.at_ i (by omega)] at e
    cases e
    have := hI.c m (by omega)
    rw [(hl i (by omega)).2] at this
    rw [if_neg (by omega)]
    simpa using this
  · rcases Nat.lt_trichotomy i j with h | h | h
    · have := ho.mono i j h (by omega); omega
    · exact h
    · have := ho.mono j i h (by omega); omega
end Go.Proofs.Ytfidnklppbdebaa.Pcm
