/- Sound that is put together list by list in a box of its own; the document's Silence. Conditions: a right format's number of channels. -/
import Derived.Test.YtkdpalmdcnpnoaaJd
namespace Go.Proofs.Ytkdpalmdcnpnoaa.Pcm
open Go.RowKit Gen

def hx (H : Nat → Option Addr × Nat) (L : Nat → Nat) (k : Nat) : List Value := (List.range k).map fun i => .slice (H i).1 (L i) (H i).2
set_option maxRecDepth 20000 in
theorem hx_len (H : Nat → Option Addr × Nat) (L : Nat → Nat) (k : Nat) : (hx H L k).length = k := by simp [hx]
set_option maxRecDepth 20000 in
theorem hx_at (H : Nat → Option Addr × Nat) (L : Nat → Nat) {k i : Nat} (h : i < k) : (hx H L k)[i]? = some (.slice (H i).1 (L i) (H i).2) := by simp [hx, h]
def upd (H : Nat → Option Addr × Nat) (k : Nat) (x : Option Addr × Nat) (i : Nat) : Option Addr × Nat := if i = k then x else H i
set_option maxRecDepth 20000 in
theorem hx_app (H : Nat → Option Addr × Nat) (L : Nat → Nat) (k : Nat) (x : Option Addr × Nat) : hx H L k ++ [.slice x.1 (L k) x.2] = hx (upd H k x) L (k + 1) := by
  unfold hx
  rw [List.range_succ, List.map_append]
  congr 1
  · apply List.map_congr_left
    intro i hi
    have : i < k := List.mem_range.1 hi
    simp [upd, show i ≠ k from by omega]
  · simp [upd]
/-- Sound that is being made in the box p: k of its lists. -/
structure Us (B p : Nat) (wr : World) (f : Fmt) (k : Nat) (L : Nat → Nat) (X : Nat → Nat → Int) (lo : Option Addr) (lcap : Nat) (H : Nat → Option Addr × Nat) : Prop where
  c0 : wr.cell? ⟨p, 0, none⟩ = some (.int .i64 f.ch)
  c1 : wr.cell? ⟨p, 1, none⟩ = some (.int .i64 f.bits)
  c2 : wr.cell? ⟨p, 2, none⟩ = some (.int .i64 f.rate)
  hdr : wr.cell? ⟨p, 3, none⟩ = some (.slice lo k lcap)
  fz : wr.frozen? ⟨p, 3, none⟩ = false
  own : wr.ownsRow B 55 1 (.slice lo k lcap) k (hx H L k)
  old : ∀ i, i < k → ∃ b off, Isb wr (H i).1 (L i) b off (X i) ∧ (0 < L i → B ≤ b ∧ blk lo ≠ some b)
  pb : p < B
  bs : B ≤ wr.heap.size
set_option maxRecDepth 20000 in
theorem Us.fr {B p : Nat} {wr w2 : World} {f : Fmt} {k : Nat} {L : Nat → Nat} {X : Nat → Nat → Int} {lo : Option Addr} {lcap : Nat} {H : Nat → Option Addr × Nat} (h : Us B p wr f k L X lo lcap H) (hb : Below wr.heap.size wr w2) : Us B p w2 f k L X lo lcap H := by
  have hp : p < wr.heap.size := Nat.lt_of_lt_of_le h.pb h.bs
  have hc : ∀ i, w2.cell? ⟨p, i, none⟩ = wr.cell? ⟨p, i, none⟩ := fun i => hb.cell (p := ⟨p, i, none⟩) hp
  refine ⟨(hc 0).trans h.c0, (hc 1).trans h.c1, (hc 2).trans h.c2, (hc 3).trans h.hdr, (hb.frozen (p := ⟨p, 3, none⟩) hp).trans h.fz, ownsRow_block h.own fun g hg => hb.block g (World.ownsRow.lt h.own g (by rw [ownBlock_slice]; exact hg)).2, fun i hi => ?_, h.pb, Nat.le_trans h.bs hb.size⟩
  obtain ⟨b, off, h1, h2⟩ := h.old i hi
  exact ⟨b, off, h1.below hb h1.lt, h2⟩
set_option maxRecDepth 20000 in
theorem Us.step {B p : Nat} {wr W2 : World} {f : Fmt} {k : Nat} {L : Nat → Nat} {X : Nat → Nat → Int} {lo : Option Addr} {lcap : Nat} {H : Nat → Option Addr × Nat} (h : Us B p wr f k L X lo lcap H) (hb : Below wr.heap.size wr W2)
    {lo1 : Option Addr} {lcap1 : Nat} (hn : NewIs wr.heap.size W2 lo1 (L k) (X k)) {gg cap' : Nat} {w4 : World} (hown4 : w4.ownsRow B 55 1 (.slice (some ⟨gg, 0, none⟩) (k + 1) cap') (k + 1) (hx H L k ++ [.slice lo1 (L k) lcap1])) (hk : Kept W2 w4 (blk lo) k gg) :
    w4.cell? ⟨p, 3, none⟩ = some (.slice lo k lcap) ∧ w4.frozen? ⟨p, 3, none⟩ = false ∧ Us B p (w4.setCell ⟨p, 3, none⟩ (.slice (some ⟨gg, 0, none⟩) (k + 1) cap')) f (k + 1) L X (some ⟨gg, 0, none⟩) cap' (upd H k (lo1, lcap1)) := by
  have h2 := h.fr hb
  have hp : p < W2.heap.size := Nat.lt_of_lt_of_le h2.pb h2.bs
  have hlo : ∀ g, blk lo = some g → B ≤ g ∧ g < wr.heap.size := fun g hg => World.ownsRow.lt h.own g (by rw [ownBlock_slice]; exact hg)
  have hpn : some p ≠ blk lo := fun e => by have := (hlo p e.symm).1; have := h.pb; omega
  have hfar : ∀ b, b < W2.heap.size → some b ≠ blk lo → w4.heap[b]? = W2.heap[b]? := fun b hb hne => hk.grown.block b hb hne
  have hc : ∀ i, w4.cell? ⟨p, i, none⟩ = W2.cell? ⟨p, i, none⟩ := fun i => World.cell?_of_block (a := ⟨p, i, none⟩) (hfar p hp hpn)
  have hz3 : w4.frozen? ⟨p, 3, none⟩ = false := (World.frozen?_of_block (a := ⟨p, 3, none⟩) (hfar p hp hpn)).trans h2.fz
  have h43 := (hc 3).trans h2.hdr
  have ho : ∀ b i, (b ≠ p ∨ i ≠ 3) → (w4.setCell ⟨p, 3, none⟩ (.slice (some ⟨gg, 0, none⟩) (k + 1) cap')).cell? ⟨b, i, none⟩ = w4.cell? ⟨b, i, none⟩ := fun b i hne => World.cell?_setCell_other _ _ _ _ (by intro e; simp at e; omega)
  have hgg : gg ≠ p ∧ B ≤ gg := by
    have := (World.ownsRow.lt hown4 gg (by rw [ownBlock_slice]; rfl)).1
    have := h.pb
    exact ⟨by omega, by omega⟩
  refine ⟨h43, hz3, (ho p 0 (.inr (by decide))).trans ((hc 0).trans h2.c0), (ho p 1 (.inr (by decide))).trans ((hc 1).trans h2.c1), (ho p 2 (.inr (by decide))).trans ((hc 2).trans h2.c2), World.cell?_setCell_same _ _ _ h43, by rw [World.frozen?_setCell]; exact hz3, ?_, fun i hi => ?_, h.pb, ?_⟩
  · rw [← hx_app H L k (lo1, lcap1)]
    exact ownsRow_block hown4 fun g hg => Below.heap_setCell _ ⟨p, 3, none⟩ _ g (show g ≠ p by simp [blk] at hg; omega)
  · have key : ∀ b off (lo' : Option Addr) (len : Nat) (Y : Nat → Int), Isb W2 lo' len b off Y → (0 < len → b ≠ p ∧ some b ≠ blk lo) → Isb (w4.setCell ⟨p, 3, none⟩ (.slice (some ⟨gg, 0, none⟩) (k + 1) cap')) lo' len b off Y := fun b off lo' len Y hI hne => by
      refine ⟨hI.addr, fun j hj => ?_, fun hl => ?_, hI.hl⟩
      · have hn2 := hne (by omega)
        exact (ho b _ (.inl hn2.1)).trans ((World.cell?_of_block (a := ⟨b, _, none⟩) (hfar b (hI.lt (by omega)) hn2.2)).trans (hI.c j hj))
      · have := hI.lt hl
        have := hk.grown.size
        simp; omega
    by_cases e : i = k
    · subst e
      obtain ⟨b, off, h3, h4⟩ := hn
      refine ⟨b, off, ?_, fun hl => ?_⟩
      · simp only [upd, if_true]
        exact key b off _ _ _ h3 (fun hl => ⟨by have := h4 hl; have := h.pb; have := h.bs; omega, fun e => by have := (hlo b e.symm).2; have := h4 hl; omega⟩)
      · have h5 := h4 hl
        have h6 := h3.lt hl
        have h7 := h.bs
        refine ⟨by omega, fun e => ?_⟩
        simp only [blk, Option.map_some, Option.some.injEq] at e
        rcases hk.at_ with e2 | e2
        · have := (hlo gg e2).2; omega
        · omega
    · obtain ⟨b, off, h3, h4⟩ := h2.old i (by omega)
      obtain ⟨b', off', h3', h4'⟩ := h.old i (by omega)
      refine ⟨b, off, ?_, fun hl => ?_⟩
      · simp only [upd, if_neg e]
        exact key b off _ _ _ h3 (fun hl => ⟨by have := (h4 hl).1; have := h.pb; omega, fun e => (h4 hl).2 e.symm⟩)
      · have h5 := h4 hl
        have hbw : b < wr.heap.size := by
          have e1 := h3.addr hl
          have e2 := h3'.addr hl
          rw [e1] at e2
          cases e2
          exact h3'.lt hl
        refine ⟨h5.1, fun e => ?_⟩
        simp only [blk, Option.map_some, Option.some.injEq] at e
        have := hb.size
        rcases hk.at_ with e2 | e2
        · exact h5.2 (by rw [e2, e])
        · omega
  · have := h2.bs
    have := hk.grown.size
    simp; omega
set_option maxRecDepth 20000 in
/-- What is made so is sound. -/
theorem Us.snd {B p : Nat} {wr : World} {f : Fmt} {k : Nat} {L : Nat → Nat} {X : Nat → Nat → Int} {lo : Option Addr} {lcap : Nat} {H : Nat → Option Addr × Nat} (h : Us B p wr f k L X lo lcap H) (hk : k ≤ 9223372036854775807) :
    ∃ d : Dat, d.v = .agg #[.int .i64 f.ch, .int .i64 f.bits, .int .i64 f.rate, .slice lo k lcap] ∧ d.f = f ∧ d.n = k ∧ d.ln = L ∧ d.X = X ∧ Snd wr d ∧ NewSnd B wr d := by
  have hnew : ∀ i, i < k → NewIs B wr (H i).1 (L i) (X i) := fun i hi => by
    obtain ⟨b, off, h1, h2⟩ := h.old i hi
    exact ⟨b, off, h1, fun hl => (h2 hl).1⟩
  have his : ∀ i, i < k → Is wr (H i).1 (L i) (X i) := fun i hi => by
    obtain ⟨b, off, h1, _⟩ := h.old i hi
    exact ⟨b, off, h1⟩
  rcases ownsRow_at h.own with ⟨rfl, rfl, rfl, _⟩ | ⟨g, rfl⟩
  · exact ⟨⟨f, none, 0, 0, B, 0, fun i => (H i).1, L, fun i => (H i).2, X⟩, rfl, rfl, rfl, rfl, rfl, ⟨fun h => absurd h (Nat.lt_irrefl 0), fun i hi => absurd hi (Nat.not_lt_zero i), fun i hi => absurd hi (Nat.not_lt_zero i), fun h => absurd h (Nat.lt_irrefl 0), Nat.zero_le _⟩, Nat.le_refl _, fun i hi => absurd hi (Nat.not_lt_zero i)⟩
  · have hl := World.ownsRow.lt h.own g (by rw [ownBlock_slice]; rfl)
    exact ⟨⟨f, some ⟨g, 0, none⟩, k, lcap, g, 0, fun i => (H i).1, L, fun i => (H i).2, X⟩, rfl, rfl, rfl, rfl, rfl, ⟨fun _ => rfl, fun i hi => by show wr.cell? ⟨g, 0 + i, none⟩ = _; rw [Nat.zero_add]; exact ownsRow_cell h.own i _ (hx_at H L hi), his, fun _ => hl.2, hk⟩, hl.1, hnew⟩
end Go.Proofs.Ytkdpalmdcnpnoaa.Pcm
