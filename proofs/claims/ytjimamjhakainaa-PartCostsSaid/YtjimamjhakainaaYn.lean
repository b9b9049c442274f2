/- Put: a list's code is written, part by part, or it is refused. Conditions: at most 1000 numbers where it is written. -/
import Derived.Test.YtjimamjhakainaaYj
import Derived.Test.YtjimamjhakainaaYl
namespace Go.Proofs.Ytjimamjhakainaa.Part
open Go.RowKit Go.Shelf Bit Rice Runs

theorem pst_own {Wl : World} {B p o : Nat} {ao : Option Addr} {L : Nat} {β : Type} (f : β → Nat × Nat) (hlt : ∀ g, blk ao = some g → g < Wl.heap.size ∧ g ≠ p) :
    OwnFrom Wl.heap.size (fun s W' => Pst Wl B p o ao L (f s) W') := by
  intro s A A' row hs hg hr
  obtain ⟨ao', cap', hw, hp⟩ := hs
  have hF : Fr (fun k => row = some k) A A' := (Fr.refl _ A).grown hg (fun k hk _ => hk)
  have hnp : ¬ row = some p := fun e => by
    obtain ⟨ob, h1, h2⟩ := (hr p e).2
    obtain ⟨ob2, h3, h4⟩ := cells_of_cell hw.c0
    have h5 : A.heap[p]? = some ob2 := h3
    rw [h1] at h5
    cases h5
    rw [h2] at h4
    cases h4
  have hna : ∀ g, blk ao' = some g → ¬ row = some g := fun g hgb e => by
    obtain ⟨ob, h1, h2⟩ := (hr g e).2
    rcases hw.own.2 with ⟨h3, _⟩ | ⟨g2, c2, cur, h3, _, h4, _⟩
    · simp only [Value.slice.injEq] at h3
      rw [h3.1] at hgb
      cases hgb
    · simp only [Value.slice.injEq] at h3
      rw [h3.1] at hgb
      have h5 : g2 = g := by simpa [blk] using hgb
      rw [h5, h1] at h4
      cases h4
      cases h2
  refine ⟨ao', cap', hw.keep hF hnp hna, ⟨hp.fr.grown hg fun k hk hkl => ?_, fun g j hgb hj => ?_, hp.at_⟩⟩
  · have := (hr k hk).1
    omega
  · have h1 := (hlt g hgb).1
    have h2 : A'.heap[g]? = A.heap[g]? := hg.block g (by have := hp.fr.size; omega) (fun e => by have := (hr g e.symm).1; omega)
    exact (World.cell?_of_block (a := ⟨g, j, none⟩) h2).trans (hp.pre g j hgb hj)
theorem keeps_of_fr {X : Nat → Prop} {A A' : World} (hf : Fr X A A') (B : Nat) (hX : ∀ k ob, X k → A.heap[k]? = some ob → ob.isCells = true) : KeepsFrom B A A' :=
  ⟨hf.size, fun k ob _ hk ho => by
    rw [hf.block k (Array.getElem?_eq_some_iff.1 hk).1 fun hx => by have := hX k ob hx hk; rw [this] at ho; cases ho]
    exact hk⟩
theorem wr_cells {A : World} {B p o : Nat} {ao : Option Addr} {cap N L : Nat} (hw : WrN A B p o ao cap N L) (k : Nat) (ob : Obj) (hk : k = p ∨ blk ao = some k) (h : A.heap[k]? = some ob) : ob.isCells = true := by
  rcases hk with rfl | hk
  · obtain ⟨ob2, h3, h4⟩ := cells_of_cell hw.c0
    have h5 : A.heap[k]? = some ob2 := h3
    rw [h] at h5
    cases h5
    exact h4
  · rcases hw.own.2 with ⟨h3, _⟩ | ⟨g2, c2, cur, h3, _, h4, _⟩
    · simp only [Value.slice.injEq] at h3
      rw [h3.1] at hk
      cases hk
    · simp only [Value.slice.injEq] at h3
      rw [h3.1] at hk
      have h5 : g2 = k := by simpa [blk] using hk
      rw [h5, h] at h4
      cases h4
      rfl

/-- A part of a list, as its numbers; a part's code; the code of some parts. -/
def pI (I : Nat → Int) (len p i : Nat) : Nat → Int := fun j => I (bd len p i + j)
def pn (len p i : Nat) : Nat := bd len p (i + 1) - bd len p i
def pcode (I : Nat → Int) (n : Nat) (r : Nat × Nat) : Nat × Nat := pcw (wy I n) I n r
def pfs (I : Nat → Int) (len p : Nat) (r : Nat × Nat) (l : List Nat) : Nat × Nat := l.foldl (fun r i => pcode (pI I len p i) (pn len p i) r) r
theorem is_part {w : World} {a : Option Addr} {len cap b off : Nat} {I : Nat → Int} (h : Is w a len cap b off I) (p i : Nat) (hi : i < 2 ^ p) :
    Is w (ptA a cap (bd len p i)) (pn len p i) (cap - bd len p i) b (off + bd len p i) (pI I len p i) := by
  have h1 := bd_mono len p i
  have h2 := bd_le len p (i + 1) hi
  have hl := h.hl
  unfold pn pI
  refine ⟨fun h0 => ?_, fun j hj => ?_, fun j hj => h.ib _ (by omega), fun h0 => h.lt (by omega), by omega, by have := h.hc; omega⟩
  · unfold ptA
    rw [if_neg (by omega), h.addr (by omega)]
    have e : (⟨b, off, none⟩ : Addr).add (bd len p i) = ⟨b, off + bd len p i, none⟩ := by unfold Addr.add; split <;> simp_all
    show some ((⟨b, off, none⟩ : Addr).add (bd len p i)) = _
    rw [e]
  · rw [Nat.add_assoc]
    exact h.c _ (by omega)
theorem allZ_part {I : Nat → Int} {len : Nat} (h : allZ I len) (p i : Nat) (hi : i < 2 ^ p) : allZ (pI I len p i) (pn len p i) := fun j hj => by
  have h1 := bd_mono len p i
  have h2 := bd_le len p (i + 1) hi
  unfold pn at hj
  exact h _ (by omega)

theorem pput_nil (v : Value) (p : Int) (w : World) : Calls Try.prog 21 #[.pointer none, v, .int .i64 p] w fun e w' => e = .returned (.int .i64 2) ∧ Below w.heap.size w w' := by
  have hb := (Below.refl w.heap.size w).alloc (Nat.le_refl _) (.cells #[.pointer none] 40)
  go_enter Try.func21, Try.ntmps21
  go_wp2_with fail
  go_ret
  exact ⟨rfl, hb⟩
theorem pput_long (q : Addr) (a : Option Addr) (len cap : Nat) (h : 65536 < len) (p : Int) (w : World) : Calls Try.prog 21 #[.pointer (some q), .slice a len cap, .int .i64 p] w fun e w' => e = .returned (.int .i64 4) ∧ Below w.heap.size w w' := by
  have hb := (Below.refl w.heap.size w).alloc (Nat.le_refl _) (.cells #[.pointer (some q)] 40)
  have h2 : (65536 : Int) < (len : Int) := by omega
  go_enter Try.func21, Try.ntmps21
  go_wp2_with fail
  go_ret
  exact ⟨rfl, hb⟩
theorem pput_range (q : Addr) (a : Option Addr) (len cap b off : Nat) (I : Nat → Int) (w : World) (hi : Is w a len cap b off I) (h : len ≤ 65536) (hz : ¬ allZ I len) (p : Int) : Calls Try.prog 21 #[.pointer (some q), .slice a len cap, .int .i64 p] w fun e w' => e = .returned (.int .i64 3) ∧ Below w.heap.size w w' := by
  have hb := (Below.refl w.heap.size w).alloc (Nat.le_refl _) (.cells #[.pointer (some q)] 40)
  have h2 : ¬ (65536 : Int) < (len : Int) := by omega
  have HC := hid (pcoded_any _ a len cap b off I (hi.below hb hi.lt))
  have HZ := hid hz
  clear hz hi
  go_enter Try.func21, Try.ntmps21
  go_wp2_with fail
  refine HC.out.mono ?_
  rintro e w' ⟨x, rfl, rfl, hx⟩
  obtain rfl : x = false := by
    cases x
    · rfl
    · exact absurd (hx.1 rfl).2 HZ.out
  clear hx
  go_wp2_with fail
  go_ret
  exact ⟨rfl, hb⟩
theorem pput_arg (q : Addr) (a : Option Addr) (len cap b off : Nat) (I : Nat → Int) (w : World) (hi : Is w a len cap b off I) (h : len ≤ 65536) (hz : allZ I len) (p : Int) (hp : ¬ ord len p) : Calls Try.prog 21 #[.pointer (some q), .slice a len cap, .int .i64 p] w fun e w' => e = .returned (.int .i64 1) ∧ Below w.heap.size w w' := by
  have hb := (Below.refl w.heap.size w).alloc (Nat.le_refl _) (.cells #[.pointer (some q)] 40)
  have h2 : ¬ (65536 : Int) < (len : Int) := by omega
  have HC := hid (pcoded_any _ a len cap b off I (hi.below hb hi.lt))
  have HZ := hid hz
  have HO := hid (isorder_any len (by omega) p (w.alloc (.cells #[.pointer (some q)] 40)))
  rw [decide_eq_false hp] at HO
  clear hz hi hp
  go_enter Try.func21, Try.ntmps21
  go_wp2_with fail
  refine HC.out.mono ?_
  rintro e w' ⟨x, rfl, rfl, hx⟩
  obtain rfl : x = true := hx.2 ⟨h, HZ.out⟩
  clear hx
  go_wp2_with fail
  refine HO.out.mono ?_
  rintro e w' ⟨rfl, rfl⟩
  go_wp2_with fail
  go_ret
  exact ⟨rfl, hb⟩
