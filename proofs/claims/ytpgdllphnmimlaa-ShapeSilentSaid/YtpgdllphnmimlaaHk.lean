/- Lists of numbers, and of calls of a shaper, as the statements' form reads them, opened at every index. No condition. -/
import Derived.Test.YtpgdllphnmimlaaHj
import Derived.Test.YtpgdllphnmimlaaRows
import Derived.ProofKit
import Derived.OpenShut
import Derived.Deep.Slices
import Derived.Deep.Strs
namespace Go.Proofs.Ytpgdllphnmimlaa.Shape
open Go.ChangeShapes Go.WideShapes Go.ChangeAt Go.RowKit Gen

structure Asks (W : World) (a : Option Addr) (len cap b off : Nat) (K N : Nat → Int) : Prop where
  addr : 0 < len → a = some ⟨b, off, none⟩
  k : ∀ i, i < len → W.cell? ⟨b, off + i * 2, none⟩ = some (.int .i64 (K i))
  n : ∀ i, i < len → W.cell? ⟨b, off + i * 2 + 1, none⟩ = some (.int .i64 (N i))
  nb : ∀ i, i < len → -9223372036854775808 ≤ N i ∧ N i ≤ 9223372036854775807
  lt : 0 < len → b < W.heap.size
theorem Asks.below {W W' : World} {a : Option Addr} {len cap b off : Nat} {K N : Nat → Int} (h : Asks W a len cap b off K N) {B : Nat} (hb : Below B W W') (hB : 0 < len → b < B) : Asks W' a len cap b off K N :=
  ⟨h.addr, fun i hi => (hb.cell (p := ⟨b, _, none⟩) (hB (by omega))).trans (h.k i hi), fun i hi => (hb.cell (p := ⟨b, _, none⟩) (hB (by omega))).trans (h.n i hi), h.nb, fun hl => Nat.lt_of_lt_of_le (h.lt hl) hb.size⟩

theorem cells3 : Try.prog.cellsOf 3 = 1 := by kernel_rfl
theorem cells34 : Try.prog.cellsOf 34 = 2 := by kernel_rfl
theorem wf_i64 {n : Int} (h : (Lit.int .i64 n).wf = true) : -9223372036854775808 ≤ n ∧ n ≤ 9223372036854775807 := bounds_i64 h

theorem open_asks {H : Type} {enc : TypeId × Value → H} {W : World} {spare : Nat → Bool} {held : Bool} {fuel : Nat} {a : Option Addr} {len cap : Nat} {x : DataW H × List MemPlace}
    (hf : DataW.trod enc Try.prog W 0 spare held fuel 32 [.slice a len cap] = some x) : ∃ b off K N, Asks W a len cap b off K N := by
  rcases Deep.open_slice Try.underlying32 hf with ⟨hcs, _⟩ | ⟨a', l, c, m, n, D, Pl, hcs, _, hlc, hcm, hm, _, hel⟩
  · simp at hcs
    obtain ⟨rfl, rfl, rfl⟩ := hcs
    exact ⟨0, 0, fun _ => 0, fun _ => 0, by omega, by omega, by omega, by omega, by omega⟩
  · simp at hcs
    obtain ⟨rfl, rfl, rfl⟩ := hcs
    have hlm : len ≤ m := by rw [hm]; split <;> omega
    by_cases h0 : len = 0
    · subst h0
      exact ⟨0, 0, fun _ => 0, fun _ => 0, by omega, by omega, by omega, by omega, by omega⟩
    rw [cells34] at hel
    have each : ∀ i, i < len → ∃ y : Int × Int, W.cell? ((a'.add (i * 2)).add 0) = some (.int .i64 y.1) ∧ W.cell? ((a'.add (i * 2)).add 1) = some (.int .i64 y.2) ∧ (Lit.int .i64 y.2).wf = true := by
      intro i hi
      obtain ⟨cs', h1, h2⟩ := hel i (by omega)
      obtain ⟨_, hl3, hcell⟩ := World.cells?_some h1
      obtain ⟨y0, y1, n', _, _, t0, t1⟩ := trod_struct2 Try.underlying34 h2
      obtain ⟨k0, e0, _, w0⟩ := DataW.trod_int Try.underlying3 t0
      obtain ⟨k1, e1, _, w1⟩ := DataW.trod_int Try.underlying3 t1
      match cs', hl3, e0, e1, hcell with
      | [c0, c1], _, e0, e1, hcell =>
        simp [cells3] at e0 e1
        subst e0 e1
        exact ⟨(k0, k1), hcell 0 (by omega), hcell 1 (by omega), w1⟩
    obtain ⟨b, off, spot⟩ := a'
    obtain ⟨y, hy⟩ := Deep.choose_lt each
    have hspot : spot = none := by
      have := (hy 0 (by omega)).1
      simpa [Addr.add] using World.cell?_spot this
    subst hspot
    have ea : ∀ i j, ((⟨b, off, none⟩ : Addr).add (i * 2)).add j = ⟨b, off + i * 2 + j, none⟩ := fun i j => by rw [Addr.add_lit, Addr.add_lit]
    refine ⟨b, off, fun i => (y i).1, fun i => (y i).2, fun _ => rfl, fun i hi => ?_, fun i hi => ?_, fun i hi => wf_i64 (hy i hi).2.2, fun _ => ?_⟩
    · have := (hy i hi).1; rw [ea] at this; exact this
    · have := (hy i hi).2.1; rw [ea] at this; exact this
    · have := (hy 0 (by omega)).1
      rw [ea] at this
      exact World.block_lt_of_cell? W _ this

theorem open_is {H : Type} {enc : TypeId × Value → H} {W : World} {spare : Nat → Bool} {held : Bool} {fuel : Nat} {a : Option Addr} {len cap : Nat} {x : DataW H × List MemPlace}
    (hf : DataW.trod enc Try.prog W 0 spare held fuel 26 [.slice a len cap] = some x) : ∃ b off I, Isb W a len b off I := by
  rcases Deep.open_slice Try.underlying26 hf with ⟨hcs, _⟩ | ⟨a', l, c, m, n, D, Pl, hcs, _, hlc, hcm, hm, _, hel⟩
  · simp at hcs
    obtain ⟨rfl, rfl, rfl⟩ := hcs
    exact ⟨0, 0, fun _ => 0, by omega, by omega, by omega, by omega⟩
  · simp at hcs
    obtain ⟨rfl, rfl, rfl⟩ := hcs
    have hmx : maxLen = 9223372036854775807 := rfl
    have hlm : len ≤ m := by rw [hm]; split <;> omega
    by_cases h0 : len = 0
    · subst h0
      exact ⟨0, 0, fun _ => 0, by omega, by omega, by omega, by omega⟩
    rw [cells3] at hel
    have each : ∀ i, i < len → ∃ y : Int, W.cell? ((a'.add (i * 1)).add 0) = some (.int .i64 y) ∧ (-9223372036854775808 ≤ y ∧ y ≤ 9223372036854775807) := by
      intro i hi
      obtain ⟨cs', h1, h2⟩ := hel i (by omega)
      obtain ⟨_, hl3, hcell⟩ := World.cells?_some h1
      obtain ⟨k0, e0, _, w0⟩ := DataW.trod_int Try.underlying3 h2
      subst e0
      have hb := wf_i64 w0
      refine ⟨k0, ?_, hb⟩
      rw [hcell 0 (by omega)]
      simp
    obtain ⟨b, off, spot⟩ := a'
    obtain ⟨y, hy⟩ := Deep.choose_lt each
    have hspot : spot = none := by
      have := (hy 0 (by omega)).1
      simpa [Addr.add] using World.cell?_spot this
    subst hspot
    have ea : ∀ i, ((⟨b, off, none⟩ : Addr).add (i * 1)).add 0 = ⟨b, off + i, none⟩ := fun i => by rw [Addr.add_lit, Addr.add_lit]; simp
    refine ⟨b, off, y, fun _ => rfl, fun i hi => ?_, fun _ => ?_, by omega⟩
    · have := (hy i hi).1; rw [ea] at this; exact this
    · have := (hy 0 (by omega)).1
      rw [ea] at this
      exact World.block_lt_of_cell? W _ this
end Go.Proofs.Ytpgdllphnmimlaa.Shape
