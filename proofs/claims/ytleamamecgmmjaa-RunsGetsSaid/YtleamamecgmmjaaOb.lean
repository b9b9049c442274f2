/- A slice of bytes as one number, as the statements' form reads it; a reader and the document's own reader side by side. No condition. -/
import Derived.Test.YtleamamecgmmjaaGb
import Derived.Test.YtleamamecgmmjaaRd2
import Derived.Test.YtleamamecgmmjaaOu
namespace Go.Proofs.Ytleamamecgmmjaa.Rice
open Go.ChangeShapes Go.WideShapes Go.ChangeAt Go.RowKit Bit

/-- Some bytes as one number. -/
def num (D : Nat → Nat) : Nat → Nat
  | 0 => 0
  | k + 1 => num D k * 2 ^ 8 + D k
theorem num_div (D : Nat → Nat) (hD : ∀ i, D i < 256) (k : Nat) : ∀ r, num D (k + r) / 2 ^ (8 * r) = num D k
  | 0 => by simp
  | r + 1 => by
    have h := num_div D hD k r
    have hd := hD (k + r)
    show (num D (k + r) * 2 ^ 8 + D (k + r)) / _ = _
    rw [show 8 * (r + 1) = 8 + 8 * r from by omega, Nat.pow_add, ← Nat.div_div_eq_div_mul, Nat.mul_comm, Nat.mul_add_div (by decide), Nat.div_eq_of_lt (show D (k + r) < 2 ^ 8 from hd), Nat.add_zero]
    exact h
theorem byt_num (D : Nat → Nat) (hD : ∀ i, D i < 256) (T i : Nat) (hi : i < T) : byt (num D T) (8 * T) i = D i := by
  unfold byt
  have h := num_div D hD (i + 1) (T - (i + 1))
  rw [show i + 1 + (T - (i + 1)) = T from by omega, show 8 * (T - (i + 1)) = 8 * T - 8 * (i + 1) from by omega] at h
  rw [h]
  have hd := hD i
  show (num D i * 2 ^ 8 + D i) % 256 = D i
  omega

def Byts (W : World) (a : Option Addr) (len M : Nat) : Prop := ∀ j, j < len → ∃ b off, a = some ⟨b, off, none⟩ ∧ W.cell? ⟨b, off + j, none⟩ = some (.int .u8 (byt M (8 * len) j : Int)) ∧ b < W.heap.size
theorem Byts.below {W W' : World} {a : Option Addr} {len M : Nat} (h : Byts W a len M) (hb : Below W.heap.size W W') : Byts W' a len M := fun j hj => by
  obtain ⟨b, off, h1, h2, h3⟩ := h j hj
  exact ⟨b, off, h1, (hb.cell (p := ⟨b, off + j, none⟩) h3).trans h2, Nat.lt_of_lt_of_le h3 hb.size⟩

theorem cells5 : Try.prog.cellsOf 5 = 1 := by kernel_rfl
theorem open_byts {H : Type} {enc : TypeId × Value → H} {W : World} {spare : Nat → Bool} {held : Bool} {fuel : Nat} {a : Option Addr} {len cap : Nat} {x : DataW H × List MemPlace}
    (hf : DataW.trod enc Try.prog W 0 spare held fuel 24 [.slice a len cap] = some x) : ∃ M, Byts W a len M := by
  rcases Deep.open_slice Try.underlying24 hf with ⟨hcs, _⟩ | ⟨a', l, c, m, n, D, Pl, hcs, _, hlc, hcm, hm, _, hel⟩
  · simp at hcs
    obtain ⟨rfl, rfl, rfl⟩ := hcs
    exact ⟨0, fun j hj => absurd hj (Nat.not_lt_zero _)⟩
  · simp at hcs
    obtain ⟨rfl, rfl, rfl⟩ := hcs
    have hlm : len ≤ m := by rw [hm]; split <;> omega
    by_cases h0 : len = 0
    · subst h0
      exact ⟨0, fun j hj => absurd hj (Nat.not_lt_zero _)⟩
    rw [cells5] at hel
    have each : ∀ i, i < len → ∃ y : Nat, W.cell? ((a'.add (i * 1)).add 0) = some (.int .u8 (y : Int)) ∧ y < 256 := by
      intro i hi
      obtain ⟨cs', h1, h2⟩ := hel i (by omega)
      obtain ⟨_, hl3, hcell⟩ := World.cells?_some h1
      obtain ⟨k0, e0, _, w0⟩ := DataW.trod_int Try.underlying5 h2
      subst e0
      have hb := bounds_u8 w0
      refine ⟨k0.toNat, ?_, by omega⟩
      rw [hcell 0 (by omega)]
      simp; omega
    obtain ⟨b, off, spot⟩ := a'
    obtain ⟨y, hy⟩ := Deep.choose_lt each
    have hspot : spot = none := by
      have := (hy 0 (by omega)).1
      simpa [Addr.add] using World.cell?_spot this
    subst hspot
    have ea : ∀ i, ((⟨b, off, none⟩ : Addr).add (i * 1)).add 0 = ⟨b, off + i, none⟩ := fun i => by rw [Addr.add_lit, Addr.add_lit]; simp
    have hD : ∀ i, (if i < len then y i else 0) < 256 := fun i => by
      by_cases hi : i < len
      · rw [if_pos hi]; exact (hy i hi).2
      · rw [if_neg hi]; decide
    refine ⟨num (fun i => if i < len then y i else 0) len, fun j hj => ⟨b, off, rfl, ?_, ?_⟩⟩
    · rw [byt_num _ hD len j hj, if_pos hj]
      have := (hy j hj).1; rw [ea] at this; exact this
    · have := (hy j hj).1; rw [ea] at this
      exact World.block_lt_of_cell? W _ this

theorem read_b {w wr : World} {a : Option Addr} {T cap M : Nat} (hB : Byts w a T M) (hb : Below w.heap.size w wr) (hT : T ≤ 1099511627776) :
    Calls Try.prog 18 #[.slice a T cap] wr fun e w' => ∃ q, e = .returned (.pointer (some ⟨q, 0, none⟩)) ∧ wr.heap.size < q ∧ Below wr.heap.size wr w' ∧ Rd w' q wr.heap.size M T 0 := by
  have hB' := hB.below hb
  exact read_any wr a T cap M hT (fun j hj => by obtain ⟨b, off, rfl, h2, h3⟩ := hB' j hj; exact ⟨_, rfl, by rw [Addr.add_lit]; exact h2⟩) (fun ad ha h0 => by obtain ⟨b, off, rfl, h2, h3⟩ := hB' 0 h0; cases ha; exact h3)
theorem rread_b {w wr : World} {a : Option Addr} {T cap M : Nat} (hB : Byts w a T M) (hb : Below w.heap.size w wr) (hT : T ≤ 1048576) :
    Calls Try.prog 27 #[.slice a T cap] wr fun e w' => ∃ q lo lcap, e = .returned (.pointer (some ⟨q, 0, none⟩)) ∧ Rf w' wr.heap.size q lo lcap M T 0 ∧ wr.heap.size ≤ q ∧ Below wr.heap.size wr w' :=
  rfread_any wr a T cap M hT (hB.below hb)
end Go.Proofs.Ytleamamecgmmjaa.Rice
