/- A maker of bytes in memory (its first error, its bytes), and its methods: what they lay, what error stays, and that nothing else has turned. Conditions: fewer than 2^40 bytes. -/
import Derived.Test.YtgcnbeigchppfaaByt
namespace Go.Proofs.Ytgcnbeigchppfaa.Fld
open Go.RowKit Gen

/-- A maker at block p: its first error F, its bytes l in a row of the call's own. -/
structure MkA (w : World) (B p : Nat) (ao : Option Addr) (cap F : Nat) (l : List Nat) : Prop where
  c0 : w.cell? ⟨p, 0, none⟩ = some (.int .i64 (F : Int))
  c1 : w.cell? ⟨p, 1, none⟩ = some (.slice ao l.length cap)
  f0 : w.frozen? ⟨p, 0, none⟩ = false
  f1 : w.frozen? ⟨p, 1, none⟩ = false
  own : w.ownsRow B 5 1 (.slice ao l.length cap) l.length (bl l)
  far : blk ao ≠ some p
  base : B ≤ p
  lt : ∀ b ∈ l, b < 256
  err : F ≠ 0 → l = []

/-- What a maker's calls leave as it was: all but its own block and its row's. -/
structure Psh (w w' : World) (p : Nat) (ao ao' : Option Addr) : Prop where
  fr : Fr (fun b => b = p ∨ blk ao = some b) w w'
  at_ : blk ao' = blk ao ∨ ∀ g, blk ao' = some g → w.heap.size ≤ g

set_option maxRecDepth 100000 in
theorem MkA.plt {w : World} {B p cap F : Nat} {ao : Option Addr} {l : List Nat} (h : MkA w B p ao cap F l) : p < w.heap.size := World.block_lt_of_cell? w _ h.c0
set_option maxRecDepth 100000 in
theorem MkA.rlt {w : World} {B p cap F : Nat} {ao : Option Addr} {l : List Nat} (h : MkA w B p ao cap F l) : ∀ g, blk ao = some g → B ≤ g ∧ g < w.heap.size := fun g hg => h.own.lt g (by rw [ownBlock_slice]; exact hg)
set_option maxRecDepth 100000 in
theorem MkA.keep {w w' : World} {B p cap F : Nat} {ao : Option Addr} {l : List Nat} (h : MkA w B p ao cap F l) {X : Nat → Prop} (hf : Fr X w w') (hp : ¬ X p) (hr : ∀ g, blk ao = some g → ¬ X g) : MkA w' B p ao cap F l :=
  ⟨(hf.cell (p := ⟨p, 0, none⟩) h.plt hp).trans h.c0, (hf.cell (p := ⟨p, 1, none⟩) h.plt hp).trans h.c1, (hf.frozen (p := ⟨p, 0, none⟩) h.plt hp).trans h.f0, (hf.frozen (p := ⟨p, 1, none⟩) h.plt hp).trans h.f1,
    ownsRow_block h.own fun g hg => hf.block g (h.rlt g hg).2 (hr g hg), h.far, h.base, h.lt, h.err⟩
set_option maxRecDepth 100000 in
theorem MkA.below {w w' : World} {B p cap F : Nat} {ao : Option Addr} {l : List Nat} (h : MkA w B p ao cap F l) (hb : Below w.heap.size w w') : MkA w' B p ao cap F l :=
  h.keep (X := fun k => w.heap.size ≤ k) ⟨hb.os, hb.tape, hb.output, hb.size, fun k hk _ => hb.block k hk⟩ (by have := h.plt; omega) (fun g hg => by have := (h.rlt g hg).2; omega)
set_option maxRecDepth 100000 in
theorem MkA.bytes {w : World} {B p cap F : Nat} {ao : Option Addr} {l : List Nat} (h : MkA w B p ao cap F l) : Byts w ao l := Byts.of_row h.lt h.own

set_option maxRecDepth 100000 in
theorem Psh.refl (w : World) (p : Nat) (ao : Option Addr) : Psh w w p ao ao := ⟨Fr.refl _ _, .inl rfl⟩
set_option maxRecDepth 100000 in
theorem Psh.trans {a b c : World} {p : Nat} {ao ao1 ao2 : Option Addr} (h : Psh a b p ao ao1) (h1 : Psh b c p ao1 ao2) : Psh a c p ao ao2 := by
  refine ⟨⟨h1.fr.os.trans h.fr.os, h1.fr.tape.trans h.fr.tape, h1.fr.output.trans h.fr.output, Nat.le_trans h.fr.size h1.fr.size, ?_⟩, ?_⟩
  · intro i hi hx
    refine (h1.fr.block i (Nat.lt_of_lt_of_le hi h.fr.size) ?_).trans (h.fr.block i hi hx)
    rintro (e | e)
    · exact hx (.inl e)
    · rcases h.at_ with e1 | e1
      · exact hx (.inr (e1 ▸ e))
      · have := e1 i e; omega
  · rcases h1.at_ with e1 | e1
    · rw [e1]; exact h.at_
    · exact .inr fun g hg => Nat.le_trans h.fr.size (e1 g hg)
set_option maxRecDepth 100000 in
theorem Psh.below {w w' : World} {p B : Nat} {ao ao' : Option Addr} (h : Psh w w' p ao ao') (hp : B ≤ p) (hr : ∀ g, blk ao = some g → B ≤ g) (hB : B ≤ w.heap.size) : Below B w w' :=
  ⟨h.fr.os, h.fr.tape, h.fr.output, h.fr.size, fun k hk => h.fr.block k (by omega) (by
    rintro (e | e)
    · omega
    · have := hr k e; omega)⟩
set_option maxRecDepth 100000 in
/-- New blocks alone. -/
theorem Psh.new {w w' : World} (h : Below w.heap.size w w') (p : Nat) (ao : Option Addr) : Psh w w' p ao ao := ⟨⟨h.os, h.tape, h.output, h.size, fun k hk _ => h.block k hk⟩, .inl rfl⟩

set_option maxRecDepth 100000 in
theorem setC0 {w : World} {B p cap F : Nat} {ao : Option Addr} {l : List Nat} (h : MkA w B p ao cap F l) (F' : Nat) : (w.setCell ⟨p, 0, none⟩ (.int .i64 (F' : Int))).cell? ⟨p, 0, none⟩ = some (.int .i64 (F' : Int)) := World.cell?_setCell_same _ _ _ (by rw [h.c0])

set_option maxRecDepth 100000 in
/-- Behind an error. -/
theorem MkA.fail {w : World} {B p cap F : Nat} {ao : Option Addr} {l : List Nat} (h : MkA w B p ao cap F l) (E : Nat) : MkA ((w.setCell ⟨p, 0, none⟩ (.int .i64 (E : Int))).setCell ⟨p, 1, none⟩ (.slice none 0 0)) B p none 0 E [] := by
  refine ⟨?_, ?_, ?_, ?_, World.ownsRow_nil _ _ _ _, by simp [blk], h.base, (fun _ hb => by cases hb), (fun _ => rfl)⟩
  · rw [World.cell?_setCell_other _ _ _ _ (by intro e; simp at e)]
    exact World.cell?_setCell_same _ _ _ (by rw [h.c0])
  · exact World.cell?_setCell_same _ _ _ (by rw [World.cell?_setCell_other _ _ _ _ (by intro e; simp at e), h.c1])
  · simp [h.f0]
  · simp [h.f1]
set_option maxRecDepth 100000 in
theorem MkA.failed {w : World} {B p cap F : Nat} {ao : Option Addr} {l : List Nat} (h : MkA w B p ao cap F l) : MkA (w.setCell ⟨p, 1, none⟩ (.slice none 0 0)) B p none 0 F [] := by
  refine ⟨?_, ?_, ?_, ?_, World.ownsRow_nil _ _ _ _, by simp [blk], h.base, (fun _ hb => by cases hb), (fun _ => rfl)⟩
  · rw [World.cell?_setCell_other _ _ _ _ (by intro e; simp at e)]
    exact h.c0
  · exact World.cell?_setCell_same _ _ _ (by rw [h.c1])
  · simp [h.f0]
  · simp [h.f1]

set_option maxRecDepth 100000 in
theorem width_yes (n : Int) (h1 : 1 ≤ n) (h8 : n ≤ 8) (w : World) : Calls Try.prog 83 #[.int .i64 n] w fun e w' => e = .returned (.bool true) ∧ w = w' := by
  go_enter Try.func83, Try.ntmps83
  go_wp2
  go_ret
  exact ⟨rfl, rfl⟩
set_option maxRecDepth 100000 in
theorem width_no (n : Int) (h : n < 1 ∨ 8 < n) (w : World) : Calls Try.prog 83 #[.int .i64 n] w fun e w' => e = .returned (.bool false) ∧ w = w' := by
  rcases h with h | h
  · have h1 : ¬ 1 ≤ n := by omega
    go_enter Try.func83, Try.ntmps83
    go_wp2
    go_ret
    exact ⟨rfl, rfl⟩
  · have h1 : 1 ≤ n := by omega
    have h2 : ¬ n ≤ 8 := by omega
    go_enter Try.func83, Try.ntmps83
    go_wp2
    go_ret
    exact ⟨rfl, rfl⟩

set_option maxRecDepth 100000 in
theorem note_first {w : World} {p : Nat} (hc : w.cell? ⟨p, 0, none⟩ = some (.int .i64 0)) (hf : w.frozen? ⟨p, 0, none⟩ = false) (E : Int) :
    Calls Try.prog 87 #[.pointer (some ⟨p, 0, none⟩), .int .i64 E] w fun e w' => e = .returned (.tuple #[]) ∧ w' = w.setCell ⟨p, 0, none⟩ (.int .i64 E) := by
  go_enter Try.func87, Try.ntmps87
  go_wp2
  go_end0
  exact ⟨rfl, rfl⟩
set_option maxRecDepth 100000 in
theorem note_later {w : World} {p : Nat} {F : Int} (hc : w.cell? ⟨p, 0, none⟩ = some (.int .i64 F)) (hF : F ≠ 0) (E : Int) :
    Calls Try.prog 87 #[.pointer (some ⟨p, 0, none⟩), .int .i64 E] w fun e w' => e = .returned (.tuple #[]) ∧ w = w' := by
  have h0 : (F == 0) = false := by rw [beq_eq_false_iff_ne]; exact hF
  go_enter Try.func87, Try.ntmps87
  go_wp2
  go_end0
  exact ⟨rfl, rfl⟩

/-- What stays of errors: the first one. -/
def fst (F E : Nat) : Nat := if F = 0 then E else F

end Go.Proofs.Ytgcnbeigchppfaa.Fld
