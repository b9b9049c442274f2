/- A maker of bytes in memory (its first error, its bytes), and its methods: what they lay, what error stays, and that nothing else has turned. Conditions: fewer than 2^40 bytes. -/
import Derived.Test.YthaikhnplbbdlaaByt
namespace Go.Proofs.Ythaikhnplbbdlaa.Fld
open Go.RowKit Gen

/-- A maker at block p: its first error F, its bytes l in a row of the call's own. -/
structure MkA (w : World) (B p : Nat) (ao : Option Addr) (cap F : Nat) (l : List Nat) : Prop where
  c0 : w.cell? ⟨p, 0, none⟩ = some (.int .i64 (F : Int))
  c1 : w.cell? ⟨p, 1, none⟩ = some (.slice ao l.length cap)
  f0 : w.frozen? ⟨p, 0, none⟩ = false
  f1 : w.frozen? ⟨p, 1, none⟩ = false
  own : w.ownsRow B 5 1 (.slice ao l.length cap) l.length (bl l)
  far : blk ao ≠ some p
  base : B ≤ p
  lt : ∀ b ∈ l, b < 256
  err : F ≠ 0 → l = []

/-- What a maker's calls leave as it was: all but its own block and its row's. -/
structure Psh (w w' : World) (p : Nat) (ao ao' : Option Addr) : Prop where
  fr : Fr (fun b => b = p ∨ blk ao = some b) w w'
  at_ : blk ao' = blk ao ∨ ∀ g, blk ao' = some g → w.heap.size ≤ g

theorem MkA.plt {w : World} {B p cap F : Nat} {ao : Option Addr} {l : List Nat} (h : MkA w B p ao cap F l) : p < w.heap.size := World.block_lt_of_cell? w _ h.c0
theorem MkA.rlt {w : World} {B p cap F : Nat} {ao : Option Addr} {l : List Nat} (h : MkA w B p ao cap F l) : ∀ g, blk ao = some g → B ≤ g ∧ g < w.heap.size := fun g hg => h.own.lt g (by rw [ownBlock_slice]; exact hg)
theorem MkA.keep {w w' : World} {B p cap F : Nat} {ao : Option Addr} {l : List Nat} (h : MkA w B p ao cap F l) {X : Nat → Prop} (hf : Fr X w w') (hp : ¬ X p) (hr : ∀ g, blk ao = some g → ¬ X g) : MkA w' B p ao cap F l :=
  ⟨(hf.cell (p := ⟨p, 0, none⟩) h.plt hp).trans h.c0, (hf.cell (p := ⟨p, 1, none⟩) h.plt hp).trans h.c1, (hf.frozen (p := ⟨p, 0, none⟩) h.plt hp).trans h.f0, (hf.frozen (p := ⟨p, 1, none⟩) h.plt hp).trans h.f1,
    ownsRow_block h.own fun g hg => hf.block g (h.rlt g hg).2 (hr g hg), h.far, h.base, h.lt, h.err⟩
theorem MkA.below {w w' : World} {B p cap F : Nat} {ao : Option Addr} {l : List Nat} (h : MkA w B p ao cap F l) (hb : Below w.heap.size w w') : MkA w' B p ao cap F l :=
  h.keep (X := fun k => w.heap.size ≤ k) ⟨hb.os, hb.tape, hb.output, hb.size, fun k hk _ => hb.block k hk⟩ (by have := h.plt; omega) (fun g hg => by have := (h.rlt g hg).2; omega)
theorem MkA.bytes {w : World} {B p cap F : Nat} {ao : Option Addr} {l : List Nat} (h : MkA w B p ao cap F l) : Byts w ao l := Byts.of_row h.lt h.own

theorem Psh.refl (w : World) (p : Nat) (ao : Option Addr) : Psh w w p ao ao := ⟨Fr.refl _ _, .inl rfl⟩
theorem Psh.trans {a b c : World} {p : Nat} {ao ao1 ao2 : Option Addr} (h : Psh a b p ao ao1) (h1 : Psh b c p ao1 ao2) : Psh a c p ao ao2 := by
  refine ⟨⟨h1.fr.os.trans h.fr.os, h1.fr.tape.trans h.fr.tape, h1.fr.output.trans h.fr.output, Nat.le_trans h.fr.size h1.fr.size, ?_⟩, ?_⟩
  · intro i hi hx
    refine (h1.fr.block i (Nat.lt_of_lt_of_le hi h.fr.size) ?_).trans (h.fr.block i hi hx)
    rintro (e | e)
    · exact hx (.inl e)
    · rcases h.at_ with e1 | e1
      · exact hx (.inr (e1 ▸ e))
      · have := e1 i e; omega
  · rcases h1.at_ with e1 | e1
    · rw [e1]; exact h.at_
    · exact .inr fun g hg => Nat.le_trans h.fr.size (e1 g hg)
theorem Psh.below {w w' : World} {p B : Nat} {ao ao' : Option Addr} (h : Psh w w' p ao ao') (hp : B ≤ p) (hr : ∀ g, blk ao = some g → B ≤ g) (hB : B ≤ w.heap.size) : Below B w w' :=
  ⟨h.fr.os, h.fr.tape, h.fr.output, h.fr.size, fun k hk => h.fr.block k (by omega) (by
    rintro (e | e)
    · omega
    · have := hr k e; omega)⟩
/-- New blocks alone. -/
theorem Psh.new {w w' : World} (h : Below w.heap.size w w') (p : Nat) (ao : Option Addr) : Psh w w' p ao ao := ⟨⟨h.os, h.tape, h.output, h.size, fun k hk _ => h.block k hk⟩, .inl rfl⟩

theorem setC0 {w : World} {B p cap F : Nat} {ao : Option Addr} {l : List Nat} (h : MkA w B p ao cap F l) (F' : Nat) : (w.setCell ⟨p, 0, none⟩ (.int .i64 (F' : Int))).cell? ⟨p, 0, none⟩ = some (.int .i64 (F' : Int)) := World.cell?_setCell_same _ _ _ (by rw [h.c0])

/-- Behind an error. -/
theorem MkA.fail {w : World} {B p cap F : Nat} {ao : Option Addr} {l : List Nat} (h : MkA w B p ao cap F l) (E : Nat) : MkA ((w.setCell ⟨p, 0, none⟩ (.int .i64 (E : Int))).setCell ⟨p, 1, none⟩ (.slice none 0 0)) B p none 0 E [] := by
  refine ⟨?_, ?_, ?_, ?_, World.ownsRow_nil _ _ _ _, by simp [blk], h.base, (fun _ hb => by cases hb), (fun _ => rfl)⟩
  · rw [World.cell?_setCell_other _ _ _ _ (by intro e; simp at e)]
    exact World.cell?_setCell_same _ _ _ (by rw [h.c0])
  · exact World.cell?_setCell_same _ _ _ (by rw [World.cell?_setCell_other _ _ _ _ (by intro e; simp at e), h.c1])
  · simp [h.f0]
  · simp [h.f1]
theorem MkA.failed {w : World} {B p cap F : Nat} {ao : Option Addr} {l : List Nat} (h : MkA w B p ao cap F l) : MkA (w.setCell ⟨p, 1, none⟩ (.slice none 0 0)) B p none 0 F [] := by
  refine ⟨?_, ?_, ?_, ?_, World.ownsRow_nil _ _ _ _, by simp [blk], h.base, (fun _ hb => by cases hb), (fun _ => rfl)⟩
  · rw [World.cell?_setCell_other _ _ _ _ (by intro e; simp at e)]
    exact h.c0
  · exact World.cell?_setCell_same _ _ _ (by rw [h.c1])
  · simp [h.f0]
  · simp [h.f1]

theorem width_yes (n : Int) (h1 : 1 ≤ n) (h8 : n ≤ 8) (w : World) : Calls Try.prog 41 #[.int .i64 n] w fun e w' => e = .returned (.bool true) ∧ w = w' := by
  go_enter Try.func41, Try.ntmps41
  go_wp2
  go_ret
  exact ⟨rfl, rfl⟩
theorem width_no (n : Int) (h : n < 1 ∨ 8 < n) (w : World) : Calls Try.prog 41 #[.int .i64 n] w fun e w' => e = .returned (.bool false) ∧ w = w' := by
  rcases h with h | h
  · have h1 : ¬ 1 ≤ n := by omega
    go_enter Try.func41, Try.ntmps41
    go_wp2
    go_ret
    exact ⟨rfl, rfl⟩
  · have h1 : 1 ≤ n := by omega
    have h2 : ¬ n ≤ 8 := by omega
    go_enter Try.func41, Try.ntmps41
    go_wp2
    go_ret
    exact ⟨rfl, rfl⟩

theorem note_first {w : World} {p : Nat} (hc : w.cell? ⟨p, 0, none⟩ = some (.int .i64 0)) (hf : w.frozen? ⟨p, 0, none⟩ = false) (E : Int) :
    Calls Try.prog 51 #[.pointer (some ⟨p, 0, none⟩), .int .i64 E] w fun e w' => e = .returned (.tuple #[]) ∧ w' = w.setCell ⟨p, 0, none⟩ (.int .i64 E) := by
  go_enter Try.func51, Try.ntmps51
  go_wp2
  go_end0
  exact ⟨rfl, rfl⟩
theorem note_later {w : World} {p : Nat} {F : Int} (hc : w.cell? ⟨p, 0, none⟩ = some (.int .i64 F)) (hF : F ≠ 0) (E : Int) :
    Calls Try.prog 51 #[.pointer (some ⟨p, 0, none⟩), .int .i64 E] w fun e w' => e = .returned (.tuple #[]) ∧ w = w' := by
  have h0 : (F == 0) = false := by rw [beq_eq_false_iff_ne]; exact hF
  go_enter Try.func51, Try.ntmps51
  go_wp2
  go_end0
  exact ⟨rfl, rfl⟩

/-- What stays of errors: the first one. -/
def fst (F E : Nat) : Nat := if F = 0 then E else F

theorem mfail_any {w : World} {B p cap F : Nat} {ao : Option Addr} {l : List Nat} (h : MkA w B p ao cap F l) (E : Nat) :
    Calls Try.prog 42 #[.pointer (some ⟨p, 0, none⟩), .int .i64 (E : Int)] w fun e w' => e = .returned (.tuple #[]) ∧ MkA w' B p none 0 (fst F E) [] ∧ Psh w w' p ao none := by
  have hfr : ∀ u v, Psh w ((w.setCell ⟨p, 0, none⟩ u).setCell ⟨p, 1, none⟩ v) p ao none := fun u v => ⟨((Fr.refl _ _).setCell (p := ⟨p, 0, none⟩) (.inl rfl) u).setCell (p := ⟨p, 1, none⟩) (.inl rfl) v, .inr fun g hg => by simp [blk] at hg⟩
  have hfr1 : ∀ v, Psh w (w.setCell ⟨p, 1, none⟩ v) p ao none := fun v => ⟨(Fr.refl _ _).setCell (p := ⟨p, 1, none⟩) (.inl rfl) v, .inr fun g hg => by simp [blk] at hg⟩
  have HFR := hid hfr
  have HFR1 := hid hfr1
  have H := hid h
  clear hfr hfr1
  have c0 := h.c0; have c1 := h.c1; have f0 := h.f0; have f1 := h.f1
  clear h
  by_cases hF : F = 0
  · subst hF
    have d1 : (w.setCell ⟨p, 0, none⟩ (.int .i64 (E : Int))).cell? ⟨p, 1, none⟩ = some (.slice ao l.length cap) := by
      rw [World.cell?_setCell_other _ _ _ _ (by intro e; simp at e)]; exact c1
    have d2 : (w.setCell ⟨p, 0, none⟩ (.int .i64 (E : Int))).frozen? ⟨p, 1, none⟩ = false := by simp [f1]
    go_enter Try.func42, Try.ntmps42
    go_wp2_with fail
    refine (note_first c0 f0 _).mono ?_
    rintro e w1 ⟨rfl, rfl⟩
    clear c0 c1 f0 f1
    go_wp2_with fail
    go_end0
    exact ⟨rfl, H.out.fail E, HFR.out _ _⟩
  · have hF' : (F : Int) ≠ 0 := by omega
    go_enter Try.func42, Try.ntmps42
    go_wp2_with fail
    refine (note_later c0 hF' _).mono ?_
    rintro e w1 ⟨rfl, rfl⟩
    clear hF'
    go_wp2_with fail
    go_end0
    exact ⟨rfl, by unfold fst; rw [if_neg hF]; exact H.out.failed, HFR1.out _⟩

theorem lay_err {w : World} {B p cap F : Nat} {ao : Option Addr} {l : List Nat} (h : MkA w B p ao cap F l) (hF : F ≠ 0) (x : Value) :
    Calls Try.prog 40 #[.pointer (some ⟨p, 0, none⟩), x] w fun e w' => e = .returned (.tuple #[]) ∧ w = w' := by
  have c0 := h.c0
  have h0 : ((F : Int) == 0) = false := by rw [beq_eq_false_iff_ne]; omega
  go_enter Try.func40, Try.ntmps40
  go_wp2
  go_end0
  exact ⟨rfl, rfl⟩

set_option maxHeartbeats 800000 in
theorem lay_ok {w : World} {B p cap : Nat} {ao : Option Addr} {l : List Nat} (h : MkA w B p ao cap 0 l) {a : Option Addr} {m : List Nat} {c : Nat} (hb : Byts w a m) (hn : a = none → m.length = 0 ∧ c = 0) (hB : B ≤ w.heap.size) (hlen : l.length + m.length ≤ 1099511627776) :
    Calls Try.prog 40 #[.pointer (some ⟨p, 0, none⟩), .slice a m.length c] w fun e w' => e = .returned (.tuple #[]) ∧ ∃ ao' cap', MkA w' B p ao' cap' 0 (l ++ m) ∧ Psh w w' p ao ao' := by
  obtain ⟨i0, hi, hz0, hz1, hz2⟩ := info_parts Try.info5
  have c0 := h.c0; have c1 := h.c1; have f1 := h.f1
  have H := hid h
  have HN := hid hn
  have HB := hid hb
  clear h hn hb
  go_enter Try.func40, Try.ntmps40
  go_wp2_with (at_builtin; (refine (wpList_append_list w (by rfl) _ _ _ (by rfl) B 5 i0 _ 1 Try.underlying26 hi hz0 hz1 hz2 rfl ao l.length cap (bl l) (by rfl) H.out.own a m.length c (bl m) (by rfl) (bl_len _) HN.out HB.out.cells (bl_one _) (by unfold maxLen; omega) (by omega) hB ?_)))
  intro ao' cap' w1 hown hg hat
  have hne : ∀ g, blk ao = some g → g ≠ p := fun g hg e => H.out.far (e ▸ hg)
  have hpr : some p ≠ blk ao := fun e => H.out.far e.symm
  have d0 := (hg.cell_far ⟨p, 0, none⟩ H.out.plt hpr).trans c0
  have d1 := (hg.cell_far ⟨p, 1, none⟩ H.out.plt hpr).trans c1
  have e0 := (hg.frozen_far ⟨p, 0, none⟩ H.out.plt hpr).trans H.out.f0
  have e1 := (hg.frozen_far ⟨p, 1, none⟩ H.out.plt hpr).trans f1
  have hfar : blk ao' ≠ some p := by
    intro e
    rcases hat with e1 | e1
    · exact H.out.far (e1 ▸ e)
    · have := e1 p e; have := H.out.plt; omega
  have hP : Psh w w1 p ao ao' := ⟨(Fr.refl _ _).grown hg (fun b e _ => .inr e), hat⟩
  have HP := hid hP
  have HF := hid hfar
  have HO := hid hown
  have E0 := hid e0
  clear hg hat hne hpr hfar hP hown c0 c1 f1 e0
  go_wp2_with fail
  go_end0
  refine ⟨rfl, ao', cap', ⟨?_, ?_, ?_, ?_, ?_, HF.out, H.out.base, ?_, fun e => absurd rfl e⟩, ?_⟩
  · rw [World.cell?_setCell_other _ _ _ _ (by intro e; simp at e)]; exact d0
  · rw [World.cell?_setCell_same _ _ _ (by rw [d1]), List.length_append]
  · simp [E0.out]
  · simp [e1]
  · rw [List.length_append, bl_app]
    exact ownsRow_block HO.out fun g hg => RowKit.Below.heap_setCell _ _ _ _ (fun e => HF.out (by rw [hg, e]))
  · intro b hb
    rcases List.mem_append.1 hb with hb | hb
    · exact H.out.lt b hb
    · exact HB.out.lt b hb
  · exact HP.out.trans ⟨(Fr.refl _ _).setCell (p := ⟨p, 1, none⟩) (.inl rfl) _, .inl rfl⟩
end Go.Proofs.Ythaikhnplbbdlaa.Fld
