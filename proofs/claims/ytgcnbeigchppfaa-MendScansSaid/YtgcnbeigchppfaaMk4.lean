/- The maker's bytes and texts; its length; its bytes as a copy. Conditions: fewer than 2^38 bytes. -/
import Derived.Test.YtgcnbeigchppfaaMk3
import Derived.BigQuiet
import Derived.Deep.QuietTactic
namespace Go.Proofs.Ytgcnbeigchppfaa.Fld
open Go.RowKit Gen

set_option maxRecDepth 100000 in
theorem Aft.trans {w w1 w2 : World} {B p : Nat} {ao : Option Addr} {s1 s2 : Nat × List Nat} (h : Aft w B p ao s1 w1) (h2 : ∀ ao1 cap1, MkA w1 B p ao1 cap1 s1.1 s1.2 → Aft w1 B p ao1 s2 w2) : Aft w B p ao s2 w2 := by
  obtain ⟨ao1, cap1, hm, hP⟩ := h
  obtain ⟨ao2, cap2, hm2, hP2⟩ := h2 ao1 cap1 hm
  exact ⟨ao2, cap2, hm2, hP.trans hP2⟩
set_option maxRecDepth 100000 in
theorem Aft.new {w w1 w2 : World} {B p : Nat} {ao : Option Addr} {s : Nat × List Nat} (hb : Below w.heap.size w w1) (h : Aft w1 B p ao s w2) : Aft w B p ao s w2 := by
  obtain ⟨ao2, cap2, hm2, hP2⟩ := h
  exact ⟨ao2, cap2, hm2, (Psh.new hb p ao).trans hP2⟩
set_option maxRecDepth 100000 in
theorem put_zero (F : Nat) (l m : List Nat) (h : F = 0) : put (F, l) 0 m = (0, l ++ m) := by subst h; rfl
set_option maxRecDepth 100000 in
theorem put_late (F : Nat) (l m : List Nat) (h : F ≠ 0) (e : Nat) : put (F, l) e m = (F, []) := by unfold put; rw [if_neg h]
set_option maxRecDepth 100000 in
theorem put_put (s : Nat × List Nat) (e : Nat) (m n : List Nat) : put (put s e m) 0 n = put s e (m ++ n) := by
  unfold put
  by_cases h : s.1 = 0
  · by_cases he : e = 0
    · simp [h, he]
    · simp [h, he]
  · simp [h]

set_option maxRecDepth 100000 in
theorem put_len (s : Nat × List Nat) (e : Nat) (m : List Nat) : (put s e m).2.length ≤ s.2.length + m.length := by
  unfold put
  split
  · split
    · simp
    · simp
  · simp

set_option maxRecDepth 100000 in
set_option maxHeartbeats 800000 in
theorem clone_any {w : World} {a : Option Addr} {l : List Nat} {c : Nat} (hb : Byts w a l) (hn : a = none → l.length = 0 ∧ c = 0) (hlen : l.length ≤ 1099511627776) :
    Calls Try.prog 32 #[.slice a l.length c] w fun e w' => ∃ ao cap, e = .returned (.slice ao l.length cap) ∧ w'.ownsRow w.heap.size 5 1 (.slice ao l.length cap) l.length (bl l) ∧ Below w.heap.size w w' := by
  cases a with
  | none =>
    obtain ⟨h1, rfl⟩ := hn rfl
    have hl : l = [] := hb.none_len rfl
    subst hl
    have he := fun w => eql_nil w none 0 0
    go_enter Try.func32, Try.ntmps32
    go_wp2_with fail
    go_ret
    exact ⟨none, 0, rfl, World.ownsRow_nil _ _ _ _, Below.refl _ _⟩
  | some ad =>
    obtain ⟨i0, hi, hz0, hz1, hz2⟩ := info_parts Try.info5
    have he := fun w => eql_nil w (some ad) l.length c
    have hown := World.ownsRow_made (base := w.heap.size) (e := 5) (size := 1) w #[] 0 (Nat.le_refl _) (by unfold maxLen; omega) rfl
    have hB : Byts (w.alloc (.cells #[] 5)) (some ad) l := hb.keep ((Below.refl _ _).alloc (Nat.le_refl _) _)
    have HO := hid hown
    have HB := hid hB
    clear hown hB hb hn
    go_enter Try.func32, Try.ntmps32
    go_wp2_with (at_builtin; (refine (wpList_append_list (w.alloc (.cells #[] 5)) (by rfl) _ _ _ (by rfl) w.heap.size 5 i0 _ 1 Try.underlying22 hi hz0 hz1 hz2 rfl (some ⟨w.heap.size, 0, none⟩) 0 0 [] (by rfl) HO.out (some ad) l.length c (bl l) (by rfl) (bl_len _) (fun e => by cases e) HB.out.cells (bl_one _) (by unfold maxLen; omega) (by omega) (by simp) ?_)))
    intro ao' cap' w1 hown1 hg _
    have hO1 : w1.ownsRow w.heap.size 5 1 (.slice ao' l.length cap') l.length (bl l) := by simpa using hown1
    have hbel : Below w.heap.size w w1 := ((Below.refl _ _).alloc (Nat.le_refl _) (.cells #[] 5)).trans ⟨hg.os, hg.tape, hg.output, hg.size, fun k hk => hg.block k (by simp; omega) (by simp [blk]; omega)⟩
    have H := hid (And.intro hO1 hbel)
    clear hown1 hg hO1 hbel HO HB
    go_wp2_with fail
    go_ret
    exact ⟨ao', cap', by simp, H.out.1, H.out.2⟩

end Go.Proofs.Ytgcnbeigchppfaa.Fld
