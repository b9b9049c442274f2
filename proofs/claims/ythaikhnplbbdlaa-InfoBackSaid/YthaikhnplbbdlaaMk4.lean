/- The maker's bytes and texts; its length; its bytes as a copy. Conditions: fewer than 2^38 bytes. -/
import Derived.Test.YthaikhnplbbdlaaMk3
import Derived.BigQuiet
import Derived.Deep.QuietTactic
namespace Go.Proofs.Ythaikhnplbbdlaa.Fld
open Go.RowKit Gen

theorem Aft.trans {w w1 w2 : World} {B p : Nat} {ao : Option Addr} {s1 s2 : Nat × List Nat} (h : Aft w B p ao s1 w1) (h2 : ∀ ao1 cap1, MkA w1 B p ao1 cap1 s1.1 s1.2 → Aft w1 B p ao1 s2 w2) : Aft w B p ao s2 w2 := by
  obtain ⟨ao1, cap1, hm, hP⟩ := h
  obtain ⟨ao2, cap2, hm2, hP2⟩ := h2 ao1 cap1 hm
  exact ⟨ao2, cap2, hm2, hP.trans hP2⟩
theorem Aft.new {w w1 w2 : World} {B p : Nat} {ao : Option Addr} {s : Nat × List Nat} (hb : Below w.heap.size w w1) (h : Aft w1 B p ao s w2) : Aft w B p ao s w2 := by
  obtain ⟨ao2, cap2, hm2, hP2⟩ := h
  exact ⟨ao2, cap2, hm2, (Psh.new hb p ao).trans hP2⟩
theorem put_zero (F : Nat) (l m : List Nat) (h : F = 0) : put (F, l) 0 m = (0, l ++ m) := by subst h; rfl
theorem put_late (F : Nat) (l m : List Nat) (h : F ≠ 0) (e : Nat) : put (F, l) e m = (F, []) := by unfold put; rw [if_neg h]
theorem put_put (s : Nat × List Nat) (e : Nat) (m n : List Nat) : put (put s e m) 0 n = put s e (m ++ n) := by
  unfold put
  by_cases h : s.1 = 0
  · by_cases he : e = 0
    · simp [h, he]
    · simp [h, he]
  · simp [h]

theorem raw_any {w : World} {B p cap F : Nat} {ao : Option Addr} {l : List Nat} (h : MkA w B p ao cap F l) {a : Option Addr} {m : List Nat} {c : Nat} (hb : Byts w a m) (hn : a = none → m.length = 0 ∧ c = 0) (hB : B ≤ w.heap.size) (hlen : l.length + m.length ≤ 1099511627776) :
    Calls Try.prog 23 #[.pointer (some ⟨p, 0, none⟩), .slice a m.length c] w fun e w' => e = .returned (.tuple #[]) ∧ Aft w B p ao (put (F, l) 0 m) w' := by
  by_cases hF : F = 0
  · subst hF
    go_enter Try.func23, Try.ntmps23
    go_wp2_with fail
    refine (lay_ok h hb hn hB hlen).mono ?_
    rintro e w1 ⟨rfl, ao', cap', hm, hP⟩
    have HH := hid (And.intro hm hP)
    clear hm hP h hb hn
    go_wp2_with fail
    go_end0
    exact ⟨rfl, ao', cap', HH.out.1, HH.out.2⟩
  · have HF := hid hF
    have HE := hid (h.err hF)
    have H := hid h
    clear hF h
    go_enter Try.func23, Try.ntmps23
    go_wp2_with fail
    refine (lay_err H.out HF.out _).mono ?_
    rintro e w1 ⟨rfl, rfl⟩
    clear hb hn
    go_wp2_with fail
    go_end0
    refine ⟨rfl, ?_⟩
    rw [put_late _ _ _ HF.out]
    have := H.out
    rw [HE.out] at this
    exact ⟨ao, cap, this, Psh.refl _ _ _⟩

theorem put_len (s : Nat × List Nat) (e : Nat) (m : List Nat) : (put s e m).2.length ≤ s.2.length + m.length := by
  unfold put
  split
  · split
    · simp
    · simp
  · simp


set_option maxHeartbeats 800000 in
theorem clone_any {w : World} {a : Option Addr} {l : List Nat} {c : Nat} (hb : Byts w a l) (hn : a = none → l.length = 0 ∧ c = 0) (hlen : l.length ≤ 1099511627776) :
    Calls Try.prog 44 #[.slice a l.length c] w fun e w' => ∃ ao cap, e = .returned (.slice ao l.length cap) ∧ w'.ownsRow w.heap.size 5 1 (.slice ao l.length cap) l.length (bl l) ∧ Below w.heap.size w w' := by
  cases a with
  | none =>
    obtain ⟨h1, rfl⟩ := hn rfl
    have hl : l = [] := hb.none_len rfl
    subst hl
    have he := fun w => eql_nil w none 0 0
    go_enter Try.func44, Try.ntmps44
    go_wp2_with fail
    go_ret
    exact ⟨none, 0, rfl, World.ownsRow_nil _ _ _ _, Below.refl _ _⟩
  | some ad =>
    obtain ⟨i0, hi, hz0, hz1, hz2⟩ := info_parts Try.info5
    have he := fun w => eql_nil w (some ad) l.length c
    have hown := World.ownsRow_made (base := w.heap.size) (e := 5) (size := 1) w #[] 0 (Nat.le_refl _) (by unfold maxLen; omega) rfl
    have hB : Byts (w.alloc (.cells #[] 5)) (some ad) l := hb.keep ((Below.refl _ _).alloc (Nat.le_refl _) _)
    have HO := hid hown
    have HB := hid hB
    clear hown hB hb hn
    go_enter Try.func44, Try.ntmps44
    go_wp2_with (at_builtin; (refine (wpList_append_list (w.alloc (.cells #[] 5)) (by rfl) _ _ _ (by rfl) w.heap.size 5 i0 _ 1 Try.underlying26 hi hz0 hz1 hz2 rfl (some ⟨w.heap.size, 0, none⟩) 0 0 [] (by rfl) HO.out (some ad) l.length c (bl l) (by rfl) (bl_len _) (fun e => by cases e) HB.out.cells (bl_one _) (by unfold maxLen; omega) (by omega) (by simp) ?_)))
    intro ao' cap' w1 hown1 hg _
    have hO1 : w1.ownsRow w.heap.size 5 1 (.slice ao' l.length cap') l.length (bl l) := by simpa using hown1
    have hbel : Below w.heap.size w w1 := ((Below.refl _ _).alloc (Nat.le_refl _) (.cells #[] 5)).trans ⟨hg.os, hg.tape, hg.output, hg.size, fun k hk => hg.block k (by simp; omega) (by simp [blk]; omega)⟩
    have H := hid (And.intro hO1 hbel)
    clear hown1 hg hO1 hbel HO HB
    go_wp2_with fail
    go_ret
    exact ⟨ao', cap', by simp, H.out.1, H.out.2⟩

theorem mbytes_nil (w : World) : Calls Try.prog 25 #[.pointer none] w fun e w' => e = .returned (.tuple #[.slice none 0 0, .int .i64 2]) ∧ w = w' := by
  go_enter Try.func25, Try.ntmps25
  go_wp2_with fail
  go_ret2
  exact ⟨rfl, rfl⟩
theorem mbytes_err {w : World} {B p cap F : Nat} {ao : Option Addr} {l : List Nat} (h : MkA w B p ao cap F l) (hF : F ≠ 0) :
    Calls Try.prog 25 #[.pointer (some ⟨p, 0, none⟩)] w fun e w' => e = .returned (.tuple #[.slice none 0 0, .int .i64 (F : Int)]) ∧ ∃ nq, w' = w.drewN nq := by
  have c0 := h.c0
  have h0 : ((F : Int) != 0) = true := by rw [bne_iff_ne]; omega
  clear h
  go_enter Try.func25, Try.ntmps25
  go_wp2_with fail
  go_quiet (fail)
  go_wp2_with fail
  go_ret2
  exact ⟨rfl, _, rfl⟩
theorem mbytes_ok {w : World} {B p cap : Nat} {ao : Option Addr} {l : List Nat} (h : MkA w B p ao cap 0 l) (hlen : l.length ≤ 1099511627776) :
    Calls Try.prog 25 #[.pointer (some ⟨p, 0, none⟩)] w fun e w' => ∃ ao' cap', e = .returned (.tuple #[.slice ao' l.length cap', .int .i64 0]) ∧ w'.ownsRow w.heap.size 5 1 (.slice ao' l.length cap') l.length (bl l) ∧ Below w.heap.size w w' := by
  have c0 := h.c0; have c1 := h.c1
  have hb := h.bytes
  have hn : ao = none → l.length = 0 ∧ cap = 0 := fun e => by
    rcases ownsRow_at h.own with ⟨_, h1, h2, _⟩ | ⟨g, h1⟩
    · exact ⟨h1, h2⟩
    · rw [e] at h1; cases h1
  have HN := hid hn
  clear h hn
  go_enter Try.func25, Try.ntmps25
  go_wp2_with fail
  refine (clone_any hb HN.out hlen).mono ?_
  rintro e w1 ⟨ao', cap', rfl, hown, hbel⟩
  have HH := hid (And.intro hown hbel)
  clear hown hbel c0 c1 hb
  go_wp2_with fail
  go_ret2
  exact ⟨ao', cap', rfl, HH.out.1, HH.out.2⟩
end Go.Proofs.Ythaikhnplbbdlaa.Fld
