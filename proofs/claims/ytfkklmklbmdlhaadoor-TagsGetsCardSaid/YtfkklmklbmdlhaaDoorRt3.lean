/- The document's Text and Is. Conditions: fewer than 2^40 bytes. -/
import Derived.Test.YtfkklmklbmdlhaaDoorRt2
namespace Go.Proofs.YtfkklmklbmdlhaaDoor.Fld
open Go.RowKit Gen

theorem RtS.drewN {w : World} {r cap : Nat} {a : Option Addr} {L : List Nat} {s : TS} (h : RtS w r a cap L s) (n : Nat) : RtS (w.drewN n) r a cap L s := ⟨h.1.drewN n, h.2⟩
theorem RtS.keep {w w' : World} {r cap : Nat} {a : Option Addr} {L : List Nat} {s : TS} (h : RtS w r a cap L s) {X : Nat → Prop} (hf : Fr X w w') (hr : ¬ X r) : RtS w' r a cap L s := ⟨h.1.keep hf hr, h.2⟩
theorem bel_fr {w0 w w1 : World} {r : Nat} (hb : Below w0.heap.size w0 w) (hf : Fr (fun b => b = r) w w1) (hr : w0.heap.size ≤ r) : Below w0.heap.size w0 w1 :=
  hb.trans ⟨hf.os, hf.tape, hf.output, hf.size, fun k hk => hf.block k (Nat.lt_of_lt_of_le hk hb.size) (by omega)⟩
theorem nx_len8 (s : TS) (n : Int) : (nx s n true).1.length ≤ 8 := by
  unfold nx
  split
  · simp
  · split
    · simp
    · rename_i h
      split
      · simp
      · rw [List.length_take]
        have : ¬ (n < 1 ∨ 8 < n) := fun e => h (.inr ⟨rfl, e⟩)
        omega
theorem nx_err (s : TS) (n : Int) (f : Bool) (h : (nx s n f).2.F ≠ 0) : (nx s n f).1 = [] ∧ (nx s n f).2.pos = s.pos := by
  unfold nx at h ⊢
  split
  · exact ⟨rfl, rfl⟩
  · rename_i h0
    rw [if_neg h0] at h
    split
    · exact ⟨rfl, rfl⟩
    · rename_i h1
      rw [if_neg h1] at h
      split
      · exact ⟨rfl, rfl⟩
      · rename_i h2
        rw [if_neg h2] at h
        exact absurd rfl h

/-- What a call of the document's taker leaves. -/
def RTook (w : World) (r : Nat) (a : Option Addr) (cap : Nat) (L : List Nat) (s' : TS) (v : Value) (e : Ending) (w' : World) : Prop := e = .returned v ∧ RtS w' r a cap L s' ∧ Fr (fun b => b = r) w w'

set_option maxRecDepth 100000 in
set_option maxHeartbeats 2000000 in
theorem rtext_take {w0 w : World} {r cap : Nat} {a : Option Addr} {L : List Nat} {s : TS} (hS : Src w0 a cap L) (h : RtS w r a cap L s) (hb : Below w0.heap.size w0 w) (hr : w0.heap.size ≤ r) (n : Int) :
    Calls Tryd.prog 55 #[.pointer (some ⟨r, 0, none⟩), .int .i64 n] w (RTook w r a cap L (tx s n).2 (.string (tos (tx s n).1))) := by
  have c1 := h.1.c1
  have hlen := hS.len
  have HP := hid h.1.le
  have HS := hid hS
  have H0 := hid h
  clear h hS
  go_enter Tryd.func55, Tryd.ntmps55
  go_wp2_with fail
  refine (rnext_any HS.out H0.out n true).mono ?_
  rintro e w1 ⟨ao, c, rfl, hby, hrs, hfr⟩
  have hby1 := hby.keep (bel_fr hb hfr hr)
  have H1 := hid (And.intro hby1 (And.intro hrs hfr))
  have hl8 := nx_len8 s n
  have HE := hid (nx_err s n true)
  have HTX := hid (show tx s n = if (nx s n true).2.l.length < lev (nx s n true).1 then ([], ⟨fst (nx s n true).2.F 10, [], s.pos⟩) else nx (nx s n true).2 (lev (nx s n true).1 : Nat) false from rfl)
  clear hby hby1 hrs hfr c1
  go_wp2_with fail
  refine (rvalue_any H1.out.1 hl8).mono ?_
  rintro e w2 ⟨rfl, rfl⟩
  have hlt := lev_u64 H1.out.1.lt hl8
  have d0 := H1.out.2.1.1.c0; have d1 := H1.out.2.1.1.c1; have d2 := H1.out.2.1.1.c2; have g1 := H1.out.2.1.1.f1; have g2 := H1.out.2.1.1.f2
  have hle := H1.out.2.1.1.le
  have hl := H1.out.2.1.2
  generalize hs1 : (nx s n true).2 = s1 at *
  generalize ht : (nx s n true).1 = t at *
  by_cases hF : s1.F = 0
  · have hz : ((s1.F : Int) == 0) = true := by rw [hF]; rfl
    have hz2 : ((s1.F : Int) != 0) = false := by rw [hF]; rfl
    rw [if_pos hF] at hl
    have hll : s1.l.length = L.length - s1.pos := by rw [hl, List.length_drop]
    have hb1 : (0 : Int) ≤ (L.length : Int) - (s1.pos : Int) := by omega
    have hb2 : (L.length : Int) - (s1.pos : Int) ≤ 9223372036854775807 := by omega
    have hw : IntKind.u64.wrap ((L.length : Int) - (s1.pos : Int)) = (L.length : Int) - (s1.pos : Int) := IntWalk.u64_in _ ⟨by omega, by omega⟩
    by_cases hv : s1.l.length < lev t
    · have hv1 : (L.length : Int) - (s1.pos : Int) < (lev t : Int) := by omega
      have HX := HTX.out
      rw [if_pos hv, hF] at HX
      have HX := hid HX
      have HF := hid hF
      clear hv hF hl hll HTX HE hs1 ht
      generalize lev t = v at *
      go_wp2_with fail
      go_quiet (fail)
      go_wp2_with fail
      go_ret
      unfold RTook
      rw [HX.out]
      refine ⟨rfl, ⟨((H1.out.2.1.1.drewN _).setF 10).setPos s.pos HP.out, rfl⟩, ?_⟩
      exact ((H1.out.2.2.trans (frdrew _)).setCell (p := ⟨r, 2, none⟩) rfl _).setCell (p := ⟨r, 1, none⟩) rfl _
    · have hv1 : ¬ (L.length : Int) - (s1.pos : Int) < (lev t : Int) := by omega
      have hv2 : (lev t : Int) ≤ 9223372036854775807 := by omega
      have HX := HTX.out
      rw [if_neg hv] at HX
      have HX := hid HX
      have HF := hid hF
      clear hv hF hl hll HTX HE hs1 ht
      generalize lev t = v at *
      go_wp2_with fail
      go_quiet (fail)
      go_wp2_with fail
      refine (rnext_any HS.out (H1.out.2.1.drewN _) (v : Int) false).mono ?_
      rintro e w2 ⟨ao2, c2, rfl, hby, hrs, hfr⟩
      have hfr2 := (H1.out.2.2.trans (frdrew _)).trans hfr
      have hcv := (hby.keep (bel_fr hb hfr2 hr)).conv c2
      have H2 := hid (And.intro hrs hfr2)
      clear hby hrs hfr hfr2 H1
      go_wp2_with fail
      go_ret
      unfold RTook
      rw [HX.out]
      exact ⟨rfl, H2.out.1, H2.out.2⟩
  · have hz : ((s1.F : Int) == 0) = false := by rw [beq_eq_false_iff_ne]; omega
    have hz2 : ((s1.F : Int) != 0) = true := by rw [bne_iff_ne]; omega
    obtain ⟨ht0, hp0⟩ := HE.out hF
    have HX := HTX.out
    have hnx : nx s1 ((0 : Nat) : Int) false = ([], s1) := by unfold nx; rw [if_pos hF]
    rw [ht0, show lev [] = 0 from rfl, if_neg (by omega), hnx] at HX
    have HX := hid HX
    have HF := hid hF
    have HPP := hid hp0
    clear hF hl HTX HE hs1 ht hnx hp0
    subst ht0
    go_wp2_with fail
    go_quiet (fail)
    go_wp2_with fail
    go_ret
    unfold RTook
    rw [HX.out]
    have h3 := (H1.out.2.1.1.drewN nq).setPos s.pos HP.out
    refine ⟨rfl, ⟨?_, ?_⟩, (H1.out.2.2.trans (frdrew _)).setCell (p := ⟨r, 1, none⟩) rfl _⟩
    · rw [HPP.out]; exact h3
    · exact H1.out.2.1.2
end Go.Proofs.YtfkklmklbmdlhaaDoor.Fld
