/- The document's own taker of bytes, in memory, and its Next, Left, Value, Signed. Conditions: fewer than 2^40 bytes. -/
import Derived.Test.YtfkklmklbmdlhaaDoorTa4
import Derived.BigQuiet
import Derived.Deep.QuietTactic
namespace Go.Proofs.YtfkklmklbmdlhaaDoor.Fld
open Go.RowKit Gen

/-- The document's taker at block r: all bytes L behind the slice at a, its first error F, how many were taken. -/
structure RtA (w : World) (r : Nat) (a : Option Addr) (cap : Nat) (L : List Nat) (F pos : Nat) : Prop where
  c0 : w.cell? ⟨r, 0, none⟩ = some (.slice a L.length cap)
  c1 : w.cell? ⟨r, 1, none⟩ = some (.int .i64 (pos : Int))
  c2 : w.cell? ⟨r, 2, none⟩ = some (.int .i64 (F : Int))
  f1 : w.frozen? ⟨r, 1, none⟩ = false
  f2 : w.frozen? ⟨r, 2, none⟩ = false
  le : pos ≤ L.length
/-- What is known of the slice at a. -/
structure Src (w0 : World) (a : Option Addr) (cap : Nat) (L : List Nat) : Prop where
  bytes : Byts w0 a L
  spot : ∀ ad, a = some ad → 0 < cap → ∃ b off, ad = ⟨b, off, .none⟩
  room : L.length ≤ cap
  top : cap ≤ 9223372036854775807
  nil : a = .none → cap = 0
  len : L.length ≤ 549755813888
theorem RtA.lt {w : World} {r cap F pos : Nat} {a : Option Addr} {L : List Nat} (h : RtA w r a cap L F pos) : r < w.heap.size := World.block_lt_of_cell? w _ h.c0
theorem RtA.keep {w w' : World} {r cap F pos : Nat} {a : Option Addr} {L : List Nat} (h : RtA w r a cap L F pos) {X : Nat → Prop} (hf : Fr X w w') (hr : ¬ X r) : RtA w' r a cap L F pos :=
  ⟨(hf.cell (p := ⟨r, 0, none⟩) h.lt hr).trans h.c0, (hf.cell (p := ⟨r, 1, none⟩) h.lt hr).trans h.c1, (hf.cell (p := ⟨r, 2, none⟩) h.lt hr).trans h.c2, (hf.frozen (p := ⟨r, 1, none⟩) h.lt hr).trans h.f1, (hf.frozen (p := ⟨r, 2, none⟩) h.lt hr).trans h.f2, h.le⟩
theorem RtA.drewN {w : World} {r cap F pos : Nat} {a : Option Addr} {L : List Nat} (h : RtA w r a cap L F pos) (n : Nat) : RtA (w.drewN n) r a cap L F pos := h.keep (X := fun _ => False) ⟨rfl, rfl, rfl, Nat.le_refl _, fun _ _ _ => rfl⟩ (fun e => e)
theorem RtA.setF {w : World} {r cap F pos : Nat} {a : Option Addr} {L : List Nat} (h : RtA w r a cap L F pos) (E : Nat) : RtA (w.setCell ⟨r, 2, none⟩ (.int .i64 (E : Int))) r a cap L E pos := by
  refine ⟨?_, ?_, ?_, ?_, ?_, h.le⟩
  · rw [World.cell?_setCell_other _ _ _ _ (by intro e; simp at e)]; exact h.c0
  · rw [World.cell?_setCell_other _ _ _ _ (by intro e; simp at e)]; exact h.c1
  · exact World.cell?_setCell_same _ _ _ (by rw [h.c2])
  · simp [h.f1]
  · simp [h.f2]
theorem RtA.setPos {w : World} {r cap F pos : Nat} {a : Option Addr} {L : List Nat} (h : RtA w r a cap L F pos) (p' : Nat) (hp : p' ≤ L.length) : RtA (w.setCell ⟨r, 1, none⟩ (.int .i64 (p' : Int))) r a cap L F p' := by
  refine ⟨?_, ?_, ?_, ?_, ?_, hp⟩
  · rw [World.cell?_setCell_other _ _ _ _ (by intro e; simp at e)]; exact h.c0
  · exact World.cell?_setCell_same _ _ _ (by rw [h.c1])
  · rw [World.cell?_setCell_other _ _ _ _ (by intro e; simp at e)]; exact h.c2
  · simp [h.f1]
  · simp [h.f2]

/-- The document's taker in such a state. -/
def RtS (w : World) (r : Nat) (a : Option Addr) (cap : Nat) (L : List Nat) (s : TS) : Prop := RtA w r a cap L s.F s.pos ∧ s.l = (if s.F = 0 then L.drop s.pos else [])

/-- What Next leaves. -/
def RNext (w0 w : World) (r : Nat) (a : Option Addr) (cap : Nat) (L : List Nat) (s : TS) (n : Int) (f : Bool) (e : Ending) (w' : World) : Prop :=
  ∃ ao c, e = .returned (.slice ao (nx s n f).1.length c) ∧ Byts w0 ao (nx s n f).1 ∧ RtS w' r a cap L (nx s n f).2 ∧ Fr (fun b => b = r) w w'

theorem frdrew {w : World} {X : Nat → Prop} (n : Nat) : Fr X w (w.drewN n) := ⟨rfl, rfl, rfl, Nat.le_refl _, fun _ _ _ => rfl⟩

set_option maxHeartbeats 2000000 in
set_option maxRecDepth 100000 in
theorem rnext_any {w0 w : World} {r cap : Nat} {a : Option Addr} {L : List Nat} {s : TS} (hS : Src w0 a cap L) (h : RtS w r a cap L s) (n : Int) (f : Bool) :
    Calls Tryd.prog 57 #[.pointer (some ⟨r, 0, none⟩), .int .i64 n, .bool f] w (RNext w0 w r a cap L s n f) := by
  obtain ⟨hA, hl⟩ := h
  have c0 := hA.c0; have c1 := hA.c1; have c2 := hA.c2; have f1 := hA.f1; have f2 := hA.f2
  have hle := hA.le
  have hlen := hS.len
  have HA := hid hA
  have HL := hid hl
  clear hA hl
  by_cases hF : s.F = 0
  · have t0 : ((s.F : Int) != 0) = false := by rw [hF]; rfl
    by_cases hbad : n < 0 ∨ (f = true ∧ (n < 1 ∨ 8 < n))
    · have hx : nx s n f = ([], ⟨1, [], s.pos⟩) := by unfold nx; rw [if_neg (by simp [hF]), if_pos hbad]
      have HX := hid hx
      have HD := hid hF
      clear hx hF
      have fin : RNext w0 w r a cap L s n f (.returned (.slice none 0 0)) (w.setCell ⟨r, 2, none⟩ (.int .i64 1)) := by
        unfold RNext
        rw [HX.out]
        exact ⟨none, 0, rfl, Byts.nil _ _, ⟨HA.out.setF 1, rfl⟩, (Fr.refl (fun b => b = r) _).setCell (p := ⟨r, 2, none⟩) rfl _⟩
      have FIN := hid fin
      clear fin
      by_cases hn : n < 0
      · go_enter Tryd.func57, Tryd.ntmps57
        go_wp2_with fail
        go_ret
        exact FIN.out
      · obtain ⟨rfl, hb⟩ : f = true ∧ (n < 1 ∨ 8 < n) := by
          rcases hbad with h | h
          · exact absurd h hn
          · exact h
        rcases hb with hb | hb
        · go_enter Tryd.func57, Tryd.ntmps57
          go_wp2_with fail
          go_ret
          exact FIN.out
        · have h1 : ¬ n < 1 := by omega
          go_enter Tryd.func57, Tryd.ntmps57
          go_wp2_with fail
          go_ret
          exact FIN.out
    · obtain ⟨k, rfl⟩ : ∃ k : Nat, n = k := ⟨n.toNat, by omega⟩
      have hkn : ¬ (k : Int) < 0 := by omega
      have hll : s.l.length = L.length - s.pos := by rw [HL.out, if_pos hF, List.length_drop]
      have hg : f = true → 1 ≤ k ∧ k ≤ 8 := fun e => by
        have : ¬ ((k : Int) < 1 ∨ 8 < (k : Int)) := fun e2 => hbad (.inr ⟨e, e2⟩)
        omega
      have t0' : s.F = 0 := hF
      have hsub1 : -9223372036854775808 ≤ (L.length : Int) - (s.pos : Int) := by omega
      have hsub2 : (L.length : Int) - (s.pos : Int) ≤ 9223372036854775807 := by omega
      have hg1 : f = true → ¬ (k : Int) < 1 := fun e => by have := hg e; omega
      have hg2 : f = true → ¬ 8 < (k : Int) := fun e => by have := hg e; omega
      by_cases hk : (L.length : Int) - (s.pos : Int) < (k : Int)
      · have hx : nx s (k : Int) f = ([], ⟨10, [], s.pos⟩) := by unfold nx; rw [if_neg (by omega), if_neg hbad, if_pos (by omega)]
        have HX := hid hx
        have fin : ∀ nq, RNext w0 w r a cap L s k f (.returned (.slice none 0 0)) ((w.drewN nq).setCell ⟨r, 2, none⟩ (.int .i64 10)) := by
          intro nq
          unfold RNext
          rw [HX.out]
          exact ⟨none, 0, rfl, Byts.nil _ _, ⟨(HA.out.drewN nq).setF 10, rfl⟩, (frdrew (X := fun b => b = r) nq).setCell (p := ⟨r, 2, none⟩) rfl _⟩
        have FIN := hid fin
        clear fin hx hF t0' hbad hg hll
        have hz := hid t0
        cases f with
        | false =>
          clear hg1 hg2
          go_enter Tryd.func57, Tryd.ntmps57
          go_wp2_with fail
          go_quiet (fail)
          go_wp2_with fail
          go_ret
          exact FIN.out _
        | true =>
          have h1 := hg1 rfl
          have h2 := hg2 rfl
          clear hg1 hg2
          go_enter Tryd.func57, Tryd.ntmps57
          go_wp2_with fail
          go_quiet (fail)
          go_wp2_with fail
          go_ret
          exact FIN.out _
      · have hkl : s.pos + k ≤ L.length := by omega
        have hx : nx s (k : Int) f = (s.l.take k, ⟨0, s.l.drop k, s.pos + k⟩) := by
          unfold nx
          rw [if_neg (by omega), if_neg hbad, if_neg (by omega), Int.toNat_natCast]
        have hxl : (s.l.take k).length = k := by rw [List.length_take]; omega
        have hroom := hS.room
        have htop := hS.top
        have hnil := hS.nil
        have hspot := hS.spot
        have hcap : s.pos + k ≤ cap := Nat.le_trans hkl hroom
        have hb0 := hS.bytes
        have fin : ∀ n1 n2 ao c (k' : Nat), k' = k → Byts w0 ao (s.l.take k) → RNext w0 w r a cap L s k f (.returned (.slice ao k' c)) (((w.drewN n1).setCell ⟨r, 1, none⟩ (.int .i64 ((s.pos : Int) + (k : Int)))).drewN n2) := by
          intro n1 n2 ao c k' hk' h3
          rw [hk']
          unfold RNext
          rw [hx]
          refine ⟨ao, c, ?_, h3, ⟨?_, ?_⟩, ?_⟩
          · show _ = Ending.returned (.slice ao (s.l.take k).length c)
            rw [hxl]
          · have h4 := ((HA.out.drewN n1).setPos (s.pos + k) hkl).drewN n2
            rw [hF] at h4
            rw [← show (((s.pos + k : Nat)) : Int) = (s.pos : Int) + (k : Int) from by omega]
            exact h4
          · show s.l.drop k = if (0 : Nat) = 0 then L.drop (s.pos + k) else []
            rw [if_pos rfl, HL.out, if_pos hF, List.drop_drop]
          · exact ((frdrew (X := fun b => b = r) n1).setCell (p := ⟨r, 1, none⟩) rfl _).trans (frdrew n2)
        have FIN := hid fin
        have hse : s.l.take k = (L.drop s.pos).take k := by rw [HL.out, if_pos hF]
        have HSE := hid hse
        have hg1' : ∀ b off, a = some ⟨b, off, none⟩ → Byts w0 (some ⟨b, off + s.pos, none⟩) (s.l.take k) := fun b off e => by
          rw [hse]; subst e; exact (hb0.drop s.pos).take k
        have HG := hid hg1'
        have hz := hid t0
        have hsum : (s.pos : Int) + (k : Int) ≤ 9223372036854775807 := by omega
        clear fin hx hF t0' hbad hg hll hxl hse hg1' hb0
        cases a with
        | none =>
          obtain rfl : cap = 0 := hnil rfl
          obtain rfl : L = [] := List.eq_nil_of_length_eq_zero (by omega)
          obtain rfl : k = 0 := by omega
          have hp0 : s.pos = 0 := by omega
          have hg3 : Byts w0 none (s.l.take 0) := Byts.nil _ _
          · have hL0 : ([] : List Nat).length = 0 := rfl
            have hfin := FIN.out
            rw [show (s.pos : Int) + ((0 : Nat) : Int) = 0 from by omega] at hfin
            have FIN2 := hid hfin
            clear hfin
            cases f with
            | false =>
              clear hg1 hg2
              go_enter Tryd.func57, Tryd.ntmps57
              go_wp2_with fail
              go_quiet (fail)
              go_wp2_with fail
              go_quiet (fail)
              go_wp2_with fail
              go_ret
              exact FIN2.out _ _ _ _ _ rfl hg3
            | true => exact absurd (by decide) (hg1 rfl)
        | some ad =>
          clear hnil
          by_cases hcp : cap = s.pos
          · obtain rfl : k = 0 := by omega
            have hLp : L.length = s.pos := by omega
            have hg3 : Byts w0 (some ad) (s.l.take 0) := Byts.nil _ _
            clear hspot HG
            subst hcp
            cases f with
            | false =>
              clear hg1 hg2
              go_enter Tryd.func57, Tryd.ntmps57
              go_wp2_with fail
              go_quiet (fail)
              go_wp2_with fail
              go_quiet (fail)
              go_wp2_with fail
              go_ret
              exact FIN.out _ _ _ _ _ (by omega) hg3
            | true => exact absurd (by decide) (hg1 rfl)
          · have h5 : ¬ cap - s.pos = 0 := by omega
            obtain ⟨b, off, rfl⟩ := hspot ad rfl (by omega)
            have hg3 := HG.out b off rfl
            clear hspot
            cases f with
            | false =>
              clear hg1 hg2
              go_enter Tryd.func57, Tryd.ntmps57
              go_wp2_with fail
              go_quiet (fail)
              go_wp2_with fail
              go_quiet (fail)
              go_wp2_with fail
              go_ret
              exact FIN.out _ _ _ _ _ (by omega) hg3
            | true =>
              have h1 := hg1 rfl
              have h2 := hg2 rfl
              clear hg1 hg2
              go_enter Tryd.func57, Tryd.ntmps57
              go_wp2_with fail
              go_quiet (fail)
              go_wp2_with fail
              go_quiet (fail)
              go_wp2_with fail
              go_ret
              exact FIN.out _ _ _ _ _ (by omega) hg3
  · have t0 : ((s.F : Int) != 0) = true := by rw [bne_iff_ne]; omega
    have hx : nx s n f = ([], s) := by unfold nx; rw [if_pos hF]
    have HX := hid hx
    have HD := hid hF
    clear hx hF
    go_enter Tryd.func57, Tryd.ntmps57
    go_wp2_with fail
    go_ret
    unfold RNext
    rw [HX.out]
    exact ⟨none, 0, rfl, Byts.nil _ _, ⟨HA.out, HL.out⟩, Fr.refl _ _⟩
end Go.Proofs.YtfkklmklbmdlhaaDoor.Fld
