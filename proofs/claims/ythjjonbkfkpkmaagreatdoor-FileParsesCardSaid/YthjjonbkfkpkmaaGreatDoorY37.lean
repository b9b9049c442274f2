/- The document's own taker of bytes, in memory, and its Next, Left, Value, Signed. Conditions: fewer than 2^40 bytes. -/
import Derived.Test.YthjjonbkfkpkmaaGreatDoorY03
import Derived.BigQuiet
import Derived.Deep.QuietTactic
import Derived.Test.YthjjonbkfkpkmaaGreatDoorY05
import Derived.Test.YthjjonbkfkpkmaaGreatDoorY26
namespace Go.Proofs.YthjjonbkfkpkmaaGreatDoor.Fld
open Go.RowKit Gen

/-- The document's taker at block r: all bytes L behind the slice at a, its first error F, how many were taken. -/
structure RtA (w : World) (r : Nat) (a : Option Addr) (cap : Nat) (L : List Nat) (F pos : Nat) : Prop where
  c0 : w.cell? ⟨r, 0, none⟩ = some (.slice a L.length cap)
  c1 : w.cell? ⟨r, 1, none⟩ = some (.int .i64 (pos : Int))
  c2 : w.cell? ⟨r, 2, none⟩ = some (.int .i64 (F : Int))
  f1 : w.frozen? ⟨r, 1, none⟩ = false
  f2 : w.frozen? ⟨r, 2, none⟩ = false
  le : pos ≤ L.length
/-- What is known of the slice at a. -/
structure Src (w0 : World) (a : Option Addr) (cap : Nat) (L : List Nat) : Prop where
  bytes : Byts w0 a L
  spot : ∀ ad, a = some ad → 0 < cap → ∃ b off, ad = ⟨b, off, .none⟩
  room : L.length ≤ cap
  top : cap ≤ 9223372036854775807
  nil : a = .none → cap = 0
  len : L.length ≤ 549755813888
set_option maxRecDepth 100000 in
theorem RtA.lt {w : World} {r cap F pos : Nat} {a : Option Addr} {L : List Nat} (h : RtA w r a cap L F pos) : r < w.heap.size := World.block_lt_of_cell? w _ h.c0
set_option maxRecDepth 100000 in
theorem RtA.keep {w w' : World} {r cap F pos : Nat} {a : Option Addr} {L : List Nat} (h : RtA w r a cap L F pos) {X : Nat → Prop} (hf : Fr X w w') (hr : ¬ X r) : RtA w' r a cap L F pos :=
  ⟨(hf.cell (p := ⟨r, 0, none⟩) h.lt hr).trans h.c0, (hf.cell (p := ⟨r, 1, none⟩) h.lt hr).trans h.c1, (hf.cell (p := ⟨r, 2, none⟩) h.lt hr).trans h.c2, (hf.frozen (p := ⟨r, 1, none⟩) h.lt hr).trans h.f1, (hf.frozen (p := ⟨r, 2, none⟩) h.lt hr).trans h.f2, h.le⟩
set_option maxRecDepth 100000 in
theorem RtA.drewN {w : World} {r cap F pos : Nat} {a : Option Addr} {L : List Nat} (h : RtA w r a cap L F pos) (n : Nat) : RtA (w.drewN n) r a cap L F pos := h.keep (X := fun _ => False) ⟨rfl, rfl, rfl, Nat.le_refl _, fun _ _ _ => rfl⟩ (fun e => e)
set_option maxRecDepth 100000 in
theorem RtA.setF {w : World} {r cap F pos : Nat} {a : Option Addr} {L : List Nat} (h : RtA w r a cap L F pos) (E : Nat) : RtA (w.setCell ⟨r, 2, none⟩ (.int .i64 (E : Int))) r a cap L E pos := by
  refine ⟨?_, ?_, ?_, ?_, ?_, h.le⟩
  · rw [World.cell?_setCell_other _ _ _ _ (by intro e; simp at e)]; exact h.c0
  · rw [World.cell?_setCell_other _ _ _ _ (by intro e; simp at e)]; exact h.c1
  · exact World.cell?_setCell_same _ _ _ (by rw [h.c2])
  · simp [h.f1]
  · simp [h.f2]
set_option maxRecDepth 100000 in
theorem RtA.setPos {w : World} {r cap F pos : Nat} {a : Option Addr} {L : List Nat} (h : RtA w r a cap L F pos) (p' : Nat) (hp : p' ≤ L.length) : RtA (w.setCell ⟨r, 1, none⟩ (.int .i64 (p' : Int))) r a cap L F p' := by
  refine ⟨?_, ?_, ?_, ?_, ?_, hp⟩
  · rw [World.cell?_setCell_other _ _ _ _ (by intro e; simp at e)]; exact h.c0
  · exact World.cell?_setCell_same _ _ _ (by rw [h.c1])
  · rw [World.cell?_setCell_other _ _ _ _ (by intro e; simp at e)]; exact h.c2
  · simp [h.f1]
  · simp [h.f2]

/-- The document's taker in such a state. -/
def RtS (w : World) (r : Nat) (a : Option Addr) (cap : Nat) (L : List Nat) (s : TS) : Prop := RtA w r a cap L s.F s.pos ∧ s.l = (if s.F = 0 then L.drop s.pos else [])

/-- What Next leaves. -/
def RNext (w0 w : World) (r : Nat) (a : Option Addr) (cap : Nat) (L : List Nat) (s : TS) (n : Int) (f : Bool) (e : Ending) (w' : World) : Prop :=
  ∃ ao c, e = .returned (.slice ao (nx s n f).1.length c) ∧ Byts w0 ao (nx s n f).1 ∧ RtS w' r a cap L (nx s n f).2 ∧ Fr (fun b => b = r) w w'

set_option maxRecDepth 100000 in
theorem frdrew {w : World} {X : Nat → Prop} (n : Nat) : Fr X w (w.drewN n) := ⟨rfl, rfl, rfl, Nat.le_refl _, fun _ _ _ => rfl⟩

set_option maxHeartbeats 2000000 in
set_option maxRecDepth 100000 in
theorem rnext_any {w0 w : World} {r cap : Nat} {a : Option Addr} {L : List Nat} {s : TS} (hS : Src w0 a cap L) (h : RtS w r a cap L s) (n : Int) (f : Bool) :
    Calls Tryz.prog 82 #[.pointer (some ⟨r, 0, none⟩), .int .i64 n, .bool f] w (RNext w0 w r a cap L s n f) := by
  obtain ⟨hA, hl⟩ := h
  have c0 := hA.c0; have c1 := hA.c1; have c2 := hA.c2; have f1 := hA.f1; have f2 := hA.f2
  have hle := hA.le
  have hlen := hS.len
  have HA := hid hA
  have HL := hid hl
  clear hA hl
  by_cases hF : s.F = 0
  · have t0 : ((s.F : Int) != 0) = false := by rw [hF]; rfl
    by_cases hbad : n < 0 ∨ (f = true ∧ (n < 1 ∨ 8 < n))
    · have hx : nx s n f = ([], ⟨1, [], s.pos⟩) := by unfold nx; rw [if_neg (by simp [hF]), if_pos hbad]
      have HX := hid hx
      have HD := hid hF
      clear hx hF
      have fin : RNext w0 w r a cap L s n f (.returned (.slice none 0 0)) (w.setCell ⟨r, 2, none⟩ (.int .i64 1)) := by
        unfold RNext
        rw [HX.out]
        exact ⟨none, 0, rfl, Byts.nil _ _, ⟨HA.out.setF 1, rfl⟩, (Fr.refl (fun b => b = r) _).setCell (p := ⟨r, 2, none⟩) rfl _⟩
      have FIN := hid fin
      clear fin
      by_cases hn : n < 0
      · go_enter Tryz.func82, Tryz.ntmps82
        go_wp2_with fail
        go_ret
        exact FIN.out
      · obtain ⟨rfl, hb⟩ : f = true ∧ (n < 1 ∨ 8 < n) := by
          rcases hbad with h | h
          · exact absurd h hn
          · exact h
        rcases hb with hb | hb
        · go_enter Tryz.func82, Tryz.ntmps82
          go_wp2_with fail
          go_ret
          exact FIN.out
        · have h1 : ¬ n < 1 := by omega
          go_enter Tryz.func82, Tryz.ntmps82
          go_wp2_with fail
          go_ret
          exact FIN.out
    · obtain ⟨k, rfl⟩ : ∃ k : Nat, n = k := ⟨n.toNat, by omega⟩
      have hkn : ¬ (k : Int) < 0 := by omega
      have hll : s.l.length = L.length - s.pos := by rw [HL.out, if_pos hF, List.length_drop]
      have hg : f = true → 1 ≤ k ∧ k ≤ 8 := fun e => by
        have : ¬ ((k : Int) < 1 ∨ 8 < (k : Int)) := fun e2 => hbad (.inr ⟨e, e2⟩)
        omega
      have t0' : s.F = 0 := hF
      have hsub1 : -9223372036854775808 ≤ (L.length : Int) - (s.pos : Int) := by omega
      have hsub2 : (L.length : Int) - (s.pos : Int) ≤ 9223372036854775807 := by omega
      have hg1 : f = true → ¬ (k : Int) < 1 := fun e => by have := hg e; omega
      have hg2 : f = true → ¬ 8 < (k : Int) := fun e => by have := hg e; omega
      by_cases hk : (L.length : Int) - (s.pos : Int) < (k : Int)
      · have hx : nx s (k : Int) f = ([], ⟨10, [], s.pos⟩) := by unfold nx; rw [if_neg (by omega), if_neg hbad, if_pos (by omega)]
        have HX := hid hx
        have fin : ∀ nq, RNext w0 w r a cap L s k f (.returned (.slice none 0 0)) ((w.drewN nq).setCell ⟨r, 2, none⟩ (.int .i64 10)) := by
          intro nq
          unfold RNext
          rw [HX.out]
          exact ⟨none, 0, rfl, Byts.nil _ _, ⟨(HA.out.drewN nq).setF 10, rfl⟩, (frdrew (X := fun b => b = r) nq).setCell (p := ⟨r, 2, none⟩) rfl _⟩
        have FIN := hid fin
        clear fin hx hF t0' hbad hg hll
        have hz := hid t0
        cases f with
        | false =>
          clear hg1 hg2
          go_enter Tryz.func82, Tryz.ntmps82
          go_wp2_with fail
          go_quiet (fail)
          go_wp2_with fail
          go_ret
          exact FIN.out _
        | true =>
          have h1 := hg1 rfl
          have h2 := hg2 rfl
          clear hg1 hg2
          go_enter Tryz.func82, Tryz.ntmps82
          go_wp2_with fail
          go_quiet (fail)
          go_wp2_with fail
          go_ret
          exact FIN.out _
      · have hkl : s.pos + k ≤ L.length := by omega
        have hx : nx s (k : Int) f = (s.l.take k, ⟨0, s.l.drop k, s.pos + k⟩) := by
          unfold nx
          rw [if_neg (by omega), if_neg hbad, if_neg (by omega), Int.toNat_natCast]
        have hxl : (s.l.take k).length = k := by rw [List.length_take]; omega
        have hroom := hS.room
        have htop := hS.top
        have hnil := hS.nil
        have hspot := hS.spot
        have hcap : s.pos + k ≤ cap := Nat.le_trans hkl hroom
        have hb0 := hS.bytes
        have fin : ∀ n1 n2 ao c (k' : Nat), k' = k → Byts w0 ao (s.l.take k) → RNext w0 w r a cap L s k f (.returned (.slice ao k' c)) (((w.drewN n1).setCell ⟨r, 1, none⟩ (.int .i64 ((s.pos : Int) + (k : Int)))).drewN n2) := by
          intro n1 n2 ao c k' hk' h3
          rw [hk']
          unfold RNext
          rw [hx]
          refine ⟨ao, c, ?_, h3, ⟨?_, ?_⟩, ?_⟩
          · show _ = Ending.returned (.slice ao (s.l.take k).length c)
            rw [hxl]
          · have h4 := ((HA.out.drewN n1).setPos (s.pos + k) hkl).drewN n2
            rw [hF] at h4
            rw [← show (((s.pos + k : Nat)) : Int) = (s.pos : Int) + (k : Int) from by omega]
            exact h4
          · show s.l.drop k = if (0 : Nat) = 0 then L.drop (s.pos + k) else []
            rw [if_pos rfl, HL.out, if_pos hF, List.drop_drop]
          · exact ((frdrew (X := fun b => b = r) n1).setCell (p := ⟨r, 1, none⟩) rfl _).trans (frdrew n2)
        have FIN := hid fin
        have hse : s.l.take k = (L.drop s.pos).take k := by rw [HL.out, if_pos hF]
        have HSE := hid hse
        have hg1' : ∀ b off, a = some ⟨b, off, none⟩ → Byts w0 (some ⟨b, off + s.pos, none⟩) (s.l.take k) := fun b off e => by
          rw [hse]; subst e; exact (hb0.drop s.pos).take k
        have HG := hid hg1'
        have hz := hid t0
        have hsum : (s.pos : Int) + (k : Int) ≤ 9223372036854775807 := by omega
        clear fin hx hF t0' hbad hg hll hxl hse hg1' hb0
        cases a with
        | none =>
          obtain rfl : cap = 0 := hnil rfl
          obtain rfl : L = [] := List.eq_nil_of_length_eq_zero (by omega)
          obtain rfl : k = 0 := by omega
          have hp0 : s.pos = 0 := by omega
          have hg3 : Byts w0 none (s.l.take 0) := Byts.nil _ _
          · have hL0 : ([] : List Nat).length = 0 := rfl
            have hfin := FIN.out
            rw [show (s.pos : Int) + ((0 : Nat) : Int) = 0 from by omega] at hfin
            have FIN2 := hid hfin
            clear hfin
            cases f with
            | false =>
              clear hg1 hg2
              go_enter Tryz.func82, Tryz.ntmps82
              go_wp2_with fail
              go_quiet (fail)
              go_wp2_with fail
              go_quiet (fail)
              go_wp2_with fail
              go_ret
              exact FIN2.out _ _ _ _ _ rfl hg3
            | true => exact absurd (by decide) (hg1 rfl)
        | some ad =>
          clear hnil
          by_cases hcp : cap = s.pos
          · obtain rfl : k = 0 := by omega
            have hLp : L.length = s.pos := by omega
            have hg3 : Byts w0 (some ad) (s.l.take 0) := Byts.nil _ _
            clear hspot HG
            subst hcp
            cases f with
            | false =>
              clear hg1 hg2
              go_enter Tryz.func82, Tryz.ntmps82
              go_wp2_with fail
              go_quiet (fail)
              go_wp2_with fail
              go_quiet (fail)
              go_wp2_with fail
              go_ret
              exact FIN.out _ _ _ _ _ (by omega) hg3
            | true => exact absurd (by decide) (hg1 rfl)
          · have h5 : ¬ cap - s.pos = 0 := by omega
            obtain ⟨b, off, rfl⟩ := hspot ad rfl (by omega)
            have hg3 := HG.out b off rfl
            clear hspot
            cases f with
            | false =>
              clear hg1 hg2
              go_enter Tryz.func82, Tryz.ntmps82
              go_wp2_with fail
              go_quiet (fail)
              go_wp2_with fail
              go_quiet (fail)
              go_wp2_with fail
              go_ret
              exact FIN.out _ _ _ _ _ (by omega) hg3
            | true =>
              have h1 := hg1 rfl
              have h2 := hg2 rfl
              clear hg1 hg2
              go_enter Tryz.func82, Tryz.ntmps82
              go_wp2_with fail
              go_quiet (fail)
              go_wp2_with fail
              go_quiet (fail)
              go_wp2_with fail
              go_ret
              exact FIN.out _ _ _ _ _ (by omega) hg3
  · have t0 : ((s.F : Int) != 0) = true := by rw [bne_iff_ne]; omega
    have hx : nx s n f = ([], s) := by unfold nx; rw [if_pos hF]
    have HX := hid hx
    have HD := hid hF
    clear hx hF
    go_enter Tryz.func82, Tryz.ntmps82
    go_wp2_with fail
    go_ret
    unfold RNext
    rw [HX.out]
    exact ⟨none, 0, rfl, Byts.nil _ _, ⟨HA.out, HL.out⟩, Fr.refl _ _⟩
end Go.Proofs.YthjjonbkfkpkmaaGreatDoor.Fld
namespace Go.Proofs.YthjjonbkfkpkmaaGreatDoor.Fld
open Go.RowKit Gen

set_option maxRecDepth 100000 in
theorem lev_back (t : List Nat) (j x : Nat) (hx : t[j]? = some x) : lev (t.drop j) = x + 256 * lev (t.drop (j + 1)) := by
  have hjl : j < t.length := (List.getElem?_eq_some_iff.1 hx).1
  have hxe : t[j] = x := (List.getElem?_eq_some_iff.1 hx).2
  rw [List.drop_eq_getElem_cons hjl, hxe, lev]

set_option maxRecDepth 100000 in
set_option maxHeartbeats 800000 in
theorem rvalue_any {w : World} {a : Option Addr} {t : List Nat} {c : Nat} (hb : Byts w a t) (h8 : t.length ≤ 8) :
    Calls Tryz.prog 80 #[.slice a t.length c] w fun e w' => e = .returned (.int .u64 (lev t : Int)) ∧ w = w' := by
  have HB := hid hb
  clear hb
  go_enter Tryz.func80, Tryz.ntmps80
  go_wp2_with fail
  go_loop [3, 4] (fun v i => ∃ m : Nat, m ≤ t.length ∧ i = .int .i64 ((m : Int) - 1) ∧ v = .int .u64 (lev (t.drop m) : Int)) (fun _ i => (intOf i + 1).toNat)
  case atStart => exact ⟨t.length, Nat.le_refl _, rfl, by rw [List.drop_length]; rfl⟩
  case round =>
    obtain ⟨m, hm, rfl, rfl⟩ := hrel
    cases m with
    | zero =>
      go_wp2_with fail
      go_ret
      exact ⟨rfl, rfl⟩
    | succ j =>
      have hjl : j < t.length := hm
      obtain ⟨x, hx⟩ : ∃ x, t[j]? = some x := ⟨_, List.getElem?_eq_getElem hjl⟩
      obtain ⟨b, off, rfl, hcell⟩ := HB.out.at_ j x hx
      have hxl : x < 256 := HB.out.lt x (List.mem_of_getElem? hx)
      have hlv := lev_back t j x hx
      have hlt := lev_lt (t.drop (j + 1)) (fun b hb => HB.out.lt b (List.mem_of_mem_drop hb))
      have hp : 2 ^ (8 * (t.drop (j + 1)).length) ≤ 2 ^ 56 := Nat.pow_le_pow_right (by decide) (by rw [List.length_drop]; omega)
      have hlt2 : lev (t.drop (j + 1)) < 72057594037927936 := by omega
      have H := hid hlv
      have e1 : IntKind.u64.wrap (256 * (lev (t.drop (j + 1)) : Int)) = 256 * (lev (t.drop (j + 1)) : Int) := IntWalk.u64_in _ ⟨by omega, by omega⟩
      have e2 : IntKind.u64.wrap (256 * (lev (t.drop (j + 1)) : Int) + (x : Int)) = 256 * (lev (t.drop (j + 1)) : Int) + (x : Int) := IntWalk.u64_in _ ⟨by omega, by omega⟩
      clear hx hlv hlt hp
      rw [show (((j + 1 : Nat) : Int) - 1) = (j : Int) from by omega]
      have hj0 : (0 : Int) ≤ (j : Int) := by omega
      go_wp2_with fail
      go_round
      case rel => exact ⟨j, by omega, by go_num, congrArg (Value.int .u64) (by rw [H.out]; omega)⟩
      case measure => simp [intOf]

set_option maxRecDepth 100000 in
theorem sgn_high (t : List Nat) (j x : Nat) (hl : t.length = j + 1) (hx : t[j]? = some x) (hj : j ≤ 6) (ht : ∀ b ∈ t, b < 256) :
    sgn t = (if 128 ≤ x then (lev t : Int) - (pw7 (j + 1) : Int) else (lev t : Int)) ∧ lev t < 72057594037927936 ∧ pw7 (j + 1) ≤ 72057594037927936 := by
  have h1 := lev_step t j x hx
  rw [← hl, List.take_length] at h1
  have h2 := lev_lt (t.take j) (fun b hb => ht b (List.mem_of_mem_take hb))
  rw [List.length_take, Nat.min_eq_left (by omega)] at h2
  have hxl := ht x (List.mem_of_getElem? hx)
  unfold sgn pw7
  rw [hl]
  generalize lev (t.take j) = u at *
  generalize lev t = v at *
  have hk : j = 0 ∨ j = 1 ∨ j = 2 ∨ j = 3 ∨ j = 4 ∨ j = 5 ∨ j = 6 := by omega
  rcases hk with rfl | rfl | rfl | rfl | rfl | rfl | rfl <;> simp only [Nat.reduceMul, Nat.reduceSub, Nat.reducePow, Int.reducePow, Nat.reduceAdd, Nat.reduceLeDiff, Nat.min_eq_left] at h1 h2 ⊢ <;> (refine ⟨?_, by omega, by decide⟩) <;> (split <;> split <;> omega)
set_option maxRecDepth 100000 in
theorem sgn_full (t : List Nat) (hl : t.length = 8) (ht : ∀ b ∈ t, b < 256) : wrap64 (lev t : Int) = sgn t := by
  have h2 := lev_lt t ht
  unfold sgn wrap64
  rw [hl] at h2 ⊢
  generalize lev t = v at *
  simp only [Nat.reduceMul, Nat.reduceSub, Nat.reducePow, Int.reducePow] at h2 ⊢
  split <;> omega

end Go.Proofs.YthjjonbkfkpkmaaGreatDoor.Fld
namespace Go.Proofs.YthjjonbkfkpkmaaGreatDoor.Fld
open Go.RowKit Gen

set_option maxRecDepth 100000 in
theorem RtS.drewN {w : World} {r cap : Nat} {a : Option Addr} {L : List Nat} {s : TS} (h : RtS w r a cap L s) (n : Nat) : RtS (w.drewN n) r a cap L s := ⟨h.1.drewN n, h.2⟩
set_option maxRecDepth 100000 in
theorem RtS.keep {w w' : World} {r cap : Nat} {a : Option Addr} {L : List Nat} {s : TS} (h : RtS w r a cap L s) {X : Nat → Prop} (hf : Fr X w w') (hr : ¬ X r) : RtS w' r a cap L s := ⟨h.1.keep hf hr, h.2⟩
set_option maxRecDepth 100000 in
theorem bel_fr {w0 w w1 : World} {r : Nat} (hb : Below w0.heap.size w0 w) (hf : Fr (fun b => b = r) w w1) (hr : w0.heap.size ≤ r) : Below w0.heap.size w0 w1 :=
  hb.trans ⟨hf.os, hf.tape, hf.output, hf.size, fun k hk => hf.block k (Nat.lt_of_lt_of_le hk hb.size) (by omega)⟩
set_option maxRecDepth 100000 in
theorem nx_len8 (s : TS) (n : Int) : (nx s n true).1.length ≤ 8 := by
  unfold nx
  split
  · simp
  · split
    · simp
    · rename_i h
      split
      · simp
      · rw [List.length_take]
        have : ¬ (n < 1 ∨ 8 < n) := fun e => h (.inr ⟨rfl, e⟩)
        omega
set_option maxRecDepth 100000 in
theorem nx_err (s : TS) (n : Int) (f : Bool) (h : (nx s n f).2.F ≠ 0) : (nx s n f).1 = [] ∧ (nx s n f).2.pos = s.pos := by
  unfold nx at h ⊢
  split
  · exact ⟨rfl, rfl⟩
  · rename_i h0
    rw [if_neg h0] at h
    split
    · exact ⟨rfl, rfl⟩
    · rename_i h1
      rw [if_neg h1] at h
      split
      · exact ⟨rfl, rfl⟩
      · rename_i h2
        rw [if_neg h2] at h
        exact absurd rfl h

/-- What a call of the document's taker leaves. -/
def RTook (w : World) (r : Nat) (a : Option Addr) (cap : Nat) (L : List Nat) (s' : TS) (v : Value) (e : Ending) (w' : World) : Prop := e = .returned v ∧ RtS w' r a cap L s' ∧ Fr (fun b => b = r) w w'

set_option maxRecDepth 100000 in
set_option maxHeartbeats 2000000 in
theorem rtext_take {w0 w : World} {r cap : Nat} {a : Option Addr} {L : List Nat} {s : TS} (hS : Src w0 a cap L) (h : RtS w r a cap L s) (hb : Below w0.heap.size w0 w) (hr : w0.heap.size ≤ r) (n : Int) :
    Calls Tryz.prog 81 #[.pointer (some ⟨r, 0, none⟩), .int .i64 n] w (RTook w r a cap L (tx s n).2 (.string (tos (tx s n).1))) := by
  have c1 := h.1.c1
  have hlen := hS.len
  have HP := hid h.1.le
  have HS := hid hS
  have H0 := hid h
  clear h hS
  go_enter Tryz.func81, Tryz.ntmps81
  go_wp2_with fail
  refine (rnext_any HS.out H0.out n true).mono ?_
  rintro e w1 ⟨ao, c, rfl, hby, hrs, hfr⟩
  have hby1 := hby.keep (bel_fr hb hfr hr)
  have H1 := hid (And.intro hby1 (And.intro hrs hfr))
  have hl8 := nx_len8 s n
  have HE := hid (nx_err s n true)
  have HTX := hid (show tx s n = if (nx s n true).2.l.length < lev (nx s n true).1 then ([], ⟨fst (nx s n true).2.F 10, [], s.pos⟩) else nx (nx s n true).2 (lev (nx s n true).1 : Nat) false from rfl)
  clear hby hby1 hrs hfr c1
  go_wp2_with fail
  refine (rvalue_any H1.out.1 hl8).mono ?_
  rintro e w2 ⟨rfl, rfl⟩
  have hlt := lev_u64 H1.out.1.lt hl8
  have d0 := H1.out.2.1.1.c0; have d1 := H1.out.2.1.1.c1; have d2 := H1.out.2.1.1.c2; have g1 := H1.out.2.1.1.f1; have g2 := H1.out.2.1.1.f2
  have hle := H1.out.2.1.1.le
  have hl := H1.out.2.1.2
  generalize hs1 : (nx s n true).2 = s1 at *
  generalize ht : (nx s n true).1 = t at *
  by_cases hF : s1.F = 0
  · have hz : ((s1.F : Int) == 0) = true := by rw [hF]; rfl
    have hz2 : ((s1.F : Int) != 0) = false := by rw [hF]; rfl
    rw [if_pos hF] at hl
    have hll : s1.l.length = L.length - s1.pos := by rw [hl, List.length_drop]
    have hb1 : (0 : Int) ≤ (L.length : Int) - (s1.pos : Int) := by omega
    have hb2 : (L.length : Int) - (s1.pos : Int) ≤ 9223372036854775807 := by omega
    have hw : IntKind.u64.wrap ((L.length : Int) - (s1.pos : Int)) = (L.length : Int) - (s1.pos : Int) := IntWalk.u64_in _ ⟨by omega, by omega⟩
    by_cases hv : s1.l.length < lev t
    · have hv1 : (L.length : Int) - (s1.pos : Int) < (lev t : Int) := by omega
      have HX := HTX.out
      rw [if_pos hv, hF] at HX
      have HX := hid HX
      have HF := hid hF
      clear hv hF hl hll HTX HE hs1 ht
      generalize lev t = v at *
      go_wp2_with fail
      go_quiet (fail)
      go_wp2_with fail
      go_ret
      unfold RTook
      rw [HX.out]
      refine ⟨rfl, ⟨((H1.out.2.1.1.drewN _).setF 10).setPos s.pos HP.out, rfl⟩, ?_⟩
      exact ((H1.out.2.2.trans (frdrew _)).setCell (p := ⟨r, 2, none⟩) rfl _).setCell (p := ⟨r, 1, none⟩) rfl _
    · have hv1 : ¬ (L.length : Int) - (s1.pos : Int) < (lev t : Int) := by omega
      have hv2 : (lev t : Int) ≤ 9223372036854775807 := by omega
      have HX := HTX.out
      rw [if_neg hv] at HX
      have HX := hid HX
      have HF := hid hF
      clear hv hF hl hll HTX HE hs1 ht
      generalize lev t = v at *
      go_wp2_with fail
      go_quiet (fail)
      go_wp2_with fail
      refine (rnext_any HS.out (H1.out.2.1.drewN _) (v : Int) false).mono ?_
      rintro e w2 ⟨ao2, c2, rfl, hby, hrs, hfr⟩
      have hfr2 := (H1.out.2.2.trans (frdrew _)).trans hfr
      have hcv := (hby.keep (bel_fr hb hfr2 hr)).conv c2
      have H2 := hid (And.intro hrs hfr2)
      clear hby hrs hfr hfr2 H1
      go_wp2_with fail
      go_ret
      unfold RTook
      rw [HX.out]
      exact ⟨rfl, H2.out.1, H2.out.2⟩
  · have hz : ((s1.F : Int) == 0) = false := by rw [beq_eq_false_iff_ne]; omega
    have hz2 : ((s1.F : Int) != 0) = true := by rw [bne_iff_ne]; omega
    obtain ⟨ht0, hp0⟩ := HE.out hF
    have HX := HTX.out
    have hnx : nx s1 ((0 : Nat) : Int) false = ([], s1) := by unfold nx; rw [if_pos hF]
    rw [ht0, show lev [] = 0 from rfl, if_neg (by omega), hnx] at HX
    have HX := hid HX
    have HF := hid hF
    have HPP := hid hp0
    clear hF hl HTX HE hs1 ht hnx hp0
    subst ht0
    go_wp2_with fail
    go_quiet (fail)
    go_wp2_with fail
    go_ret
    unfold RTook
    rw [HX.out]
    have h3 := (H1.out.2.1.1.drewN nq).setPos s.pos HP.out
    refine ⟨rfl, ⟨?_, ?_⟩, (H1.out.2.2.trans (frdrew _)).setCell (p := ⟨r, 1, none⟩) rfl _⟩
    · rw [HPP.out]; exact h3
    · exact H1.out.2.1.2
end Go.Proofs.YthjjonbkfkpkmaaGreatDoor.Fld
namespace Go.Proofs.YthjjonbkfkpkmaaGreatDoor.Tg
open Go.RowKit Gen Fld
open Crc hiding hid

set_option maxRecDepth 100000 in
theorem bgn_two {x y : Nat} {r : List Nat} : Bgn (x :: y :: r) ↔ x = 84 ∧ y = 71 := by unfold Bgn; simp
set_option maxRecDepth 100000 in
theorem bgn_one {x : Nat} : Bgn [x] ↔ x = 84 := by unfold Bgn; simp
set_option maxRecDepth 100000 in
theorem gF_short {b : List Nat} (hb : Bgn b) (hl : b.length < 3) : gF b = 10 := by
  have hF : (gX b).2.F = 10 := by
    match b, hl with
    | [], _ => rfl
    | [x], _ => rfl
    | [x, y], _ => rfl
    | x :: y :: z :: r, h => exact absurd h (by simp)
  exact gF_end hb hF (by decide)
set_option maxRecDepth 100000 in
theorem g0_long (x y n : Nat) (r : List Nat) : g0 (x :: y :: n :: r) = ⟨0, r, 3⟩ ∧ gc (x :: y :: n :: r) = n := by
  have h1 := nx_ok (s := ⟨0, x :: y :: n :: r, 0⟩) (k := 2) (f := false) rfl (fun e => by cases e) (by simp)
  have e1 : nx ⟨0, x :: y :: n :: r, 0⟩ 2 false = ([x, y], ⟨0, n :: r, 2⟩) := h1
  have h2 := nx_ok (s := ⟨0, n :: r, 2⟩) (k := 1) (f := true) rfl (fun _ => by decide) (by simp)
  have e2 : nx ⟨0, n :: r, 2⟩ 1 true = ([n], ⟨0, r, 3⟩) := h2
  unfold g0 gc
  rw [e1]
  show (nx ⟨0, n :: r, 2⟩ 1 true).2 = _ ∧ lev (nx ⟨0, n :: r, 2⟩ 1 true).1 = _
  rw [e2]
  exact ⟨rfl, by show n + 256 * 0 = n; omega⟩
end Go.Proofs.YthjjonbkfkpkmaaGreatDoor.Tg
