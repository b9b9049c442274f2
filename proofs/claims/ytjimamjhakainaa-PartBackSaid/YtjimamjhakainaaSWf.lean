/- A range over a function whose body always goes on: the body is told that what it gets is what comes next. The iterator of a list's parts says so. -/
import Derived.Test.YtjimamjhakainaaM25
namespace Go.Proofs.Ytjimamjhakainaa.Part
open Go.RowKit Go.Shelf Bit Rice Runs
attribute [local go_sem] Oper.semAt_some

theorem fr_pfx (y k : Nat) (h : k < y) : (List.finRange y).take k ++ [⟨k, h⟩] <+: List.finRange y := by
  rw [← fr_next y k h]
  exact List.take_prefix _ _
def P1N (y : Nat) (J : List (Fin y) → World → Prop) (e : Ending) (W' : World) : Prop := (∃ v, e = .returned v) ∧ J (List.finRange y) W'
set_option maxRecDepth 100000 in
set_option maxHeartbeats 2000000 in
theorem parts1_next (l bp bl : Nat) (a : Option Addr) (len cap p : Nat) (hlen : len ≤ 65536) (hp : p ≤ 6) (hlc : len ≤ cap) (y : Nat) (hy : 2 ^ p = y) (J : List (Fin y) → World → Prop) (n : Nat)
    (hY : ∀ pre x W, J pre W → pre ++ [x] <+: List.finRange y → YieldAt Fence.wide (n - 1) Try.prog l (encP a len cap p y x) W fun e W' =>
      e = .returned (.bool true) ∧ J (pre ++ [x]) W' ∧ Kp2 bp bl W W')
    (W : World) (h1 : W.cell? ⟨bp, 0, none⟩ = some (.int .i64 (p : Int))) (h2 : W.cell? ⟨bl, 0, none⟩ = some (.slice a len cap)) (h0 : J [] W) (hJd : ∀ s W n, J s W → J s (W.drewN n)) :
    CallsIn Fence.wide n Try.prog 75 #[.func (.yield l) #[] #[], .pointer (some ⟨bp, 0, none⟩), .pointer (some ⟨bl, 0, none⟩)] W (P1N y J) := by
  refine callsIn_of_wp Try.func75 rfl trivial ?_ rfl
  simp only [Try.ntmps75, List.size_toArray, List.length_cons, List.length_nil, Nat.reduceAdd, Nat.reduceSub, Array.replicate_succ, Array.replicate_zero, List.push_toArray, List.append_toArray, List.nil_append, List.cons_append]
  have hpw : (0 : Int) ≤ (p : Int) := by omega
  have hy64 : y ≤ 64 := by rw [← hy]; exact Nat.pow_le_pow_right (n := 2) (by decide) hp
  have hw2 : wrap64 ((2 : Int) ^ p) = (y : Int) := by
    rw [show (2 : Int) ^ p = ((2 ^ p : Nat) : Int) from by push_cast; rfl, hy]
    exact IntWalk.wrap64_in _ (by omega)
  have HB := hid fun wr i (hi : i < y) => bounds_in len p i hlen hp (by rw [hy]; exact hi) wr
  have HBM := hid fun i => bd_mono len p i
  have HBL := hid fun i (hi : i ≤ y) => bd_le len p i (by rw [hy]; exact hi)
  clear hy
  gi_wp2
  rw [hw2]
  clear hw2
  gi_loopw [9] (fun i wr => ∃ k : Nat, k ≤ y ∧ i = .int .i64 k ∧ J ((List.finRange y).take k) wr ∧ Kp2 bp bl W wr)
    (fun i _ => y - (intOf i).toNat)
  case atStart => exact ⟨0, Nat.zero_le _, rfl, h0, Nat.le_refl _, rfl, rfl⟩
  case round =>
    obtain ⟨k, hk, rfl, hJs, hkp⟩ := hrel
    have c1 := (World.cell?_of_block (a := ⟨bp, 0, none⟩) hkp.2.1).trans h1
    have c2 := (World.cell?_of_block (a := ⟨bl, 0, none⟩) hkp.2.2).trans h2
    by_cases hlt : k < y
    · have hlt2 : (k : Int) < (y : Int) := by omega
      have HBK := hid (HB.out wr k hlt)
      have hbm := HBM.out k
      have hbl := HBL.out (k + 1) (by omega)
      have HLT := hid hlt
      have HEQ := hid (show encP a len cap p y ⟨k, hlt⟩ = #[.int .i64 (k : Int), .slice (ptA a cap (bd len p k)) (bd len p (k + 1) - bd len p k) (cap - bd len p k)] from rfl)
      have HPX := hid (fr_pfx y k hlt)
      have HNX := hid (fr_next y k hlt)
      generalize bd len p k = f at *
      generalize bd len p (k + 1) = t at *
      gi_wp2_with fail
      refine ⟨trivial, fun h => (by cases h), ?_⟩
      refine (callsIn_wide.2 HBK.out).mono ?_
      rintro e w' ⟨rfl, nq, rfl⟩
      have c3 : (wr.drewN nq).cell? ⟨bl, 0, none⟩ = some (.slice a len cap) := c2
      have hJ2 := hJd _ _ nq hJs
      have HKP := hid hkp
      obtain ⟨fn, tmps, assign, body, hyl, hR⟩ := hY _ ⟨k, hlt⟩ (wr.drewN nq) hJ2 HPX.out
      rw [HEQ.out] at hyl
      unfold ptA at hyl
      clear hJ2 hkp hJs
      by_cases e : cap = f
      · rw [if_pos e] at hyl
        subst e
        rw [Nat.sub_self] at hyl
        gi_wp2_with fail
        refine ⟨fun h => (by cases h), ?_⟩
        refine hR.mono ?_
        rintro e W3 ⟨rfl, hJ3, hk3⟩
        gi_wp2_with fail
        go_roundw
        case rel => exact ⟨k + 1, by omega, by go_num, by rw [HNX.out]; exact hJ3, HKP.out.trans (Kp2.trans ⟨Nat.le_refl _, rfl, rfl⟩ hk3)⟩
        case measure => simp [intOf]; omega
      · rw [if_neg e] at hyl
        gi_wp2_with fail
        refine ⟨fun h => (by cases h), ?_⟩
        refine hR.mono ?_
        rintro e W3 ⟨rfl, hJ3, hk3⟩
        gi_wp2_with fail
        go_roundw
        case rel => exact ⟨k + 1, by omega, by go_num, by rw [HNX.out]; exact hJ3, HKP.out.trans (Kp2.trans ⟨Nat.le_refl _, rfl, rfl⟩ hk3)⟩
        case measure => simp [intOf]; omega
    · have hge : ¬ (k : Int) < (y : Int) := by omega
      obtain rfl : y = k := by omega
      rw [List.take_of_length_le (by simp)] at hJs
      have hfin : P1N y J (.returned (.tuple #[])) wr := ⟨⟨_, rfl⟩, hJs⟩
      gi_wp2_with fail
      go_end0
      exact hfin

/-- **AN ITERATOR THAT SAYS WHAT COMES NEXT**, for a body that always goes on. -/
def NextsIn {α : Type} (n gf : Nat) (lb : Array Value) (encs : α → Array Value) (bp bl : Nat) (all : List α) (w : World) : Prop :=
  ∀ (l : Nat) (J : List α → World → Prop) (W : World), Below w.heap.size w W → (∀ s W m, J s W → J s (W.drewN m)) →
    (∀ pre x W1, J pre W1 → pre ++ [x] <+: all → YieldAt Fence.wide (n - 1) Try.prog l (encs x) W1 fun e W' => e = .returned (.bool true) ∧ J (pre ++ [x]) W' ∧ Kp2 bp bl W1 W') →
    J [] W → CallsIn Fence.wide n Try.prog gf (#[.func (.yield l) #[] #[]] ++ lb) W fun e W' => (∃ v, e = .returned v) ∧ J all W'

theorem parts_nexts (n bp bl : Nat) (a : Option Addr) (len cap p : Nat) (hlen : len ≤ 65536) (hp : p ≤ 6) (hlc : len ≤ cap) (y : Nat) (hy : 2 ^ p = y) (w : World) (hbp : bp < w.heap.size) (hbl : bl < w.heap.size)
    (h1 : w.cell? ⟨bp, 0, none⟩ = some (.int .i64 (p : Int))) (h2 : w.cell? ⟨bl, 0, none⟩ = some (.slice a len cap)) :
    NextsIn n 75 #[.pointer (some ⟨bp, 0, none⟩), .pointer (some ⟨bl, 0, none⟩)] (encP a len cap p y) bp bl (List.finRange y) w := fun l J W hW hJd hY h0 =>
  parts1_next l bp bl a len cap p hlen hp hlc y hy J n hY W ((hW.cell (p := ⟨bp, 0, none⟩) hbp).trans h1) ((hW.cell (p := ⟨bl, 0, none⟩) hbl).trans h2) h0 hJd

/-- What the loop lays for itself: its record, and the block for what the rounds put off. -/
structure Laid (d : Nat) (r : Loop) (W : World) : Prop where
  record : W.heap[d + 1]? = some (.loop r)
  off : W.heap[d]? = some (.deferred (some []))
theorem Laid.lt {d : Nat} {r : Loop} {W : World} (h : Laid d r W) : d + 1 < W.heap.size := (Array.getElem?_eq_some_iff.1 h.record).1
theorem Laid.turn {d : Nat} {r : Loop} {W : World} (h : Laid d r W) (r' : Loop) : Laid d r' (W.putObj (d + 1) (.loop r')) :=
  ⟨World.putObj_heap_same h.lt, (World.putObj_heap_other (by omega)).trans h.off⟩
theorem Laid.keep {d : Nat} {r : Loop} {W W' : World} (h : Laid d r W) (k : KeepsFrom d W W') : Laid d r W' := ⟨k.same _ _ (by omega) h.record rfl, k.same _ _ (Nat.le_refl _) h.off rfl⟩
theorem laid_new (w : World) (r : Loop) : Laid w.heap.size r ((w.alloc (.deferred (some []))).alloc (.loop r)) := by
  have e : (w.alloc (.deferred (some []))).heap.size = w.heap.size + 1 := by simp
  refine ⟨?_, (Below.heap_alloc _ _ _ (by omega)).trans (heap_alloc_new _ _)⟩
  rw [← e]
  exact heap_alloc_new _ _
theorem kp2_put {bp bl l : Nat} (W : World) (o : Obj) (h1 : bp < l) (h2 : bl < l) : Kp2 bp bl W (W.putObj l o) := ⟨by simp, World.putObj_heap_other (by omega), World.putObj_heap_other (by omega)⟩

/-- **A RANGE OVER A FUNCTION, WHERE THE BODY ALWAYS GOES ON AND IS TOLD WHAT COMES NEXT.** -/
theorem range_next {α : Type} {g : Operand} {ps : Array Tmp} {assign body : Code} {Q : Exit → Act → World → Prop} {a : Act} {w : World} {n : Nat} (h1 : 1 ≤ n) {gf : Nat} {lb : Array Value} (hg : a.eval g = .func (.func gf) #[] lb)
    (eg : ∀ args w, (callFunc gf args).run Try.prog w = .ok (.enter gf args) w) {encs : α → Array Value} {bp bl : Nat} (hbp : bp < w.heap.size) (hbl : bl < w.heap.size) {all : List α} (hseq : NextsIn (n - 1) gf lb encs bp bl all w)
    (hps : ∀ x, (encs x).size = ps.size) (I : List α → World → Prop) (hI : OwnFrom w.heap.size I) (h0 : I [] w) (a₁ : α → Act)
    (hassign : ∀ (l : Nat) (x : α) (W : World) (K : Act → World → Prop), K (a₁ x) W →
      assign.wpIn (Fence.wide.inRound l) (n - 1 - 1) Try.prog (Exit.then K (fun _ _ _ => False)) { tmps := (ps.zip (encs x)).foldl (fun t (p, v) => t.setIfInBounds p v) a.tmps, defers := [] } W)
    (hbody : ∀ (l : Nat) (pre : List α) (x : α) (W : World), I pre W → pre ++ [x] <+: all → body.wpIn (Fence.wide.inRound l) (n - 1 - 1) Try.prog (ownPostG w.heap.size (Kp2 bp bl) I (fun _ _ _ => False) (pre ++ [x]) W) (a₁ x) W)
    (hdone : ∀ (D : Nat) (W : World), w.heap.size ≤ D → I all W → W.heap[D]? = some (.deferred (some [])) → Q .normal { a with defers := { target := .collected D, args := #[] } :: a.defers } W) :
    (Code.rangeFunc g ps assign body).wpIn Fence.wide n Try.prog Q a w := by
  refine wpIn_rangeFunc fun fn hfn => ?_
  obtain ⟨d, hd⟩ : ∃ d, w.heap.size = d := ⟨_, rfl⟩
  obtain ⟨rc, hrc⟩ : ∃ rc : LoopState → Loop, ∀ st, rc st = { state := st, pending := none, fn, tmps := a.tmps, params := ps, assign, body, defers := d } := ⟨_, fun _ => rfl⟩
  have hn := laid_new w (rc .ready)
  have hi1 : I [] ((w.alloc (.deferred (some []))).alloc (.loop (rc .ready))) := hI.alloc _ (hI.alloc _ h0)
  have hb1 : Below w.heap.size w ((w.alloc (.deferred (some []))).alloc (.loop (rc .ready))) := ((Below.refl w.heap.size w).alloc (Nat.le_refl _) _).alloc (by simp) _
  have hent := run_enterLoop_outer (P := Try.prog) (w := w) fn a.tmps ps assign body
  rw [hd] at hn hb1 hent hI hbody hdone hbp hbl
  rw [← hrc] at hent
  have hs1 : Below w.heap.size w ((w.alloc (.deferred (some []))).alloc (.loop (rc .ready))) := by rw [hd]; exact hb1
  generalize (w.alloc (.deferred (some []))).alloc (.loop (rc .ready)) = W1 at *
  refine ⟨d + 1, [{ target := .collected d, args := #[] }], W1, { target := .fn (.func gf) lb, args := #[.func (.yield (d + 1)) #[] #[]] }, W1, gf, #[.func (.yield (d + 1)) #[] #[]] ++ lb, W1, hent, ?_, fun _ _ => trivial, ?_, fun _ => h1, ?_⟩
  · simp only [resolve, hg]
    simp [go_sem]
  · simp [invoke, go_sem, eg]
  have hJ := hseq (d + 1) (fun pre W => I pre W ∧ Laid d (rc .ready) W) W1 hs1
    (fun s W m hs => ⟨hI s W _ none hs.1 (grown_drewN W m) (fun r e => by cases e), ⟨hs.2.record, hs.2.off⟩⟩) ?_ ⟨hi1, hn⟩
  · refine hJ.mono ?_
    rintro e W2 ⟨⟨v, rfl⟩, hi, hl⟩
    have hend := run_endLoop (P := Try.prog) hl.record (by rw [hrc]; simp)
    rw [hrc] at hend
    exact ⟨none, _, hend, hdone d _ (Nat.le_refl _) (hI.putObj _ hi (by omega) hl.record rfl) ((World.putObj_heap_other (by omega)).trans hl.off)⟩
  · rintro pre x W ⟨hi, hl⟩ hnx
    have hy := run_yield (P := Try.prog) (args := encs x) hl.record (by rw [hrc]; exact hps x)
    have hbg := run_beginRound (P := Try.prog) hl.record (by rw [hrc])
    have hbe : ({ rc .ready with state := .busy } : Loop) = rc .busy := by rw [hrc, hrc]
    rw [hbe] at hbg
    rw [hrc] at hy
    refine ⟨fn, _, assign, body, hy, roundIn_of_wpIn hfn (hassign _ x W _ ⟨_, hbg, ?_⟩)⟩
    have hl2 := hl.turn (rc .busy)
    refine wpIn_mono (hbody _ pre x _ (hI.putObj _ hi (by omega) hl.record rfl) hnx) ?_
    rintro e a3 W3 hp
    cases e with
    | normal =>
      obtain ⟨hkf, hkp, hi3⟩ := hp
      have hl3 := hl2.keep hkf
      have her := run_endRound (P := Try.prog) none hl3.record
      have hre : ({ rc .busy with state := if (none : Option Code).isNone then .ready else .done, pending := none } : Loop) = rc .ready := by rw [hrc, hrc]; rfl
      rw [hre] at her
      exact ⟨_, _, her, rfl, ⟨hI.putObj _ hi3 (by omega) hl3.record rfl, hl3.turn _⟩, ((kp2_put W _ (by omega) (by omega)).trans hkp).trans (kp2_put W3 _ (by omega) (by omega))⟩
    | ret => exact hp.2.elim
    | exit id => exact hp.2.elim
    | goto t => exact hp.2.elim
    | panic ch => exact hp.elim
    | outgrown => exact hp.elim
end Go.Proofs.Ytjimamjhakainaa.Part
