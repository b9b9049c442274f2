/- A region that draws its order, when a cell that it loads is turned by its own last store: one condition on the world that stands behind every operation, and one that stands till the operation st has come up. The load, for which st waits, may be taken first. Conditions: those that each lemma names. -/
import Derived.Test.YthjjonbkfkpkmaaDoorY01
import Derived.Deep.RegionHeld3
import Derived.StillTail
import Derived.Test.YthjjonbkfkpkmaaDoorY12
import Derived.Deep.DeepCutAuto
import Derived.Test.YthjjonbkfkpkmaaDoorY06
namespace Go.Proofs.YthjjonbkfkpkmaaDoor.Pcm
open Go.RowKit Gen

section
variable {P : Program} {ops : Array Oper} {Q : Exit → Act → World → Prop} {md : Region.Mode}
/-- What stands of the world when the operations of `l` have come up. -/
def Till (S1 S2 : World → Prop) (st : Nat) (l : Array Bool) (w : World) : Prop := S1 w ∧ (l.getD st true = false → S2 w)
/-- Whatever order is picked from here on, and `T` of what has come up and of the world holds behind every operation. -/
def anyT (P : Program) (md : Region.Mode) (ops : Array Oper) (Q : Exit → Act → World → Prop) (T : Array Bool → World → Prop) : Nat → Array Bool → Act → World → Prop
  | 0, l, a, w => Region.ready md ops l = [] ∧ Q .normal a w
  | n + 1, l, a, w => (Region.ready md ops l = [] → Q .normal a w) ∧ ∀ i ∈ Region.ready md ops l, wpOp P ops Q i (fun a' w' => T (l.setIfInBounds i true) w' ∧ anyT P md ops Q T n (l.setIfInBounds i true) a' w') a w
set_option maxRecDepth 100000 in
theorem anyT_wp {T : Array Bool → World → Prop} : ∀ (n : Nat) (l : Array Bool) (a : Act) (w : World), anyT P md ops Q T n l a w → wpAny P md ops Q n l a w
  | 0, _, _, _, h => h
  | n + 1, _, _, _, h => ⟨h.1, fun i hi => wpOp_mono (fun a' w' k => anyT_wp n _ a' w' k.2) (h.2 i hi)⟩
set_option maxRecDepth 100000 in
/-- An operation may be taken first that yields in every world that meets R, if R follows from T as long as `good` stands, which all that may come up ahead of it leave standing. -/
theorem anyT_first {T : Array Bool → World → Prop} {R : World → Prop} {good : Array Bool → Prop} {i : Nat} {oi : Oper} {v : Value} (hi : ops[i]? = some oi)
    (hsel : ∀ (j : Nat) (o : Oper) cs b, ops[j]? = some o → o.op ≠ .select cs b) (hQ : ∀ c a w, Q (.panic c) (a.put oi.dst v) w → Q (.panic c) a w)
    (hT : ∀ l w, T (l.setIfInBounds i true) w ↔ T l w) (hR : ∀ l w, good l → T l w → R w)
    (hg : ∀ l j oj, ops[j]? = some oj → (∀ e ∈ oj.after, Region.binds md e = true → e.on ≠ i) → good l → good (l.setIfInBounds j true)) :
    ∀ (n : Nat) (l : Array Bool) (a : Act) (w : World),
      (∀ j oj, ops[j]? = some oj → j ≠ i → l.getD j true = false → (∀ e ∈ oj.after, Region.binds md e = true → e.on ≠ i) → oi.apart ops oj = true) →
      i ∈ Region.ready md ops l → good l → YieldsIf P ops R oi v a → T l w → anyT P md ops Q T n (l.setIfInBounds i true) (a.put oi.dst v) w → anyT P md ops Q T (n + 1) l a w := by
  intro n
  induction n with
  | zero =>
    intro l a w _ hr hgd hy hS H
    refine ⟨fun h => (by rw [h] at hr; cases hr), fun j hj => ?_⟩
    by_cases hji : j = i
    · subst hji
      exact hy.wpOp hi (hR l w hgd hS) ⟨(hT l w).2 hS, H⟩
    · have hx := ready_mono (i := i) hj hji
      rw [H.1] at hx
      cases hx
  | succ n ih =>
    intro l a w hfree hr hgd hy hS H
    refine ⟨fun h => (by rw [h] at hr; cases hr), fun j hj => ?_⟩
    by_cases hji : j = i
    · subst hji
      exact hy.wpOp hi (hR l w hgd hS) ⟨(hT l w).2 hS, H⟩
    · obtain ⟨hun, oj, hoj, hall⟩ := mem_ready.1 hj
      have hno : ∀ e ∈ oj.after, Region.binds md e = true → e.on ≠ i := fun e he hb heq => by
        have k1 := hall e he hb
        have k0 := (mem_ready.1 hr).1
        rw [heq] at k1
        by_cases hs : i < l.size
        · simp [hs] at k0 k1
          rw [k0] at k1
          cases k1
        · simp [Array.getElem?_eq_none (Nat.le_of_not_lt hs)] at k1
      have hgd' := hg l j oj hoj hno hgd
      have step := wpOp_putIf hoj (hfree j oj hoj hji hun hno) (fun cs b => hsel i oi cs b hi) (fun cs b => hsel j oj cs b hoj) hQ hy (H.2 j (ready_mono hj hji))
      refine wpOp_mono (fun a' w' k => ?_) step
      have hcomm : (l.setIfInBounds i true).setIfInBounds j true = (l.setIfInBounds j true).setIfInBounds i true := Array.setIfInBounds_comm _ _ (Ne.symm hji)
      rw [hcomm] at k
      refine ⟨(hT _ w').1 k.2.1, ih (l.setIfInBounds j true) a' w' (fun m om hm hmi hmu hmo => hfree m om hm hmi ?_ hmo) (ready_mono hr (Ne.symm hji)) hgd' k.1 ((hT _ w').1 k.2.1) k.2.2⟩
      by_cases hjm : j = m
      · subst hjm; exact hun
      · rw [getD_set_ne true hjm] at hmu; exact hmu

variable {S1 S2 : World → Prop} {st : Nat}
set_option maxRecDepth 100000 in
theorem till_set {i : Nat} (h : i ≠ st) (l : Array Bool) (w : World) : Till S1 S2 st (l.setIfInBounds i true) w ↔ Till S1 S2 st l w := by
  unfold Till
  rw [getD_set_ne true h]
set_option maxRecDepth 100000 in
/-- What yields wherever S1 stands may be taken first. -/
theorem take_1 {i : Nat} {oi : Oper} {v : Value} {n : Nat} {l : Array Bool} {a : Act} {w : World} (hi : ops[i]? = some oi) (hs : Region.noSelect ops = true) (hf : Region.free md ops l i = true)
    (hr : (Region.ready md ops l).contains i = true) (hne : i ≠ st) (hQ : ∀ c a w, Q (.panic c) (a.put oi.dst v) w → Q (.panic c) a w) (hS : Till S1 S2 st l w) (hy : YieldsIf P ops S1 oi v a)
    (h : anyT P md ops Q (Till S1 S2 st) n (l.setIfInBounds i true) (a.put oi.dst v) w) : anyT P md ops Q (Till S1 S2 st) (n + 1) l a w :=
  anyT_first (good := fun _ => True) hi (Region.noSelect_spec hs) hQ (till_set hne) (fun _ _ _ h => h.1) (fun _ _ _ _ _ _ => trivial) n l a w (Region.free_spec hi hf) (by simpa using hr) trivial hy hS h
set_option maxRecDepth 100000 in
/-- So may what yields wherever S2 stands, if st waits for it. -/
theorem take_2 {i : Nat} {oi : Oper} {v : Value} {n : Nat} {l : Array Bool} {a : Act} {w : World} (hi : ops[i]? = some oi) (hs : Region.noSelect ops = true) (hf : Region.free md ops l i = true)
    (hr : (Region.ready md ops l).contains i = true) (hne : i ≠ st) (hw : Region.waitsFor md ops st i = true) (hl : l.getD st true = false) (hQ : ∀ c a w, Q (.panic c) (a.put oi.dst v) w → Q (.panic c) a w) (hS : Till S1 S2 st l w) (hy : YieldsIf P ops S2 oi v a)
    (h : anyT P md ops Q (Till S1 S2 st) n (l.setIfInBounds i true) (a.put oi.dst v) w) : anyT P md ops Q (Till S1 S2 st) (n + 1) l a w :=
  anyT_first (good := fun l => l.getD st true = false) hi (Region.noSelect_spec hs) hQ (till_set hne) (fun _ _ hg h => h.2 hg) (fun l j oj hj hno hg => by
      obtain ⟨os, hos, e, he, hb, hon⟩ := Region.waitsFor_spec hw
      have hjs : j ≠ st := fun hjs => by
        subst hjs
        rw [hj] at hos
        cases hos
        exact hno e he hb hon
      show (l.setIfInBounds j true).getD st true = false
      rw [getD_set_ne true hjs]
      exact hg) n l a w (Region.free_spec hi hf) (by simpa using hr) hl hy hS h
set_option maxRecDepth 100000 in
/-- One operation alone may come up. -/
theorem anyT_one {T : Array Bool → World → Prop} {i : Nat} {o : Oper} {n : Nat} {l : Array Bool} {a : Act} {w : World} (hr : Region.ready md ops l = [i]) (ho : ops[i]? = some o)
    (h : ∀ K : Act → World → Prop, Hid (∀ a' w', T (l.setIfInBounds i true) w' → anyT P md ops Q T n (l.setIfInBounds i true) a' w' → K a' w') → if Region.wanted o (yielded ops a.tmps) = true then Oper.wp P o a w K Q else K (a.put o.dst undef) w) :
    anyT P md ops Q T (n + 1) l a w := by
  refine ⟨fun h0 => (by rw [hr] at h0; cases h0), fun j hj => ?_⟩
  rw [hr] at hj
  obtain rfl : j = i := by simpa using hj
  exact wpOp_step ho fun K hK => h K (hid fun a' w' h1 h2 => hK a' w' ⟨h1, h2⟩)
set_option maxRecDepth 100000 in
theorem anyT_done {T : Array Bool → World → Prop} {l : Array Bool} {a : Act} {w : World} (hr : Region.ready md ops l = []) (h : Q .normal a w) : ∀ n, anyT P md ops Q T n l a w
  | 0 => ⟨hr, h⟩
  | _ + 1 => ⟨fun _ => h, by rw [hr]; simp⟩
set_option maxRecDepth 100000 in
theorem region_T {T : Array Bool → World → Prop} {id : Nat} {a : Act} {w : World} (hm : P.follows .mixedOrders = true)
    (h : anyT P .any ops Q T ops.size (Array.replicate ops.size false) a w.drew) : (Code.region id ops true).wp P Q a w := wp_region_any hm (anyT_wp _ _ _ _ h)
end
end Go.Proofs.YthjjonbkfkpkmaaDoor.Pcm
namespace Go.Proofs.YthjjonbkfkpkmaaDoor.Fil
open Go.RowKit Gen
open Tl (il il_app)
attribute [local go_sem] Oper.semAt_some

set_option maxRecDepth 100000 in
theorem info3 : (Tryd.prog.info? 3).map (fun i => (i.zero, i.size, i.bytes)) = some (some (.int .i64 0), 1, 8) := by kernel_rfl

set_option maxRecDepth 100000 in
theorem cell_new {w : World} (u : Value) (t : TypeId) : (w.alloc (.cells #[u] t)).drew.cell? ⟨w.heap.size, 0, none⟩ = some u := by
  have h := heap_alloc_new w (.cells #[u] t)
  show World.cell? (w.alloc (.cells #[u] t)) ⟨w.heap.size, 0, none⟩ = some u
  unfold World.cell?
  rw [h]
  rfl
/-- Notes at work: what stands while a block is noted; w0: the world at the call's beginning, a0: where the places lay then. -/
structure Md (w0 : World) (B g : Nat) (a0 : Option Addr) (i : Inf.If) (at_ : Int) (n : Nat) (c : Int) (sh : Bool) (xs : List Value) (hd : Head.Hh) (a : Option Addr) (cap : Nat) (w : World) : Prop where
  nx : Nx w g i at_ a n cap c sh
  own : w.ownsRow B 3 1 (.slice a n cap) n xs
  far : blk a ≠ some g
  at_ : blk a = blk a0 ∨ ∀ k, blk a = some k → w0.heap.size ≤ k
  fr : Fr (fun b => b = g ∨ blk a0 = some b) w0 w
  c10 : ∀ j, 10 ≤ j → w.cell? ⟨g, j, none⟩ = w0.cell? ⟨g, j, none⟩
  f10 : ∀ j, w.frozen? ⟨g, j, none⟩ = w0.frozen? ⟨g, j, none⟩
  bx : Head.Bx w w0.heap.size hd
  g0 : g < w0.heap.size
section
variable {w0 w w' : World} {B g : Nat} {a0 a : Option Addr} {i : Inf.If} {at_ : Int} {n cap : Nat} {c : Int} {sh : Bool} {xs : List Value} {hd : Head.Hh}
set_option maxRecDepth 100000 in
theorem Md.rlt (h : Md w0 B g a0 i at_ n c sh xs hd a cap w) : ∀ k, blk a = some k → B ≤ k ∧ k < w.heap.size := fun k hk => h.own.lt k (by rw [ownBlock_slice]; exact hk)
set_option maxRecDepth 100000 in
theorem Md.below (h : Md w0 B g a0 i at_ n c sh xs hd a cap w) (hb : Below w.heap.size w w') : Md w0 B g a0 i at_ n c sh xs hd a cap w' :=
  ⟨h.nx.below hb h.nx.lt, ownsRow_block h.own fun k hk => hb.block k (h.rlt k hk).2, h.far, h.at_, h.fr.trans ((below_fr hb).mono fun k hk hk2 => by have := h.fr.size; omega),
    fun j hj => (hb.cell (p := ⟨g, j, none⟩) h.nx.lt).trans (h.c10 j hj), fun j => (hb.frozen (p := ⟨g, j, none⟩) h.nx.lt).trans (h.f10 j), h.bx.below hb h.bx.lt, h.g0⟩
set_option maxRecDepth 100000 in
theorem Md.drew (h : Md w0 B g a0 i at_ n c sh xs hd a cap w) : Md w0 B g a0 i at_ n c sh xs hd a cap w.drew := h.below ⟨rfl, rfl, rfl, Nat.le_refl _, fun _ _ => rfl⟩
set_option maxRecDepth 100000 in
theorem Md.store (h : Md w0 B g a0 i at_ n c sh xs hd a cap w) {j : Nat} (hj : j < 10) (u : Value) {at2 : Int} {c2 : Int} {sh2 : Bool} (hn : Nx (w.setCell ⟨g, j, none⟩ u) g i at2 a n cap c2 sh2) :
    Md w0 B g a0 i at2 n c2 sh2 xs hd a cap (w.setCell ⟨g, j, none⟩ u) := by
  refine ⟨hn, ownsRow_block h.own fun k hk => RowKit.Below.heap_setCell _ _ _ _ (fun e => ?_), h.far, h.at_, h.fr.setCell (Or.inl rfl) _, fun j' hj' => ?_, fun j' => ?_, ⟨?_⟩, h.g0⟩
  · subst e; exact h.far hk
  · rw [World.cell?_setCell_other _ _ _ _ (by intro e; simp at e; try omega)]; exact h.c10 j' hj'
  · rw [World.frozen?_setCell]; exact h.f10 j'
  · have := h.g0
    rw [RowKit.Below.heap_setCell _ _ _ _ (show w0.heap.size ≠ g by omega)]; exact h.bx.row
end
/-- What note answers, and leaves. -/
def NoteP (w : World) (B g : Nat) (i : Inf.If) (at_ : Nat) (a : Option Addr) (n : Nat) (c : Int) (sh : Bool) (P : List Int) (h : Head.Hh) (e : Ending) (w' : World) : Prop :=
  e = .returned (.int .i64 (nxt i h n sh)) ∧ Fr (fun b => b = g ∨ blk a = some b) w w' ∧ (∀ j, 10 ≤ j → w'.cell? ⟨g, j, none⟩ = w.cell? ⟨g, j, none⟩) ∧ (∀ j, w'.frozen? ⟨g, j, none⟩ = w.frozen? ⟨g, j, none⟩) ∧
  (nxt i h n sh ≠ 0 → Below w.heap.size w w') ∧
  (nxt i h n sh = 0 → ∃ a' cap', Nx w' g i ((at_ : Int) + (36 + h.sz)) a' (n + 1) cap' (c + h.ln) (decide (h.ln < i.bk)) ∧ w'.ownsRow B 3 1 (.slice a' (n + 1) cap') (n + 1) (il (P ++ [(at_ : Int)])) ∧ blk a' ≠ some g ∧ (blk a' = blk a ∨ ∀ k, blk a' = some k → w.heap.size ≤ k))

set_option maxHeartbeats 2000000 in
set_option maxRecDepth 100000 in
theorem note_any {w : World} {B g : Nat} {i : Inf.If} {at_ : Nat} {a : Option Addr} {n cap : Nat} {c : Int} {sh : Bool} {P : List Int} (h : Nx w g i (at_ : Int) a n cap c sh)
    (own : w.ownsRow B 3 1 (.slice a n cap) n (il P)) (far : blk a ≠ some g) (hB : B ≤ w.heap.size) (hd : Head.Hh) (hr : Head.Rt hd) (hat : at_ ≤ 1125899906842624) (hc : 0 ≤ c ∧ c ≤ 1125899906842624) (hn : n ≤ 1099511627776) :
    Calls Tryd.prog 36 #[.pointer (some ⟨g, 0, none⟩), Head.hv hd] w (NoteP w B g i at_ a n c sh P hd) := by
  have HN := hid fun w => next_any i hd (n : Int) sh w
  have HLg := hid fun w => Head.long_any hd w
  have HIV : Hid (Inf.iv i = .agg #[.int .i64 i.k, .int .i64 i.f.ch, .int .i64 i.f.bits, .int .i64 i.f.rate, .int .i64 i.bk, .int .i64 i.sh]) := hid rfl
  have hlt := h.lt
  have HBX := hid (Head.Bx.new w hd)
  have hb0 := Inf.below_new w (.cells (Head.hvl hd) 83)
  have h0 := h.below hb0 hlt
  have HO := hid (ownsRow_block own fun g' hg' => hb0.block g' (own.lt g' (by rw [ownBlock_slice]; exact hg')).2)
  have HB0 := hid hb0
  have HNX := hid h0
  change Calls Tryd.prog 36 #[.pointer (some ⟨g, 0, none⟩), .agg (Head.hvl hd)] w _
  go_enter Tryd.func36, Tryd.ntmps36
  go_wp2_with fail
  rw [show w.alloc (.cells (Head.hvl hd) 83) = w.alloc (.cells (Head.hvl hd) 83) from rfl]
  generalize hw1 : w.alloc (.cells (Head.hvl hd) 83) = w1 at *
  have HW1 := hid hw1
  have hsz1 : w.heap.size + 1 = w1.heap.size := by rw [← hw1]; exact (Array.size_push _).symm
  have HSZ := hid hsz1
  have hgl : g < w.heap.size := hlt
  clear hw1 h0 hb0 h hsz1
  have d0 := HNX.out.c0
  have d1 := HNX.out.c1
  have d2 := HNX.out.c2
  have d3 := HNX.out.c3
  have d4 := HNX.out.c4
  have d5 := HNX.out.c5
  have d7 := HNX.out.c7
  have d9 := HNX.out.c9
  have b0 := HBX.out.c0
  have b1 := HBX.out.c1
  have b2 := HBX.out.c2
  have b3 := HBX.out.c3
  have b4 := HBX.out.c4
  have b5 := HBX.out.c5
  have b6 := HBX.out.c6
  have b7 := HBX.out.c7
  go_still_tail 14, (by kernel_rfl)
  clear d0 d1 d2 d3 d4 d5 d7 d9 b0 b1 b2 b3 b4 b5 b6 b7
  have HNX2 := hid HNX.out.drew
  have HBX2 := hid (show Head.Bx w1.drew w.heap.size hd from ⟨HBX.out.row⟩)
  have HO2 := hid (ownsRow_block (w' := w1.drew) HO.out fun _ _ => rfl)
  have HB2 := hid (HB0.out.drew)
  have HSZ2 := hid (show w.heap.size + 1 = w1.drew.heap.size from HSZ.out)
  clear HNX HBX HO HB0 HSZ HW1
  change wpList _ _ _ _ _ w1.drew
  generalize w1.drew = w2 at *
  go_wp2_with fail
  refine (HN.out w2).mono ?_
  rintro e w3 ⟨rfl, hb3⟩
  have HNX3 := hid (HNX2.out.below hb3 HNX2.out.lt)
  have HBX3 := hid (HBX2.out.below hb3 HBX2.out.lt)
  have HO3 := hid (ownsRow_block HO2.out fun g' hg' => hb3.block g' (HO2.out.lt g' (by rw [ownBlock_slice]; exact hg')).2)
  have HB3 := hid (HB2.out.trans (hb3.mono HB2.out.size))
  have hsz3 := hb3.size
  have HSZ3 := hid (show w.heap.size + 1 ≤ w3.heap.size from by rw [HSZ2.out]; exact hsz3)
  clear hsz3 hb3 HNX2 HBX2 HO2 HB2 HSZ2
  have HNP : Hid (∃ X, nxt i hd (n : Int) sh = X) := hid ⟨_, rfl⟩
  unfold NoteP
  obtain ⟨X, hX⟩ := HNP.out
  rw [hX]
  have HX := hid hX
  clear hX HNP
  by_cases hx0 : X = 0
  · subst hx0
    go_wp2_with fail
    obtain ⟨i0, hi, hz0, hz1, hz2⟩ := info_parts info3
    have e6 := HNX3.out.c6
    have e7 := HNX3.out.c7
    have hown := HO3.out
    have hgl3 := HNX3.out.lt
    have hB3 : B ≤ w3.heap.size := Nat.le_trans hB HB3.out.size
    have HM3 : Hid (Md w B g a i (at_ : Int) n c sh (il P) hd a cap w3) := hid ⟨HNX3.out, HO3.out, far, .inl rfl, (below_fr HB3.out).mono (fun k hk hk2 => by omega), fun j _ => HB3.out.cell (p := ⟨g, j, none⟩) hgl, fun j => HB3.out.frozen (p := ⟨g, j, none⟩) hgl, HBX3.out, hgl⟩
    have HBS := hid HB3.out.size
    clear HNX3 HBX3 HO3 HB3 HSZ3
    go_cut [] (fun wx => ∃ a' cap', Md w B g a i (at_ : Int) (n + 1) c sh (il (P ++ [(at_ : Int)])) hd a' cap' wx)
    case first =>
      go_region_law
        ((refine step_append_one (by rfl) _ _ _ (by rfl) B 3 i0 _ 8 Tryd.underlying39 hi hz0 hz1 hz2 rfl a n cap _ (by rfl) ((hown.alloc _).drew)
            ⟨w3.heap.size, 0, none⟩ 1 (.int .i64 (at_ : Int)) (by rfl) (cell_new _ _) rfl (by unfold maxLen; omega) (by omega) (by simp; omega) ?_
          intro gg cap1 w4 hown1 hgrow
          have hfr4 : Fr (fun b => blk a = some b) w3 w4 := ((Fr.refl _ w3).alloc _).drew.grown hgrow.grown (fun k hk _ => hk)
          have HNX4 := HM3.out.nx.keep hfr4 HM3.out.far
          have f7 := HNX4.c7
          have f7f := HNX4.fz 7))
      all_goals
        go_wp2_with fail
        go_meet
        have hlt := HM3.out.nx.lt
        have hsz4 : (w3.alloc (.cells #[.int .i64 (at_ : Int)] 3)).drew.heap.size = w3.heap.size + 1 := Array.size_push _
        have hg7 : blk (some ⟨gg, 0, none⟩) ≠ some g := fun e => by
          have e' : gg = g := by simpa [blk] using e
          rcases hgrow.at_ with h | h
          · exact HM3.out.far (by rw [h, e'])
          · have h' : w3.heap.size + 1 ≤ gg := hsz4 ▸ h
            omega
        refine ⟨some ⟨gg, 0, none⟩, cap1, (HNX4.set7 _ _ _), ownsRow_block (by rw [il_app]; exact hown1) fun k hk => RowKit.Below.heap_setCell _ _ _ _ (fun e => ?_), hg7, ?_, ?_, fun j hj => ?_, fun j => ?_, ⟨?_⟩, HM3.out.g0⟩
        · subst e; exact hg7 hk
        · rcases hgrow.at_ with h | h
          · exact .inl h.symm
          · refine .inr fun k hk => ?_
            have e' : gg = k := by simpa [blk] using hk
            have h' : w3.heap.size + 1 ≤ gg := hsz4 ▸ h
            have := HBS.out
            omega
        · exact (HM3.out.fr.trans (hfr4.mono fun k _ hk => .inr hk)).setCell (.inl rfl) _
        · rw [World.cell?_setCell_other _ _ _ _ (by intro e; simp at e; try omega)]
          exact (hfr4.cell (p := ⟨g, j, none⟩) hlt HM3.out.far).trans (HM3.out.c10 j hj)
        · rw [World.frozen?_setCell]
          exact (hfr4.frozen (p := ⟨g, j, none⟩) hlt HM3.out.far).trans (HM3.out.f10 j)
        · have hg0 := HM3.out.g0
          rw [RowKit.Below.heap_setCell _ _ _ _ (show w.heap.size ≠ g by omega)]
          rw [hfr4.block w.heap.size HM3.out.bx.lt (fun e => by have := (own.lt w.heap.size (by rw [ownBlock_slice]; exact e)).2; omega)]
          exact HM3.out.bx.row
    case rest =>
      clear own far e6 e7 hown hB3 HM3 HBS
      obtain ⟨a4, cap4, hm4⟩ := hcut
      have HM4 := hid hm4
      clear hm4
      go_wp2_with fail
      have hz := hr.1.2.2.2.2.2.2.2.2
      have hz0 : 0 ≤ hd.sz := hz.1
      have hz1 : hd.sz ≤ 16777216 := hz.2
      clear hz
      rw [if_pos hr] at HLg
      have hu : wrap64 ((at_ : Int) + (36 + hd.sz)) = (at_ : Int) + (36 + hd.sz) := IntWalk.wrap64_in _ (by omega)
      have hu2 : IntKind.i64.wrap ((at_ : Int) + (36 + hd.sz)) = (at_ : Int) + (36 + hd.sz) := IntWalk.i64_in _ (by omega)
      have HTT : Hid (∀ l, Pcm.Till (fun _ => True) (fun w' => Md w B g a i (at_ : Int) (n + 1) c sh (il (P ++ [(at_ : Int)])) hd a4 cap4 w') 9 l wc.drew) := hid fun l => ⟨trivial, fun _ => HM4.out.drew⟩
      refine Pcm.region_T (T := Pcm.Till (fun _ => True) (fun w' => Md w B g a i (at_ : Int) (n + 1) c sh (il (P ++ [(at_ : Int)])) hd a4 cap4 w') 9) (by kernel_rfl) ?_
      refine Pcm.take_1 (i := 0) (oi := ({ dst := some 37, op := Op.move (Operand.tmp 0), type := 107, pos := _, after := #[], guard := none } : Oper)) (v := .pointer (some ⟨g, 0, none⟩)) rfl (by kernel_rfl) (by kernel_rfl) (by kernel_rfl) (by decide) (fun _ _ _ h => h) (HTT.out _) (.inl ⟨by rfl, fun w' hSw => ?_⟩) ?_
      · (try dsimp only at hSw)
        go_simp
      (try simp only [Act.put, List.setIfInBounds_toArray, List.set_cons_zero, List.set_cons_succ])
      refine Pcm.take_1 (i := 1) (oi := ({ dst := some 38, op := Op.nilCheck (Operand.tmp 37), type := 0, pos := _, after := #[{ on := 0, ground := Ground.data }], guard := none } : Oper)) (v := .pointer (some ⟨g, 0, none⟩)) rfl (by kernel_rfl) (by kernel_rfl) (by kernel_rfl) (by decide) (fun _ _ _ h => h) (HTT.out _) (.inl ⟨by rfl, fun w' hSw => ?_⟩) ?_
      · (try dsimp only at hSw)
        go_simp
      (try simp only [Act.put, List.setIfInBounds_toArray, List.set_cons_zero, List.set_cons_succ])
      refine Pcm.take_1 (i := 2) (oi := ({ dst := some 39, op := Op.fieldAddr 62 (Operand.tmp 38) 1, type := 0, pos := _, after := #[{ on := 1, ground := Ground.data }], guard := none } : Oper)) (v := .pointer (some ⟨g, 6, none⟩)) rfl (by kernel_rfl) (by kernel_rfl) (by kernel_rfl) (by decide) (fun _ _ _ h => h) (HTT.out _) (.inl ⟨by rfl, fun w' hSw => ?_⟩) ?_
      · (try dsimp only at hSw)
        go_simp
      (try simp only [Act.put, List.setIfInBounds_toArray, List.set_cons_zero, List.set_cons_succ])
      refine Pcm.take_2 (i := 3) (oi := ({ dst := some 40, op := Op.load 3 (Operand.tmp 39), type := 3, pos := _, after := #[{ on := 2, ground := Ground.data }], guard := none } : Oper)) (v := .int .i64 (at_ : Int)) rfl (by kernel_rfl) (by kernel_rfl) (by kernel_rfl) (by decide) (by kernel_rfl) (by kernel_rfl) (fun _ _ _ h => h) (HTT.out _) (.inl ⟨by rfl, fun w' hSw => ?_⟩) ?_
      · (try dsimp only at hSw)
        have c6 := hSw.nx.c6
        clear hSw
        go_simp
      (try simp only [Act.put, List.setIfInBounds_toArray, List.set_cons_zero, List.set_cons_succ])
      refine Pcm.take_2 (i := 4) (oi := ({ dst := some 41, op := Op.load 83 (Operand.tmp 3), type := 83, pos := _, after := #[], guard := none } : Oper)) (v := .agg (Head.hvl hd)) rfl (by kernel_rfl) (by kernel_rfl) (by kernel_rfl) (by decide) (by kernel_rfl) (by kernel_rfl) (fun _ _ _ h => h) (HTT.out _) (.inl ⟨by rfl, fun w' hSw => ?_⟩) ?_
      · (try dsimp only at hSw)
        have b0 := hSw.bx.c0
        have b1 := hSw.bx.c1
        have b2 := hSw.bx.c2
        have b3 := hSw.bx.c3
        have b4 := hSw.bx.c4
        have b5 := hSw.bx.c5
        have b6 := hSw.bx.c6
        have b7 := hSw.bx.c7
        clear hSw
        unfold Head.hvl
        go_simp
      (try simp only [Act.put, List.setIfInBounds_toArray, List.set_cons_zero, List.set_cons_succ])
      refine Pcm.anyT_one (i := 5) (o := ({ dst := some 42, op := Op.call { callee := Callee.value (Operand.func 35), args := #[Operand.tmp 41], argTypes := #[83] }, type := 3, pos := _, after := #[{ on := 4, ground := Ground.data }], guard := none } : Oper)) (by kernel_rfl) rfl (fun K HK => ?_)
      go_simp
      refine (HLg.out _).mono ?_
      rintro e w5 ⟨rfl, hb5⟩
      have HM6 := hid (HM4.out.drew.below hb5)
      refine HK.out _ _ ⟨trivial, fun _ => HM6.out⟩ ?_
      have HTT : Hid (∀ l, Pcm.Till (fun _ => True) (fun w' => Md w B g a i (at_ : Int) (n + 1) c sh (il (P ++ [(at_ : Int)])) hd a4 cap4 w') 9 l w5) := hid fun l => ⟨trivial, fun _ => HM6.out⟩
      clear HK K hb5
      (try simp only [Act.put, List.setIfInBounds_toArray, List.set_cons_zero, List.set_cons_succ])
      refine Pcm.take_1 (i := 6) (oi := ({ dst := some 43, op := Op.binOp BinOp.add 3 (Operand.tmp 40) (Operand.tmp 42) 3, type := 3, pos := _, after := #[{ on := 3, ground := Ground.data }, { on := 5, ground := Ground.data }], guard := none } : Oper)) (v := .int .i64 ((at_ : Int) + (36 + hd.sz))) rfl (by kernel_rfl) (by kernel_rfl) (by kernel_rfl) (by decide) (fun _ _ _ h => h) (HTT.out _) (.inl ⟨by rfl, fun w' hSw => ?_⟩) ?_
      · (try dsimp only at hSw)
        go_simp
      (try simp only [Act.put, List.setIfInBounds_toArray, List.set_cons_zero, List.set_cons_succ])
      refine Pcm.take_1 (i := 7) (oi := ({ dst := some 44, op := Op.nilCheck (Operand.tmp 37), type := 0, pos := _, after := #[{ on := 0, ground := Ground.data }, { on := 0, ground := Ground.phase }, { on := 1, ground := Ground.phase }, { on := 2, ground := Ground.phase }, { on := 3, ground := Ground.phase }, { on := 4, ground := Ground.phase }, { on := 5, ground := Ground.phase }, { on := 6, ground := Ground.phase }], guard := none } : Oper)) (v := .pointer (some ⟨g, 0, none⟩)) rfl (by kernel_rfl) (by kernel_rfl) (by kernel_rfl) (by decide) (fun _ _ _ h => h) (HTT.out _) (.inl ⟨by rfl, fun w' hSw => ?_⟩) ?_
      · (try dsimp only at hSw)
        go_simp
      (try simp only [Act.put, List.setIfInBounds_toArray, List.set_cons_zero, List.set_cons_succ])
      refine Pcm.take_1 (i := 8) (oi := ({ dst := some 45, op := Op.fieldAddr 62 (Operand.tmp 44) 1, type := 0, pos := _, after := #[{ on := 7, ground := Ground.data }, { on := 0, ground := Ground.phase }, { on := 1, ground := Ground.phase }, { on := 2, ground := Ground.phase }, { on := 3, ground := Ground.phase }, { on := 4, ground := Ground.phase }, { on := 5, ground := Ground.phase }, { on := 6, ground := Ground.phase }], guard := none } : Oper)) (v := .pointer (some ⟨g, 6, none⟩)) rfl (by kernel_rfl) (by kernel_rfl) (by kernel_rfl) (by decide) (fun _ _ _ h => h) (HTT.out _) (.inl ⟨by rfl, fun w' hSw => ?_⟩) ?_
      · (try dsimp only at hSw)
        go_simp
      (try simp only [Act.put, List.setIfInBounds_toArray, List.set_cons_zero, List.set_cons_succ])
      refine Pcm.anyT_one (i := 9) (o := ({ dst := none, op := Op.store 3 (Operand.tmp 45) (Operand.tmp 43), type := 0, pos := _, after := #[{ on := 8, ground := Ground.data }, { on := 6, ground := Ground.data }, { on := 5, ground := Ground.chain }, { on := 0, ground := Ground.phase }, { on := 1, ground := Ground.phase }, { on := 2, ground := Ground.phase }, { on := 3, ground := Ground.phase }, { on := 4, ground := Ground.phase }, { on := 5, ground := Ground.phase }, { on := 6, ground := Ground.phase }], guard := none } : Oper)) (by kernel_rfl) rfl (fun K HK => ?_)
      have f6 := HM6.out.nx.c6
      have g6 := HM6.out.nx.fz 6
      go_simp
      have HM7 := hid (HM6.out.store (j := 6) (by decide) (.int .i64 ((at_ : Int) + (36 + hd.sz))) (HM6.out.nx.set6 _))
      refine HK.out _ _ ⟨trivial, fun h => absurd (show true = false from h) (by decide)⟩ ?_
      clear HK K f6 g6
      refine Pcm.anyT_done (by kernel_rfl) ?_ _
      go_wp2_with fail
      generalize w5.setCell ⟨g, 6, none⟩ (.int .i64 ((at_ : Int) + (36 + hd.sz))) = w6 at *
      have hl0 : 1 ≤ hd.ln := hr.1.2.2.1
      have hl1 : hd.ln ≤ 65536 := hr.1.2.2.2.1
      have hv : wrap64 (c + hd.ln) = c + hd.ln := IntWalk.wrap64_in _ (by omega)
      have hv2 : IntKind.i64.wrap (c + hd.ln) = c + hd.ln := IntWalk.i64_in _ (by omega)
      have e8 := HM7.out.nx.c8
      have g8 := HM7.out.nx.fz 8
      have b2 := HM7.out.bx.c2
      clear HTT HM4 HM6 hu hu2
      go_region
      all_goals
        have HM8 := hid ((HM7.out.store (j := 8) (by decide) (.int .i64 (c + hd.ln)) (HM7.out.nx.set8 _)).drew)
        clear e8 g8 b2 HM7
        go_wp2_with fail
        change Code.wp _ _ _ _ (w6.setCell ⟨g, 8, none⟩ (.int .i64 (c + hd.ln))).drew
        generalize (w6.setCell ⟨g, 8, none⟩ (.int .i64 (c + hd.ln))).drew = w7 at *
        have e4 := HM8.out.nx.c4
        have e9 := HM8.out.nx.c9
        have g9 := HM8.out.nx.fz 9
        have b2 := HM8.out.bx.c2
        go_region
        all_goals
          have HM9 := hid ((HM8.out.store (j := 9) (by decide) (.bool (decide (hd.ln < i.bk))) (HM8.out.nx.set9 _)).drew)
          clear e4 e9 g9 b2 HM8
          go_wp2_with fail
          go_ret
          exact ⟨by rw [HX.out]; rfl, HM9.out.fr, HM9.out.c10, HM9.out.f10, fun e => absurd HX.out e, fun _ => ⟨a4, cap4, HM9.out.nx, HM9.out.own, HM9.out.far, HM9.out.at_⟩⟩
  · go_wp2_with fail
    go_ret
    exact ⟨by rw [HX.out]; rfl, (below_fr HB3.out).mono (fun k hk hk2 => by omega), fun j _ => HB3.out.cell (p := ⟨g, j, none⟩) hgl, fun j => HB3.out.frozen (p := ⟨g, j, none⟩) hgl, fun _ => HB3.out, fun e => absurd (HX.out ▸ e) hx0⟩
end Go.Proofs.YthjjonbkfkpkmaaDoor.Fil
namespace Go.Proofs.YthjjonbkfkpkmaaDoor.Head
open Go.RowKit Gen Fld Crc

/-- The sum of bytes. -/
def cs (l : List Nat) : Nat := sm (fun i => l.getD i 0) l.length 0
set_option maxRecDepth 100000 in
theorem getD_lt {l : List Nat} (h : ∀ b ∈ l, b < 256) (i : Nat) : l.getD i 0 < 256 := by
  by_cases hi : i < l.length
  · rw [List.getD_eq_getElem?_getD, List.getElem?_eq_getElem hi]; exact h _ (List.getElem_mem hi)
  · rw [List.getD_eq_getElem?_getD, List.getElem?_eq_none (by omega)]; decide
set_option maxRecDepth 100000 in
theorem cs_lt {l : List Nat} (h : ∀ b ∈ l, b < 256) : cs l < 4294967296 := sm_lt (getD_lt h) _ _ (by decide)
set_option maxRecDepth 100000 in
theorem byts_f {w : World} {a : Option Addr} {l : List Nat} (h : Byts w a l) : Bytf w a l.length (fun i => l.getD i 0) :=
  ⟨getD_lt h.lt, fun j hj => by
    obtain ⟨b, off, e, hc⟩ := h.at_ j (l[j]) (List.getElem?_eq_getElem hj)
    refine ⟨b, off, e, ?_⟩
    rw [hc, List.getD_eq_getElem?_getD, List.getElem?_eq_getElem hj]; rfl⟩
set_option maxRecDepth 100000 in
theorem tsum_any {w : World} {g : Nat} (h : Tab w g) {a : Option Addr} {l : List Nat} {cap : Nat} (hb : Byts w a l) (hl : l.length ≤ 1099511627776) :
    Calls Tryd.prog 31 #[.pointer (some ⟨g, 0, none⟩), .slice a l.length cap] w fun e w' => e = .returned (.int .u32 (cs l : Int)) ∧ w = w' := sum_any h (byts_f hb) hl
/-- The six fields of a right head. -/
def fds (h : Hh) : List Nat := [h.ix.toNat, h.ln.toNat, h.st.toNat, h.bd.toNat, h.lk, h.sz.toNat]
def fdl (h : Hh) : Array Value := #[.int .u64 (h.ix.toNat : Int), .int .u64 (h.ln.toNat : Int), .int .u64 (h.st.toNat : Int), .int .u64 (h.bd.toNat : Int), .int .u64 (h.lk : Int), .int .u64 (h.sz.toNat : Int)]
set_option maxRecDepth 100000 in
theorem alloc2_at (w : World) (o1 o2 : Obj) : ((w.alloc o1).alloc o2).heap[w.heap.size + 1]? = some o2 := by
  rw [← Deep.nblk_alloc w o1]
  exact heap_alloc_new _ _
set_option maxRecDepth 100000 in
theorem Tryd.size58 : (Tryd.prog.info? 157).map (·.size) = some 6 := by kernel_rfl
end Go.Proofs.YthjjonbkfkpkmaaDoor.Head
namespace Go.Proofs.YthjjonbkfkpkmaaDoor.Head
open Go.RowKit Gen Fld
open Crc hiding hid

/-- Bytes and their sum. -/
def smd (l : List Nat) : List Nat := l ++ le (cs l) 4
set_option maxRecDepth 100000 in
theorem smd_len (l : List Nat) : (smd l).length = l.length + 4 := by unfold smd; rw [List.length_append, le_len]
set_option maxRecDepth 100000 in
theorem smd_lt {l : List Nat} (h : ∀ b ∈ l, b < 256) : ∀ b ∈ smd l, b < 256 := by
  intro b hb
  rcases List.mem_append.1 hb with hb | hb
  · exact h b hb
  · exact le_lt _ _ b hb
set_option maxRecDepth 100000 in
theorem uerr_zero (v : Nat) (h : v < 4294967296) : uErr v 4 = 0 := by
  unfold uErr
  rw [if_neg (by omega), if_neg]
  have : (2 : Nat) ^ (8 * (4 : Int).toNat) = 4294967296 := by decide
  omega
def SmdP (w : World) (B : Nat) (ao : Option Addr) (l : List Nat) (e : Ending) (w' : World) : Prop :=
  ∃ ao' cap', e = .returned (.tuple #[.slice ao' (smd l).length cap', .int .u32 (cs l : Int)]) ∧ w'.ownsRow B 5 1 (.slice ao' (smd l).length cap') (smd l).length (bl (smd l)) ∧
    Fr (fun k => blk ao = some k) w w' ∧ (blk ao' = blk ao ∨ ∀ g, blk ao' = some g → w.heap.size ≤ g)
set_option maxRecDepth 100000 in
theorem own_byts {w : World} {B : Nat} {ao : Option Addr} {n cap : Nat} {l : List Nat} (h : w.ownsRow B 5 1 (.slice ao n cap) n (bl l)) (hl : ∀ b ∈ l, b < 256) : Byts w ao l := Byts.of_row hl h
set_option maxRecDepth 100000 in
theorem own_nil {w : World} {B : Nat} {ao : Option Addr} {n cap : Nat} {l : List Nat} (h : w.ownsRow B 5 1 (.slice ao n cap) n (bl l)) (hn : l.length = n) : ao = none → l.length = 0 ∧ cap = 0 := fun e => by
  rcases ownsRow_at h with ⟨_, h1, h2, _⟩ | ⟨g, h1⟩
  · exact ⟨hn.trans h1, h2⟩
  · rw [e] at h1; cases h1
end Go.Proofs.YthjjonbkfkpkmaaDoor.Head
