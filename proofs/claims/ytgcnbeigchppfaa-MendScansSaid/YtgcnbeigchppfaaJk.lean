/- A region that draws its order, when a cell that it loads is turned by its own last store: one condition on the world that stands behind every operation, and one that stands till the operation st has come up. The load, for which st waits, may be taken first. Conditions: those that each lemma names. -/
import Derived.Test.YtgcnbeigchppfaaGen
import Derived.Deep.RegionHeld3
import Derived.StillTail
namespace Go.Proofs.Ytgcnbeigchppfaa.Pcm
open Go.RowKit Gen

section
variable {P : Program} {ops : Array Oper} {Q : Exit → Act → World → Prop} {md : Region.Mode}
/-- What stands of the world when the operations of `l` have come up. -/
def Till (S1 S2 : World → Prop) (st : Nat) (l : Array Bool) (w : World) : Prop := S1 w ∧ (l.getD st true = false → S2 w)
/-- Whatever order is picked from here on, and `T` of what has come up and of the world holds behind every operation. -/
def anyT (P : Program) (md : Region.Mode) (ops : Array Oper) (Q : Exit → Act → World → Prop) (T : Array Bool → World → Prop) : Nat → Array Bool → Act → World → Prop
  | 0, l, a, w => Region.ready md ops l = [] ∧ Q .normal a w
  | n + 1, l, a, w => (Region.ready md ops l = [] → Q .normal a w) ∧ ∀ i ∈ Region.ready md ops l, wpOp P ops Q i (fun a' w' => T (l.setIfInBounds i true) w' ∧ anyT P md ops Q T n (l.setIfInBounds i true) a' w') a w
set_option maxRecDepth 100000 in
theorem anyT_wp {T : Array Bool → World → Prop} : ∀ (n : Nat) (l : Array Bool) (a : Act) (w : World), anyT P md ops Q T n l a w → wpAny P md ops Q n l a w
  | 0, _, _, _, h => h
  | n + 1, _, _, _, h => ⟨h.1, fun i hi => wpOp_mono (fun a' w' k => anyT_wp n _ a' w' k.2) (h.2 i hi)⟩
set_option maxRecDepth 100000 in
/-- An operation may be taken first that yields in every world that meets R, if R follows from T as long as `good` stands, which all that may come up ahead of it leave standing. -/
theorem anyT_first {T : Array Bool → World → Prop} {R : World → Prop} {good : Array Bool → Prop} {i : Nat} {oi : Oper} {v : Value} (hi : ops[i]? = some oi)
    (hsel : ∀ (j : Nat) (o : Oper) cs b, ops[j]? = some o → o.op ≠ .select cs b) (hQ : ∀ c a w, Q (.panic c) (a.put oi.dst v) w → Q (.panic c) a w)
    (hT : ∀ l w, T (l.setIfInBounds i true) w ↔ T l w) (hR : ∀ l w, good l → T l w → R w)
    (hg : ∀ l j oj, ops[j]? = some oj → (∀ e ∈ oj.after, Region.binds md e = true → e.on ≠ i) → good l → good (l.setIfInBounds j true)) :
    ∀ (n : Nat) (l : Array Bool) (a : Act) (w : World),
      (∀ j oj, ops[j]? = some oj → j ≠ i → l.getD j true = false → (∀ e ∈ oj.after, Region.binds md e = true → e.on ≠ i) → oi.apart ops oj = true) →
      i ∈ Region.ready md ops l → good l → YieldsIf P ops R oi v a → T l w → anyT P md ops Q T n (l.setIfInBounds i true) (a.put oi.dst v) w → anyT P md ops Q T (n + 1) l a w := by
  intro n
  induction n with
  | zero =>
    intro l a w _ hr hgd hy hS H
    refine ⟨fun h => (by rw [h] at hr; cases hr), fun j hj => ?_⟩
    by_cases hji : j = i
    · subst hji
      exact hy.wpOp hi (hR l w hgd hS) ⟨(hT l w).2 hS, H⟩
    · have hx := ready_mono (i := i) hj hji
      rw [H.1] at hx
      cases hx
  | succ n ih =>
    intro l a w hfree hr hgd hy hS H
    refine ⟨fun h => (by rw [h] at hr; cases hr), fun j hj => ?_⟩
    by_cases hji : j = i
    · subst hji
      exact hy.wpOp hi (hR l w hgd hS) ⟨(hT l w).2 hS, H⟩
    · obtain ⟨hun, oj, hoj, hall⟩ := mem_ready.1 hj
      have hno : ∀ e ∈ oj.after, Region.binds md e = true → e.on ≠ i := fun e he hb heq => by
        have k1 := hall e he hb
        have k0 := (mem_ready.1 hr).1
        rw [heq] at k1
        by_cases hs : i < l.size
        · simp [hs] at k0 k1
          rw [k0] at k1
          cases k1
        · simp [Array.getElem?_eq_none (Nat.le_of_not_lt hs)] at k1
      have hgd' := hg l j oj hoj hno hgd
      have step := wpOp_putIf hoj (hfree j oj hoj hji hun hno) (fun cs b => hsel i oi cs b hi) (fun cs b => hsel j oj cs b hoj) hQ hy (H.2 j (ready_mono hj hji))
      refine wpOp_mono (fun a' w' k => ?_) step
      have hcomm : (l.setIfInBounds i true).setIfInBounds j true = (l.setIfInBounds j true).setIfInBounds i true := Array.setIfInBounds_comm _ _ (Ne.symm hji)
      rw [hcomm] at k
      refine ⟨(hT _ w').1 k.2.1, ih (l.setIfInBounds j true) a' w' (fun m om hm hmi hmu hmo => hfree m om hm hmi ?_ hmo) (ready_mono hr (Ne.symm hji)) hgd' k.1 ((hT _ w').1 k.2.1) k.2.2⟩
      by_cases hjm : j = m
      · subst hjm; exact hun
      · rw [getD_set_ne true hjm] at hmu; exact hmu

variable {S1 S2 : World → Prop} {st : Nat}
set_option maxRecDepth 100000 in
theorem till_set {i : Nat} (h : i ≠ st) (l : Array Bool) (w : World) : Till S1 S2 st (l.setIfInBounds i true) w ↔ Till S1 S2 st l w := by
  unfold Till
  rw [getD_set_ne true h]
set_option maxRecDepth 100000 in
/-- What yields wherever S1 stands may be taken first. -/
theorem take_1 {i : Nat} {oi : Oper} {v : Value} {n : Nat} {l : Array Bool} {a : Act} {w : World} (hi : ops[i]? = some oi) (hs : Region.noSelect ops = true) (hf : Region.free md ops l i = true)
    (hr : (Region.ready md ops l).contains i = true) (hne : i ≠ st) (hQ : ∀ c a w, Q (.panic c) (a.put oi.dst v) w → Q (.panic c) a w) (hS : Till S1 S2 st l w) (hy : YieldsIf P ops S1 oi v a)
    (h : anyT P md ops Q (Till S1 S2 st) n (l.setIfInBounds i true) (a.put oi.dst v) w) : anyT P md ops Q (Till S1 S2 st) (n + 1) l a w :=
  anyT_first (good := fun _ => True) hi (Region.noSelect_spec hs) hQ (till_set hne) (fun _ _ _ h => h.1) (fun _ _ _ _ _ _ => trivial) n l a w (Region.free_spec hi hf) (by simpa using hr) trivial hy hS h
set_option maxRecDepth 100000 in
/-- So may what yields wherever S2 stands, if st waits for it. -/
theorem take_2 {i : Nat} {oi : Oper} {v : Value} {n : Nat} {l : Array Bool} {a : Act} {w : World} (hi : ops[i]? = some oi) (hs : Region.noSelect ops = true) (hf : Region.free md ops l i = true)
    (hr : (Region.ready md ops l).contains i = true) (hne : i ≠ st) (hw : Region.waitsFor md ops st i = true) (hl : l.getD st true = false) (hQ : ∀ c a w, Q (.panic c) (a.put oi.dst v) w → Q (.panic c) a w) (hS : Till S1 S2 st l w) (hy : YieldsIf P ops S2 oi v a)
    (h : anyT P md ops Q (Till S1 S2 st) n (l.setIfInBounds i true) (a.put oi.dst v) w) : anyT P md ops Q (Till S1 S2 st) (n + 1) l a w :=
  anyT_first (good := fun l => l.getD st true = false) hi (Region.noSelect_spec hs) hQ (till_set hne) (fun _ _ hg h => h.2 hg) (fun l j oj hj hno hg => by
      obtain ⟨os, hos, e, he, hb, hon⟩ := Region.waitsFor_spec hw
      have hjs : j ≠ st := fun hjs => by
        subst hjs
        rw [hj] at hos
        cases hos
        exact hno e he hb hon
      show (l.setIfInBounds j true).getD st true = false
      rw [getD_set_ne true hjs]
      exact hg) n l a w (Region.free_spec hi hf) (by simpa using hr) hl hy hS h
set_option maxRecDepth 100000 in
/-- One operation alone may come up. -/
theorem anyT_one {T : Array Bool → World → Prop} {i : Nat} {o : Oper} {n : Nat} {l : Array Bool} {a : Act} {w : World} (hr : Region.ready md ops l = [i]) (ho : ops[i]? = some o)
    (h : ∀ K : Act → World → Prop, Hid (∀ a' w', T (l.setIfInBounds i true) w' → anyT P md ops Q T n (l.setIfInBounds i true) a' w' → K a' w') → if Region.wanted o (yielded ops a.tmps) = true then Oper.wp P o a w K Q else K (a.put o.dst undef) w) :
    anyT P md ops Q T (n + 1) l a w := by
  refine ⟨fun h0 => (by rw [hr] at h0; cases h0), fun j hj => ?_⟩
  rw [hr] at hj
  obtain rfl : j = i := by simpa using hj
  exact wpOp_step ho fun K hK => h K (hid fun a' w' h1 h2 => hK a' w' ⟨h1, h2⟩)
set_option maxRecDepth 100000 in
theorem anyT_done {T : Array Bool → World → Prop} {l : Array Bool} {a : Act} {w : World} (hr : Region.ready md ops l = []) (h : Q .normal a w) : ∀ n, anyT P md ops Q T n l a w
  | 0 => ⟨hr, h⟩
  | _ + 1 => ⟨fun _ => h, by rw [hr]; simp⟩
set_option maxRecDepth 100000 in
theorem region_T {T : Array Bool → World → Prop} {id : Nat} {a : Act} {w : World} (hm : P.follows .mixedOrders = true)
    (h : anyT P .any ops Q T ops.size (Array.replicate ops.size false) a w.drew) : (Code.region id ops true).wp P Q a w := wp_region_any hm (anyT_wp _ _ _ _ h)
end
end Go.Proofs.Ytgcnbeigchppfaa.Pcm
