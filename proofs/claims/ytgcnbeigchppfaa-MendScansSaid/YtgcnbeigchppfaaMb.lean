/- Found blocks: as data, in memory, in lists. No condition but those that each lemma names. -/
import Derived.Test.YtgcnbeigchppfaaMa
import Derived.Test.YtgcnbeigchppfaaIq
namespace Go.Proofs.Ytgcnbeigchppfaa.Mnd
open Go.RowKit Gen

/-- A block that was found, as it lies in a list. -/
structure Fnd where
  at_ : Nat
  h : Head.Hh
  a : Option Addr
  n : Nat
  cap : Nat
  s : Nat
def fnl (x : Fnd) : List Value := [.int .i64 (x.at_ : Int), .int .i64 x.h.k, .int .i64 x.h.ix, .int .i64 x.h.ln, .int .i64 x.h.st, .int .i64 x.h.bd, .bool x.h.la, .int .u32 (x.h.lk : Int), .int .i64 x.h.sz, .slice x.a x.n x.cap, .int .u32 (x.s : Int)]
def fns : List Fnd → List Value
  | [] => []
  | x :: t => fnl x ++ fns t
theorem fns_len : ∀ l : List Fnd, (fns l).length = l.length * 11
  | [] => rfl
  | x :: t => by
    show (fnl x ++ fns t).length = (t.length + 1) * 11
    rw [List.length_append, fns_len t]
    show 11 + t.length * 11 = _
    omega
theorem fns_app : ∀ l m : List Fnd, fns (l ++ m) = fns l ++ fns m
  | [], _ => rfl
  | x :: t, m => by show fnl x ++ fns (t ++ m) = (fnl x ++ fns t) ++ fns m; rw [fns_app t m, List.append_assoc]
theorem fns_snoc (l : List Fnd) (x : Fnd) : fns (l ++ [x]) = fns l ++ fnl x := by rw [fns_app]; show _ ++ (fnl _ ++ []) = _; rw [List.append_nil]
theorem fnl_one (x : Fnd) : ∀ u ∈ fnl x, u.oneCell' = true := by
  intro u hu
  simp only [fnl, List.mem_cons, List.not_mem_nil, or_false] at hu
  rcases hu with rfl | rfl | rfl | rfl | rfl | rfl | rfl | rfl | rfl | rfl | rfl <;> rfl
theorem fns_at : ∀ (l : List Fnd) (j : Nat) (x : Fnd) (i : Nat) (u : Value), l[j]? = some x → (fnl x)[i]? = some u → (fns l)[j * 11 + i]? = some u
  | [], j, x, i, u, h, _ => by simp at h
  | y :: t, 0, x, i, u, h, hi => by
    simp at h
    subst h
    show (fnl y ++ fns t)[0 * 11 + i]? = some u
    rw [Nat.zero_mul, Nat.zero_add, List.getElem?_append_left (List.getElem?_eq_some_iff.1 hi).1]
    exact hi
  | y :: t, j + 1, x, i, u, h, hi => by
    have ih := fns_at t j x i u (by simpa using h) hi
    show (fnl y ++ fns t)[(j + 1) * 11 + i]? = some u
    have hl : (fnl y).length = 11 := rfl
    rw [List.getElem?_append_right (by rw [hl]; omega), hl, show (j + 1) * 11 + i - 11 = j * 11 + i by omega]
    exact ih
/-- It is the block that begins at p in b. -/
structure FnOk (w : World) (b : List Nat) (x : Fnd) (p : Nat) : Prop where
  h : x.h = Head.opH (b.drop p)
  n : x.n = (Head.opP (b.drop p)).length
  y : Byts w x.a (Head.opP (b.drop p))
  s : x.s = Head.opS (b.drop p)
  e : x.at_ = p
theorem FnOk.keep {w w' : World} {b : List Nat} {x : Fnd} {p : Nat} (h : FnOk w b x p) (hb : Below w.heap.size w w') : FnOk w' b x p := ⟨h.h, h.n, h.y.keep hb, h.s, h.e⟩
/-- Blocks that were found so far: the lists. -/
structure Fs (w : World) (b : List Nat) (S : List Nat) (X : List Fnd) : Prop where
  len : X.length = S.length
  ok : ∀ (j : Nat) (x : Fnd), X[j]? = some x → ∃ p, S[j]? = some p ∧ FnOk w b x p
theorem Fs.nil (w : World) (b : List Nat) : Fs w b [] [] := ⟨rfl, fun j x h => by simp at h⟩
theorem Fs.keep {w w' : World} {b S : List Nat} {X : List Fnd} (h : Fs w b S X) (hb : Below w.heap.size w w') : Fs w' b S X :=
  ⟨h.len, fun j x hj => by
    obtain ⟨a, ha, k⟩ := h.ok j x hj
    exact ⟨a, ha, k.keep hb⟩⟩
theorem Fs.stay {T : Nat → Prop} {w w' : World} {b S : List Nat} {X : List Fnd} (h : Fs w b S X) (hf : Fr T w w') (hx : ∀ (j : Nat) (x : Fnd), X[j]? = some x → ∀ q, blk x.a = some q → ¬ T q) : Fs w' b S X :=
  ⟨h.len, fun j x hj => by
    obtain ⟨a, ha, k⟩ := h.ok j x hj
    exact ⟨a, ha, k.h, k.n, k.y.stay hf (fun q off e => hx j x hj q (by rw [e]; rfl)), k.s, k.e⟩⟩
theorem Fs.snoc {w : World} {b S : List Nat} {X : List Fnd} {x : Fnd} {p : Nat} (h : Fs w b S X) (hx : FnOk w b x p) : Fs w b (S ++ [p]) (X ++ [x]) := by
  refine ⟨by simp [h.len], fun j y hj => ?_⟩
  by_cases e : j < X.length
  · rw [List.getElem?_append_left e] at hj
    obtain ⟨a, ha, hb⟩ := h.ok j y hj
    exact ⟨a, by rw [List.getElem?_append_left (by rw [← h.len]; exact e)]; exact ha, hb⟩
  · have hjl : j = X.length := by
      have := (List.getElem?_eq_some_iff.1 hj).1
      rw [List.length_append] at this
      simp at this
      omega
    subst hjl
    simp at hj
    subst hj
    exact ⟨p, by rw [h.len]; simp, hx⟩
theorem cells_new1 (w : World) (l : List Value) (t : TypeId) : ∀ j u, l[j]? = some u → (w.alloc (.cells l.toArray t)).cell? ((⟨w.heap.size, 0, none⟩ : Addr).add j) = some u := by
  intro j u hj
  have h := heap_alloc_new w (.cells l.toArray t)
  rw [Addr.add_lit, Nat.zero_add]
  unfold World.cell?
  rw [h]
  simpa using hj
theorem own_in {w : World} {B : Nat} {e : TypeId} {ao : Option Addr} {n cap : Nat} {xs : List Value} (h : w.ownsRow B e 1 (.slice ao n cap) n xs) : ∀ q, blk ao = some q → B ≤ q ∧ q < w.heap.size := fun q hq => h.lt q (by rw [ownBlock_slice]; exact hq)
theorem wr_4 {a : Nat} (h : a ≤ 1073741824) : wrap64 ((a : Int) + 1) = (a : Int) + 1 := IntWalk.wrap64_in _ (by omega)
theorem wr_5 {a z : Nat} (h : a ≤ 1073741824) (hz : z ≤ 1073741824) : wrap64 ((a : Int) + (36 + (z : Int))) = (a : Int) + (36 + (z : Int)) := IntWalk.wrap64_in _ (by omega)
end Go.Proofs.Ytgcnbeigchppfaa.Mnd
