/- GetAll of rice, and the document's: both answer the same numbers, and stand at the same place. Conditions: the parameter and the number may be; fewer than 2^20 bytes. -/
import Derived.Test.YtjimamjhakainaaGt
import Derived.Test.YtjimamjhakainaaWt
namespace Go.Proofs.Ytjimamjhakainaa.Rice
open Go.RowKit Bit

/-- j numbers are read, without an error. -/
def Run (M T k p : Nat) : Nat → List Nat → Nat → Prop
  | 0, l, p' => l = [] ∧ p' = p
  | j + 1, l, p' => ∃ l0 p0 u, Run M T k p j l0 p0 ∧ GetR M T p0 k (u, 0, p') ∧ l = l0 ++ [u]
theorem Run.one {M T k p : Nat} : ∀ {j : Nat} {l m : List Nat} {a b : Nat}, Run M T k p j l a → Run M T k p j m b → l = m ∧ a = b
  | 0, _, _, _, _, ⟨h1, h2⟩, ⟨g1, g2⟩ => ⟨h1.trans g1.symm, h2.trans g2.symm⟩
  | j + 1, _, _, _, _, ⟨l0, p0, u, h1, h2, h3⟩, ⟨m0, q0, v, g1, g2, g3⟩ => by
    obtain ⟨rfl, rfl⟩ := Run.one h1 g1
    have := h2.one g2
    simp only [Prod.mk.injEq, true_and] at this
    obtain ⟨rfl, rfl⟩ := this
    exact ⟨h3.trans g3.symm, rfl⟩
theorem Run.len {M T k p : Nat} : ∀ {j : Nat} {l : List Nat} {a : Nat}, Run M T k p j l a → l.length = j
  | 0, _, _, ⟨h1, _⟩ => by rw [h1]; rfl
  | j + 1, _, _, ⟨l0, p0, u, h1, _, h3⟩ => by rw [h3, List.length_append, h1.len]; rfl
theorem Run.at_ {M T k p : Nat} : ∀ {n : Nat} {l : List Nat} {a : Nat}, Run M T k p n l a → ∀ j, j < n → ∃ l0 p0 u p1, Run M T k p j l0 p0 ∧ GetR M T p0 k (u, 0, p1)
  | 0, _, _, _, j, hj => absurd hj (Nat.not_lt_zero _)
  | n + 1, _, _, ⟨l0, p0, u, h1, h2, _⟩, j, hj => by
    by_cases e : j = n
    · rw [e]; exact ⟨l0, p0, u, _, h1, h2⟩
    · exact h1.at_ j (by omega)
/-- What GetAll answers, and where it leads. -/
def AllR (M T k p n : Nat) (x : List Nat × Int × Nat) : Prop := (Run M T k p n x.1 x.2.2 ∧ x.2.1 = 0) ∨ (x.1 = [] ∧ x.2.1 ≠ 0 ∧ ∃ j l0 p0 u, j < n ∧ Run M T k p j l0 p0 ∧ GetR M T p0 k (u, x.2.1, x.2.2))
theorem AllR.one {M T k p n : Nat} {x y : List Nat × Int × Nat} (h : AllR M T k p n x) (g : AllR M T k p n y) : x = y := by
  have mix : ∀ {x y : List Nat × Int × Nat}, (Run M T k p n x.1 x.2.2 ∧ x.2.1 = 0) → (x = x → y.1 = [] ∧ y.2.1 ≠ 0 ∧ ∃ j l0 p0 u, j < n ∧ Run M T k p j l0 p0 ∧ GetR M T p0 k (u, y.2.1, y.2.2)) → False := fun {x y} h g => by
    obtain ⟨_, g2, j, l0, p0, u, hj, hr, hg⟩ := g rfl
    obtain ⟨l1, p1, v, p2, hr1, hg1⟩ := h.1.at_ j hj
    obtain ⟨_, rfl⟩ := hr.one hr1
    have := hg.one hg1
    simp only [Prod.mk.injEq] at this
    exact g2 this.2.1
  rcases h with h | h <;> rcases g with g | g
  · obtain ⟨e1, e2⟩ := h.1.one g.1
    have e3 := h.2.trans g.2.symm
    obtain ⟨x1, x2, x3⟩ := x
    obtain ⟨y1, y2, y3⟩ := y
    simp only at e1 e2 e3
    subst e1 e2 e3
    rfl
  · exact (mix h fun _ => g).elim
  · exact (mix g fun _ => h).elim
  · obtain ⟨h1, h2, j, l0, p0, u, hj, hr, hg⟩ := h
    obtain ⟨g1, g2, j', l0', p0', u', hj', hr', hg'⟩ := g
    have key : ∀ {j j' : Nat} {l0 l0' : List Nat} {p0 p0' u : Nat} {e : Int} {q : Nat}, Run M T k p j l0 p0 → GetR M T p0 k (u, e, q) → e ≠ 0 → Run M T k p j' l0' p0' → ¬ j < j' := fun {j j' l0 l0' p0 p0' u e q} r1 r2 r3 r4 hlt => by
      obtain ⟨l1, p1, v, p2, hr1, hg1⟩ := r4.at_ j hlt
      obtain ⟨_, rfl⟩ := r1.one hr1
      have := r2.one hg1
      simp only [Prod.mk.injEq] at this
      exact r3 this.2.1
    obtain rfl : j = j' := by
      have := key hr hg h2 hr'
      have := key hr' hg' g2 hr
      omega
    obtain ⟨_, rfl⟩ := hr.one hr'
    have := hg.one hg'
    obtain ⟨x1, x2, x3⟩ := x
    obtain ⟨y1, y2, y3⟩ := y
    simp only [Prod.mk.injEq] at this h1 g1 ⊢
    exact ⟨h1.trans g1.symm, this.2.1, this.2.2⟩

theorem getF_le (M T k : Nat) (r : Int × Int × Nat) (hr : r.2.2 ≤ 8 * T) : (getF M T k r).2.2 ≤ 8 * T := by
  unfold getF getW
  repeat' split
  all_goals (try simp only []); omega
theorem GetR.le {M T p k : Nat} {x : Nat × Int × Nat} (h : GetR M T p k x) (hp : p ≤ 8 * T) : x.2.2 ≤ 8 * T := by
  obtain ⟨r, hr, rfl⟩ := h
  exact getF_le M T k r (hr.le hp)
theorem getF_ge (M T k : Nat) (r : Int × Int × Nat) : r.2.2 ≤ (getF M T k r).2.2 := by
  unfold getF getW
  repeat' split
  all_goals (try simp only []); omega
/-- A number that is read is one that has a code; it takes a bit, at least. -/
theorem GetR.coded {M T p k u c : Nat} (h : GetR M T p k (u, 0, c)) (hk : k ≤ 30) : coded u ∧ p + 1 ≤ c := by
  obtain ⟨r, hr, hx⟩ := h
  have hge := getF_ge M T k r
  rw [← hx] at hge
  rcases ones_cases hr with ⟨q, c', hq, rfl, h1, h2, h3⟩ | rfl
  · have hc : p + 1 ≤ c := by
      have : c' ≤ c := hge
      rcases Nat.lt_or_ge q 24 with e | e
      · have := h3 e; omega
      · omega
    refine ⟨?_, hc⟩
    unfold getF at hx
    rw [if_neg (show ¬ (0 : Int) ≠ 0 from fun h => h rfl)] at hx
    unfold Rice.coded
    by_cases h24 : (q : Int) = 24
    · rw [if_pos h24] at hx
      unfold getW at hx
      have hs := seg_lt M (8 * T) c' 40
      split at hx
      · simp at hx
      · split at hx
        · simp at hx
        · simp only [Prod.mk.injEq] at hx
          rw [hx.1]; exact hs
    · rw [if_neg h24] at hx
      split at hx
      · simp at hx
      · simp only [Prod.mk.injEq, Int.toNat_natCast] at hx
        have := quot_lt q k _ (by omega) hk (seg_lt M (8 * T) c' k)
        rw [hx.1]; omega
  · simp [getF] at hx
theorem Run.le {M T k p : Nat} (hp : p ≤ 8 * T) : ∀ {j : Nat} {l : List Nat} {a : Nat}, Run M T k p j l a → a ≤ 8 * T
  | 0, _, _, ⟨_, h⟩ => by rw [h]; exact hp
  | j + 1, _, _, ⟨l0, p0, u, h1, h2, _⟩ => h2.le (h1.le hp)
theorem Run.ge {M T k p : Nat} (hk : k ≤ 30) : ∀ {j : Nat} {l : List Nat} {a : Nat}, Run M T k p j l a → p + j ≤ a
  | 0, _, _, ⟨_, h⟩ => by omega
  | j + 1, _, _, ⟨l0, p0, u, h1, h2, _⟩ => by have := h1.ge hk; have := (h2.coded hk).2; omega
theorem Run.coded {M T k p : Nat} (hk : k ≤ 30) : ∀ {j : Nat} {l : List Nat} {a : Nat}, Run M T k p j l a → ∀ u ∈ l, Rice.coded u
  | 0, _, _, ⟨h, _⟩, u, hu => by rw [h] at hu; cases hu
  | j + 1, _, _, ⟨l0, p0, v, h1, h2, h3⟩, u, hu => by
    rw [h3] at hu
    rcases List.mem_append.1 hu with e | e
    · exact h1.coded hk u e
    · obtain rfl := List.mem_singleton.1 e
      exact (h2.coded hk).1

/-- Numbers in a row of the call's own. -/
def ul (l : List Nat) : List Value := l.map fun (u : Nat) => .int .u64 (u : Int)
def Ul (w : World) (B : Nat) (lo : Option Addr) (lcap : Nat) (l : List Nat) : Prop := w.ownsRow B 42 1 (.slice lo l.length lcap) l.length (ul l)
theorem Ul.us {w : World} {B : Nat} {lo : Option Addr} {lcap : Nat} {l : List Nat} (h : Ul w B lo lcap l) (hl : l.length ≤ 1048576) (hc : ∀ u ∈ l, u < 18446744073709551616) : ∃ b, Us w lo l.length b 0 (fun i => l.getD i 0) := by
  rcases ownsRow_at h with ⟨_, h1, _, _⟩ | ⟨g, rfl⟩
  · exact ⟨0, fun h0 => by omega, fun i hi => by omega, fun i hi => by omega, fun h0 => by omega, by omega⟩
  · refine ⟨g, fun _ => rfl, fun i hi => ?_, fun i hi => ?_, fun _ => (World.ownsRow.lt h g (by rw [ownBlock_slice]; rfl)).2, by omega⟩
    · rw [Nat.zero_add]
      exact ownsRow_cell h i _ (by simp [ul, hi])
    · have : l.getD i 0 = l[i] := by simp [hi]
      rw [this]
      exact hc _ (List.getElem_mem hi)
theorem Ul.lt {w : World} {B : Nat} {lo : Option Addr} {lcap : Nat} {l : List Nat} (h : Ul w B lo lcap l) : ∀ g, blk lo = some g → B ≤ g ∧ g < w.heap.size := fun g hg => World.ownsRow.lt h g (by rw [ownBlock_slice]; exact hg)
theorem Ul.fr {w w' : World} {B : Nat} {lo : Option Addr} {lcap : Nat} {l : List Nat} (h : Ul w B lo lcap l) {X : Nat → Prop} (hf : Fr X w w') (hx : ∀ g, blk lo = some g → ¬ X g) : Ul w' B lo lcap l := ownsRow_block h fun g hg => hf.block g (h.lt g hg).2 (hx g hg)
theorem ul_app (l : List Nat) (u : Nat) : ul (l ++ [u]) = ul l ++ [.int .u64 (u : Int)] := by unfold ul; rw [List.map_append]; rfl

theorem Try.info42 : (Try.prog.info? 42).map (fun i => (i.zero, i.size, i.bytes)) = some (some (.int .u64 0), 1, 8) := by kernel_rfl
end Go.Proofs.Ytjimamjhakainaa.Rice
