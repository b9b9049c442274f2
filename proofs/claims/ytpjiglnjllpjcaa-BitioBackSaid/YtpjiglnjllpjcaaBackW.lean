/- BitioBack's walk: whatever list of at most a hundred numbers and widths a writer is given, what it took is got again, piece by piece, and behind it there are fewer than eight bits, all 0. Conditions: those of the memory's own form alone. -/
import Derived.Test.YtpjiglnjllpjcaaAdds
import Derived.Test.YtpjiglnjllpjcaaRd2
import Derived.Deep.AppendLies
namespace Go.Proofs.Ytpjiglnjllpjcaa.Bit
open Go.RowKit

theorem Try.info34 : (Try.prog.info? 34).map (fun i => (i.zero, i.size, i.bytes)) = some (some (.agg #[.int .i64 0, .int .u64 0, .int .i64 0]), 3, 24) := by kernel_rfl

/-- What a writer took of a number, and how wide. -/
abbrev Pc := Int × Int × Int
def okP (v n : Int) : Prop := ¬ (n < 0 ∨ 64 < n) ∧ ¬ 2 ^ n.toNat ≤ v.toNat
instance (v n : Int) : Decidable (okP v n) := by unfold okP; exact inferInstance
theorem putS_ok (N L : Nat) (v n : Int) (h : okP v n) : putS N L v.toNat n = (N * 2 ^ n.toNat + v.toNat, L + n.toNat, 0) := by unfold putS; rw [if_neg h.1, if_neg h.2]
theorem putS_no (N L : Nat) (v n : Int) (h : ¬ okP v n) : putS N L v.toNat n = (N, L, 1) ∨ putS N L v.toNat n = (N, L, 3) := by
  unfold putS
  by_cases h1 : n < 0 ∨ 64 < n
  · exact .inl (if_pos h1)
  · rw [if_neg h1]
    by_cases h2 : 2 ^ n.toNat ≤ v.toNat
    · exact .inr (if_pos h2)
    · exact absurd ⟨h1, h2⟩ h

def step (x : Nat × Nat) (y : Pc) : Nat × Nat := (x.1 * 2 ^ y.2.2.toNat + y.2.1.toNat, x.2 + y.2.2.toNat)
def bitsOf (A : List Pc) : Nat × Nat := A.foldl step (0, 0)
def AllOk (A : List Pc) : Prop := ∀ y, y ∈ A → okP y.2.1 y.2.2 ∧ 0 ≤ y.2.1
theorem bitsOf_snoc (A : List Pc) (y : Pc) : bitsOf (A ++ [y]) = step (bitsOf A) y := by simp [bitsOf]
theorem okP_lt {v n : Int} (h : okP v n) : v.toNat < 2 ^ n.toNat ∧ n.toNat ≤ 64 := by
  obtain ⟨h1, h2⟩ := h; constructor <;> omega

theorem bits_prefix : ∀ (R : List Pc) (x : Nat × Nat), AllOk R → x.2 ≤ (R.foldl step x).2 ∧ (R.foldl step x).1 / 2 ^ ((R.foldl step x).2 - x.2) = x.1
  | [], x, _ => by simp
  | y :: R, x, h => by
    obtain ⟨h1, h2⟩ := bits_prefix R (step x y) (fun z hz => h z (List.mem_cons_of_mem _ hz))
    obtain ⟨hv, _⟩ := okP_lt (h y List.mem_cons_self).1
    rw [List.foldl_cons]
    have e1 : (step x y).2 = x.2 + y.2.2.toNat := rfl
    have e2 : (step x y).1 = x.1 * 2 ^ y.2.2.toNat + y.2.1.toNat := rfl
    refine ⟨by omega, ?_⟩
    have e3 : (R.foldl step (step x y)).2 - x.2 = ((R.foldl step (step x y)).2 - (step x y).2) + y.2.2.toNat := by omega
    rw [e3, Nat.pow_add, ← Nat.div_div_eq_div_mul, h2, e2, Nat.mul_comm, Nat.mul_add_div (Nat.two_pow_pos _), Nat.div_eq_of_lt hv, Nat.add_zero]
theorem bits_lt : ∀ (R : List Pc) (x : Nat × Nat), AllOk R → x.1 < 2 ^ x.2 → (R.foldl step x).1 < 2 ^ (R.foldl step x).2
  | [], _, _, h => h
  | y :: R, x, h, hx => by
    rw [List.foldl_cons]
    refine bits_lt R _ (fun z hz => h z (List.mem_cons_of_mem _ hz)) ?_
    obtain ⟨hv, _⟩ := okP_lt (h y List.mem_cons_self).1
    show x.1 * 2 ^ y.2.2.toNat + y.2.1.toNat < 2 ^ (x.2 + y.2.2.toNat)
    rw [Nat.pow_add]
    have : (x.1 + 1) * 2 ^ y.2.2.toNat ≤ 2 ^ x.2 * 2 ^ y.2.2.toNat := Nat.mul_le_mul_right _ hx
    rw [Nat.add_mul] at this; omega
theorem bits_len : ∀ (R : List Pc) (x : Nat × Nat), AllOk R → (R.foldl step x).2 ≤ x.2 + 64 * R.length
  | [], x, _ => by simp
  | y :: R, x, h => by
    rw [List.foldl_cons]
    have h1 := bits_len R (step x y) (fun z hz => h z (List.mem_cons_of_mem _ hz))
    obtain ⟨_, hn⟩ := okP_lt (h y List.mem_cons_self).1
    have e1 : (step x y).2 = x.2 + y.2.2.toNat := rfl
    rw [List.length_cons]; omega

/-- The piece that comes next is got. -/
theorem seg_next (A1 : List Pc) (y : Pc) (A2 : List Pc) (h : AllOk (A1 ++ y :: A2)) :
    (bitsOf A1).2 + y.2.2.toNat ≤ (bitsOf (A1 ++ y :: A2)).2 ∧
    seg (pad (bitsOf (A1 ++ y :: A2)).1 (bitsOf (A1 ++ y :: A2)).2) (8 * (((bitsOf (A1 ++ y :: A2)).2 + 7) / 8)) (bitsOf A1).2 y.2.2.toNat = y.2.1.toNat := by
  obtain ⟨hv, _⟩ := okP_lt (h y (by simp)).1
  have e0 : bitsOf (A1 ++ y :: A2) = A2.foldl step (step (bitsOf A1) y) := by simp [bitsOf]
  obtain ⟨h1, h2⟩ := bits_prefix A2 (step (bitsOf A1) y) (fun z hz => h z (by simp [hz]))
  rw [e0]
  generalize hX : A2.foldl step (step (bitsOf A1) y) = X at *
  have e1 : (step (bitsOf A1) y).2 = (bitsOf A1).2 + y.2.2.toNat := rfl
  have e2 : (step (bitsOf A1) y).1 = (bitsOf A1).1 * 2 ^ y.2.2.toNat + y.2.1.toNat := rfl
  refine ⟨by omega, ?_⟩
  unfold seg pad
  have e3 : 8 * ((X.2 + 7) / 8) - (bitsOf A1).2 - y.2.2.toNat = (8 * ((X.2 + 7) / 8) - X.2) + (X.2 - (step (bitsOf A1) y).2) := by omega
  rw [e3, Nat.pow_add, ← Nat.div_div_eq_div_mul, Nat.mul_div_cancel _ (Nat.two_pow_pos _), h2, e2, Nat.mul_comm, Nat.mul_add_mod, Nat.mod_eq_of_lt hv]

/-- The accepted ones among the first k. -/
def acc (K V N : Nat → Int) : Nat → List Pc
  | 0 => []
  | k + 1 => if okP (V k) (N k) then acc K V N k ++ [(K k, V k, N k)] else acc K V N k
def flat (A : List Pc) : List Value := A.flatMap fun y => [.int .i64 y.1, .int .u64 y.2.1, .int .i64 y.2.2]
theorem flat_len (A : List Pc) : (flat A).length = A.length * 3 := by
  induction A with
  | nil => rfl
  | cons y A ih => simp only [flat, List.flatMap_cons, List.length_append, List.length_cons, List.length_nil] at *; omega
theorem flat_snoc (A : List Pc) (y : Pc) : flat (A ++ [y]) = flat A ++ [.int .i64 y.1, .int .u64 y.2.1, .int .i64 y.2.2] := by simp [flat]
theorem flat_at : ∀ (A1 : List Pc) (y : Pc) (A2 : List Pc) (j : Nat) (_ : j < 3), (flat (A1 ++ y :: A2))[A1.length * 3 + j]? = [(Value.int .i64 y.1), .int .u64 y.2.1, .int .i64 y.2.2][j]?
  | A1, y, A2, j, hj => by
    have e : flat (A1 ++ y :: A2) = flat A1 ++ ([(Value.int .i64 y.1), .int .u64 y.2.1, .int .i64 y.2.2] ++ flat A2) := by simp [flat]
    rw [e, ← flat_len A1, List.getElem?_append_right (Nat.le_add_right _ _), Nat.add_sub_cancel_left, List.getElem?_append_left (by simpa using hj)]
theorem acc_ok (K V N : Nat → Int) (len : Nat) (hv : ∀ i, i < len → 0 ≤ V i) : ∀ k, k ≤ len → AllOk (acc K V N k) ∧ (acc K V N k).length ≤ k
  | 0, _ => ⟨(fun y hy => (List.not_mem_nil hy).elim), Nat.le_refl _⟩
  | k + 1, hk => by
    obtain ⟨h1, h2⟩ := acc_ok K V N len hv k (by omega)
    unfold acc
    split
    · rename_i h
      refine ⟨fun y hy => ?_, by simp; omega⟩
      rw [List.mem_append] at hy
      rcases hy with hy | hy
      · exact h1 y hy
      · simp at hy; subst hy; exact ⟨h, hv k (by omega)⟩
    · exact ⟨h1, by omega⟩

/-- The writer of what was accepted, and the list of it. -/
def BkS (w wr : World) (A : List Pc) (v : Value) : Prop := ∃ (aow : Option Addr) (capw : Nat) (vo : Option Addr) (vcap : Nat), v = .slice vo A.length vcap ∧ WrN wr w.heap.size w.heap.size 0 aow capw (bitsOf A).1 (bitsOf A).2 ∧
  wr.ownsRow w.heap.size 34 3 (.slice vo A.length vcap) A.length (flat A) ∧ (∀ g, blk vo = some g → g ≠ w.heap.size ∧ blk aow ≠ some g) ∧ Below w.heap.size w wr

theorem BkS.below {w wr : World} {A : List Pc} {v : Value} (h : BkS w wr A v) : Below w.heap.size w wr := by obtain ⟨_, _, _, _, _, _, _, _, hb⟩ := h; exact hb
theorem BkS.fr {w wr w' : World} {A : List Pc} {v : Value} (h : BkS w wr A v) (hf : Fr (fun _ => False) wr w') : BkS w w' A v := by
  obtain ⟨aow, capw, vo, vcap, rfl, hw, ho, hs, hb⟩ := h
  exact ⟨aow, capw, vo, vcap, rfl, hw.fr hf, ownsRow_block ho fun g hg => hf.block g (ho.lt g (by rw [ownBlock_slice]; exact hg)).2 (fun x => x), hs,
    hb.trans ⟨hf.os, hf.tape, hf.output, hf.size, fun k hk => hf.block k (Nat.lt_of_lt_of_le hk hb.size) (fun e => e)⟩⟩

/-- A number and a width put: taken, or refused. -/
theorem bk_put {w wr : World} {A : List Pc} {vo : Option Addr} {vcap : Nat} (h : BkS w wr A (.slice vo A.length vcap)) (v n : Int) (hv : 0 ≤ v) (hL : (bitsOf A).2 ≤ 7000000000000) :
    Calls Try.prog 25 #[.pointer (some ⟨w.heap.size, 0, none⟩), .int .u64 v, .int .i64 n] wr fun e w' => ∃ err : Int, e = .returned (.int .i64 err) ∧ ((okP v n ∧ err = 0) ∨ (¬ okP v n ∧ err ≠ 0)) ∧
      ∃ aow capw, WrN w' w.heap.size w.heap.size 0 aow capw (putS (bitsOf A).1 (bitsOf A).2 v.toNat n).1 (putS (bitsOf A).1 (bitsOf A).2 v.toNat n).2.1 ∧
        w'.ownsRow w.heap.size 34 3 (.slice vo A.length vcap) A.length (flat A) ∧ (∀ g, blk vo = some g → g ≠ w.heap.size ∧ blk aow ≠ some g) ∧ Below w.heap.size w w' := by
  obtain ⟨aow, capw, vo', vcap', hv', hw, ho, hs, hb⟩ := h
  cases hv'
  refine (put_any _ _ _ v n v.toNat aow capw _ _ wr hw (by omega) hL).mono ?_
  rintro e w' ⟨rfl, ao', cap', h1, h2⟩
  refine ⟨_, rfl, ?_, ao', cap', h1, ?_, ?_, hb.trans (h2.below (Nat.le_refl _) (fun g hg => (Wr.rlt hw g hg).1) hb.size)⟩
  · by_cases hk : okP v n
    · left; rw [putS_ok _ _ _ _ hk]; exact ⟨hk, rfl⟩
    · right
      refine ⟨hk, ?_⟩
      rcases putS_no (bitsOf A).1 (bitsOf A).2 v n hk with e | e
      · rw [e]; exact (by decide : (1 : Int) ≠ 0)
      · rw [e]; exact (by decide : (3 : Int) ≠ 0)
  · exact ownsRow_block ho fun g hg => h2.fr.block g (ho.lt g (by rw [ownBlock_slice]; exact hg)).2 (by rintro (e | e); exact (hs g hg).1 e; exact (hs g hg).2 e)
  · intro g hg
    refine ⟨(hs g hg).1, ?_⟩
    rcases h2.at_ with e | e
    · rw [e]; exact (hs g hg).2
    · intro e2
      have := e g e2
      have := (ho.lt g (by rw [ownBlock_slice]; exact hg)).2
      omega

/-- One more was accepted, and appended. -/
theorem bk_app {w w3 w4 : World} {A : List Pc} {y : Pc} {vo aow : Option Addr} {vcap capw g cap' : Nat} (ho : okP y.2.1 y.2.2)
    (hw3 : WrN w3 w.heap.size w.heap.size 0 aow capw (putS (bitsOf A).1 (bitsOf A).2 y.2.1.toNat y.2.2).1 (putS (bitsOf A).1 (bitsOf A).2 y.2.1.toNat y.2.2).2.1) (ho3 : w3.ownsRow w.heap.size 34 3 (.slice vo A.length vcap) A.length (flat A))
    (hs3 : ∀ g, blk vo = some g → g ≠ w.heap.size ∧ blk aow ≠ some g) (hb3 : Below w.heap.size w w3) (ob : Obj)
    (hown4 : w4.ownsRow w.heap.size 34 3 (.slice (some ⟨g, 0, none⟩) (A.length + 1) cap') (A.length + 1) (flat A ++ [.int .i64 y.1, .int .u64 y.2.1, .int .i64 y.2.2]))
    (hgrow : (w3.alloc ob).grownBy w4 (Value.slice vo A.length vcap).ownBlock) (hat : (Value.slice vo A.length vcap).ownBlock = some g ∨ g = w3.heap.size + 1) :
    BkS w w4 (A ++ [y]) (.slice (some ⟨g, 0, none⟩) (A.length + 1) cap') := by
  rw [ownBlock_slice] at hgrow hat
  have hlr : ∀ g, blk vo = some g → w.heap.size ≤ g ∧ g < w3.heap.size := fun g hg => ho3.lt g (by rw [ownBlock_slice]; exact hg)
  have hpl := Wr.plt hw3
  have hf : Fr (fun b => blk vo = some b) w3 w4 := ((Fr.refl _ _).alloc ob).grown hgrow (fun b hb _ => hb)
  have hw4 := Wr.keep hw3 hf (fun e => (hs3 _ e).1 rfl) (fun g hg e => (hs3 g e).2 hg)
  rw [putS_ok _ _ _ _ ho] at hw4
  refine ⟨aow, capw, some ⟨g, 0, none⟩, cap', by simp, by rw [bitsOf_snoc]; exact hw4, ?_, ?_, hb3.trans ⟨hf.os, hf.tape, hf.output, hf.size, fun k hk => hf.block k (Nat.lt_of_lt_of_le hk hb3.size) (fun e => by have := hlr k e; omega)⟩⟩
  · rw [flat_snoc, List.length_append]
    exact hown4
  · intro g' hg'
    obtain rfl : g = g' := by simpa [blk] using hg'
    rcases hat with e | e
    · exact hs3 g e
    · refine ⟨by omega, fun e2 => ?_⟩
      have := (Wr.rlt hw3 g e2).2
      omega
theorem bk_no {w w3 : World} {A : List Pc} {v n : Int} {vo aow : Option Addr} {vcap capw : Nat} (ho : ¬ okP v n)
    (hw3 : WrN w3 w.heap.size w.heap.size 0 aow capw (putS (bitsOf A).1 (bitsOf A).2 v.toNat n).1 (putS (bitsOf A).1 (bitsOf A).2 v.toNat n).2.1) (ho3 : w3.ownsRow w.heap.size 34 3 (.slice vo A.length vcap) A.length (flat A))
    (hs3 : ∀ g, blk vo = some g → g ≠ w.heap.size ∧ blk aow ≠ some g) (hb3 : Below w.heap.size w w3) : BkS w w3 A (.slice vo A.length vcap) := by
  refine ⟨aow, capw, vo, vcap, rfl, ?_, ho3, hs3, hb3⟩
  rcases putS_no (bitsOf A).1 (bitsOf A).2 v n ho with e | e
  · rw [e] at hw3; exact hw3
  · rw [e] at hw3; exact hw3
theorem acc_yes (K V N : Nat → Int) (k : Nat) (h : okP (V k) (N k)) : acc K V N (k + 1) = acc K V N k ++ [(K k, V k, N k)] := by show (if _ then _ else _) = _; rw [if_pos h]
theorem acc_no (K V N : Nat → Int) (k : Nat) (h : ¬ okP (V k) (N k)) : acc K V N (k + 1) = acc K V N k := by show (if _ then _ else _) = _; rw [if_neg h]

/-- .. and the reader of its bytes, at place p. -/
def BkR (w wr : World) (A : List Pc) (vo : Option Addr) (vcap q g M T p : Nat) : Prop := ∃ (aow : Option Addr) (capw : Nat), WrN wr w.heap.size w.heap.size 0 aow capw (bitsOf A).1 (bitsOf A).2 ∧
  wr.ownsRow w.heap.size 34 3 (.slice vo A.length vcap) A.length (flat A) ∧ q ≠ w.heap.size ∧ w.heap.size ≤ q ∧ (∀ g, blk aow = some g → g ≠ q) ∧ (∀ g, blk vo = some g → g ≠ q) ∧ Rd wr q g M T p ∧ Below w.heap.size w wr

theorem BkR.below {w wr : World} {A : List Pc} {vo : Option Addr} {vcap q g M T p : Nat} (h : BkR w wr A vo vcap q g M T p) : Below w.heap.size w wr := by obtain ⟨_, _, _, _, _, _, _, _, _, hb⟩ := h; exact hb
theorem BkR.rd {w wr : World} {A : List Pc} {vo : Option Addr} {vcap q g M T p : Nat} (h : BkR w wr A vo vcap q g M T p) : Rd wr q g M T p := by obtain ⟨_, _, _, _, _, _, _, _, hr, _⟩ := h; exact hr
theorem BkR.move {w wr w' : World} {A : List Pc} {vo : Option Addr} {vcap q g M T p p' : Nat} (h : BkR w wr A vo vcap q g M T p) (hf : Fr (fun b => b = q) wr w') (hr : Rd w' q g M T p') : BkR w w' A vo vcap q g M T p' := by
  obtain ⟨aow, capw, hw, ho, h1, h2, h3, h4, _, hb⟩ := h
  exact ⟨aow, capw, Wr.keep hw hf (fun e => h1 e.symm) (fun g hg e => h3 g hg e), ownsRow_block ho fun g hg => hf.block g (ho.lt g (by rw [ownBlock_slice]; exact hg)).2 (fun e => h4 g hg e), h1, h2, h3, h4, hr,
    hb.trans ⟨hf.os, hf.tape, hf.output, hf.size, fun k hk => hf.block k (Nat.lt_of_lt_of_le hk hb.size) (fun e => by omega)⟩⟩
theorem BkR.drewN {w wr : World} {A : List Pc} {vo : Option Addr} {vcap q g M T p : Nat} (h : BkR w wr A vo vcap q g M T p) (n : Nat) : BkR w (wr.drewN n) A vo vcap q g M T p := h.move ((Fr.refl _ _).drewN n) (h.rd.drewN n)
theorem BkR.wlen {w wr : World} {A : List Pc} {vo : Option Addr} {vcap q g M T p : Nat} (h : BkR w wr A vo vcap q g M T p) (hL : (bitsOf A).2 ≤ 8000000000000) :
    Calls Try.prog 11 #[.pointer (some ⟨w.heap.size, 0, none⟩)] wr fun e w' => e = .returned (.int .i64 (bitsOf A).2) ∧ ∃ nq, w' = wr.drewN nq := by
  obtain ⟨_, _, hw, _⟩ := h
  exact len_any hw hL
theorem BkR.cells {w wr : World} {A : List Pc} {vo : Option Addr} {vcap q g M T p : Nat} (h : BkR w wr A vo vcap q g M T p) (A1 : List Pc) (y : Pc) (A2 : List Pc) (hA : A = A1 ++ y :: A2) :
    ∃ gv, vo = some ⟨gv, 0, none⟩ ∧ wr.cell? ⟨gv, A1.length * 3 + 1, none⟩ = some (.int .u64 y.2.1) ∧ wr.cell? ⟨gv, A1.length * 3 + 2, none⟩ = some (.int .i64 y.2.2) := by
  obtain ⟨_, _, _, ho, _⟩ := h
  have ho2 := ho
  obtain ⟨_, ho1⟩ := ho
  rcases ho1 with ⟨_, h0⟩ | ⟨gv, c, cur, hv, _⟩
  · subst hA; simp at h0
  · cases hv
    refine ⟨gv, rfl, ?_, ?_⟩
    · have := ho2.cells (g := gv) rfl (A1.length * 3 + 1) (.int .u64 y.2.1) (by rw [hA, flat_at A1 y A2 1 (by decide)]; rfl)
      simpa [Addr.add_lit] using this
    · have := ho2.cells (g := gv) rfl (A1.length * 3 + 2) (.int .i64 y.2.2) (by rw [hA, flat_at A1 y A2 2 (by decide)]; rfl)
      simpa [Addr.add_lit] using this

theorem get_okI {w : World} {q g M T p : Nat} (h : Rd w q g M T p) (hT : T ≤ 1099511627776) (ni : Int) (n : Nat) (hni : ni = n) (hn : n ≤ 64) (hend : p + n ≤ 8 * T) :
    Calls Try.prog 16 #[.pointer (some ⟨q, 0, none⟩), .int .i64 ni] w (Got w q g M T p n) := by subst hni; exact get_ok h hT n hn hend

/-- Behind the last piece there are bits 0 alone. -/
theorem align_end (N L : Nat) : alignS (pad N L) ((L + 7) / 8) L = (8 * ((L + 7) / 8), 0) := by
  unfold alignS
  by_cases h : L % 8 = 0
  · rw [if_pos h]; congr 1; omega
  · rw [if_neg h, if_pos ?_]
    · congr 1; omega
    · unfold seg pad
      have e1 : 8 * ((L + 7) / 8) - L - (8 - L % 8) = 0 := by omega
      have e2 : 8 * ((L + 7) / 8) - L = 8 - L % 8 := by omega
      rw [e1, e2, Nat.pow_zero, Nat.div_one, Nat.mul_mod_left]

theorem split_at (A : List Pc) (j : Nat) (h : j < A.length) : A = A.take j ++ A[j] :: A.drop (j + 1) := by
  rw [List.getElem_cons_drop, List.take_append_drop]
theorem take_next (A : List Pc) (j : Nat) (h : j < A.length) : (bitsOf (A.take (j + 1))).2 = (bitsOf (A.take j)).2 + (A[j]).2.2.toNat := by
  rw [List.take_succ_eq_append_getElem h, bitsOf_snoc]; rfl

set_option maxHeartbeats 3200000 in
set_option maxRecDepth 100000 in
theorem back_walk (w : World) (a : Option Addr) (len cap b off : Nat) (K V N : Nat → Int) (h : Acts w a len cap b off K V N) :
    Calls Try.prog 5 #[.slice a len cap] w fun e w' => e = .returned (.bool true) ∧ Below w.heap.size w w' := by
  by_cases h100 : 100 < len
  · have h1 : (100 : Int) < (len : Int) := by omega
    go_enter Try.func5, Try.ntmps5
    go_wp2_with fail
    refine (known_true _).mono ?_
    rintro e w' ⟨rfl, hb⟩
    go_wp2_with fail
    go_ret
    exact ⟨rfl, hb⟩
  · have h1 : ¬ (100 : Int) < (len : Int) := by omega
    have hacc := acc_ok K V N len (fun i hi => (h.vb i hi).1)
    have HACC := hid hacc
    have H := hid h
    obtain ⟨i0, hi, hz0, hz1, hz2⟩ := info_parts Try.info34
    have hst : BkS w (w.alloc (.cells #[.slice none 0 0, .int .u64 0, .int .i64 0] 29)) [] (.slice none 0 0) :=
      ⟨none, 0, none, 0, rfl, new_writer' w 29 _ (Nat.le_refl _), World.ownsRow_nil _ _ _ _, (by intro g hg; simp [blk] at hg), (Below.refl _ _).alloc (Nat.le_refl _) _⟩
    clear h hacc
    go_enter Try.func5, Try.ntmps5
    go_wp2_with fail
    go_loopg [4, 5] len (fun g v i wr => ∃ k : Nat, k ≤ len ∧ g = len - k ∧ i = .int .i64 k ∧ BkS w wr (acc K V N k) v)
    case atStart => exact ⟨0, Nat.zero_le _, rfl, rfl, hst⟩
    case round =>
      obtain ⟨k, hk, hg, rfl, hs⟩ := hrel
      have HG := hid hg
      obtain ⟨haok, halen⟩ := HACC.out k hk
      have hbl := bits_len (acc K V N k) (0, 0) haok
      have hbl2 : (bitsOf (acc K V N k)).2 ≤ 6400 := by have : (bitsOf (acc K V N k)).2 ≤ 0 + 64 * (acc K V N k).length := hbl; omega
      obtain ⟨vo, vcap, rfl⟩ : ∃ vo vcap, u4 = .slice vo (acc K V N k).length vcap := by obtain ⟨_, _, vo, vcap, e, _⟩ := hs; exact ⟨vo, vcap, e⟩
      have HOK := hid haok
      clear hg hst hbl haok
      by_cases hlt : k < len
      · obtain rfl := H.out.addr (by omega)
        have hA := H.out.below hs.below (fun _ => H.out.lt (by omega))
        have cv := hA.v k hlt
        have cn := hA.n k hlt
        have hvb := (hA.vb k hlt).1
        have hlt2 : (k : Int) < (len : Int) := by omega
        clear hA
        go_wp2_with fail
        go_still_tail 11, (by kernel_rfl)
        have hs1 : BkS w wr.drew _ _ := hs.fr (Fr.refl _ _).drew
        clear cv cn hs
        change wpList _ _ _ _ _ wr.drew
        generalize wr.drew = w2 at hs1 ⊢
        go_wp2_with fail
        refine (bk_put hs1 _ _ hvb (by omega)).mono ?_
        rintro e w3 ⟨err, rfl, herr, aow, capw, hw3, ho3, hs3, hb3⟩
        have hA := H.out.below hb3 (fun _ => H.out.lt (by omega))
        have ck := hA.k k hlt
        have cv := hA.v k hlt
        have cn := hA.n k hlt
        clear hA hs1
        rcases herr with ⟨hok, rfl⟩ | ⟨hno, hne⟩
        · go_wp2_with (at_builtin; go_must (refine wpList_append_lies _ rfl (.tmp 35) (.tmp 40) 22 rfl w.heap.size 34 i0 (.agg #[.int .i64 0, .int .u64 0, .int .i64 0]) 3 24 Try.underlying22 hi hz0 hz1 hz2 rfl (by decide) (.slice vo (acc K V N k).length vcap) (acc K V N k).length (flat (acc K V N k)) rfl (ho3.alloc _) ⟨w3.heap.size, 0, none⟩ 1 1 [.int .i64 (K k), .int .u64 (V k), .int .i64 (N k)] rfl rfl (World.news_of_block (cs := #[.int .i64 (K k), .int .u64 (V k), .int .i64 (N k)]) (t := 34) (fr := (0, 0)) (heap_alloc_new w3 _)) (by simp [Value.oneCell']) (by decide) (by unfold maxLen; omega) (by omega) (by have := hb3.size; simp; omega) (w3.heap.size + 1) (by simp) ?_))
          intro g cap' w4 hown4 hgrow hat hlt4
          have hnew := bk_app (y := (K k, V k, N k)) hok hw3 ho3 hs3 hb3 _ hown4 hgrow hat
          rw [← acc_yes K V N k hok] at hnew
          clear hown4 hgrow hat hlt4 hw3 ho3 hs3 hb3 ck cv cn
          go_wp2_with fail
          go_roundg (len - (k + 1))
          case measure => rw [HG.out]; omega
          case rel => exact ⟨k + 1, by omega, rfl, by go_num, hnew⟩
        · have hne2 : (err == 0) = false := beq_eq_false_iff_ne.2 hne
          have hnew := bk_no hno hw3 ho3 hs3 hb3
          rw [← acc_no K V N k hno] at hnew
          have hlen : (acc K V N k).length = (acc K V N (k + 1)).length := by rw [acc_no K V N k hno]
          have HLEN := hid hlen
          clear hw3 ho3 hs3 hb3 ck cv cn hne hlen
          go_wp2_with fail
          go_roundg (len - (k + 1))
          case measure => rw [HG.out]; omega
          case rel => exact ⟨k + 1, by omega, rfl, by go_num, by rw [HLEN.out]; exact hnew⟩
      · have hge : ¬ (k : Int) < (len : Int) := by omega
        obtain rfl : k = len := by omega
        obtain ⟨aow, capw, vo', vcap', e, hw, ho, hs', hb⟩ := hs
        cases e
        generalize acc K V N k = A at *
        go_wp2_with fail
        refine (bytes_any hw (by omega)).mono ?_
        rintro e w5 ⟨rfl, hb5, hr5⟩
        go_wp2_with fail
        refine (read_any w5 (some ⟨wr.heap.size, 0, none⟩) _ _ (pad (bitsOf A).1 (bitsOf A).2) (by omega) (fun j hj => ⟨_, rfl, by rw [Addr.add_lit, Nat.zero_add, hr5.cell hj]; rfl⟩) (fun a ha _ => by cases ha; exact hr5.lt)).mono ?_
        rintro e w6 ⟨q, rfl, hq, hb6, hr6⟩
        have hbk : BkR w w6 A vo vcap q w5.heap.size (pad (bitsOf A).1 (bitsOf A).2) (((bitsOf A).2 + 7) / 8) 0 := by
          have hw5 := Wr.keep hw (Fr.of_below hb5) (by have := Wr.plt hw; omega) (fun g hg => by have := (Wr.rlt hw g hg).2; omega)
          have hw6 := Wr.keep hw5 (Fr.of_below hb6) (by have := Wr.plt hw5; omega) (fun g hg => by have := (Wr.rlt hw5 g hg).2; omega)
          have hl : ∀ g, blk vo = some g → g < wr.heap.size := fun g hg => (ho.lt g (by rw [ownBlock_slice]; exact hg)).2
          have ho5 := ownsRow_block ho (w' := w5) fun g hg => hb5.block g (hl g hg)
          have ho6 := ownsRow_block ho5 (w' := w6) fun g hg => hb6.block g (by have := hl g hg; have := hb5.size; omega)
          have := Wr.plt hw; have := hb5.size; have := hb.size
          exact ⟨aow, capw, hw6, ho6, by omega, by omega, fun g hg => by have := (Wr.rlt hw g hg).2; omega, fun g hg => by have := hl g hg; omega, hr6, (hb.trans (hb5.mono hb.size)).trans (hb6.mono (by omega))⟩
        clear hw ho hs' hb hb5 hr5 hb6 hr6 hq HACC H
        go_wp2_with fail
        go_loopg [7] A.length (fun g i wr => ∃ j : Nat, j ≤ A.length ∧ g = A.length - j ∧ i = .int .i64 j ∧ BkR w wr A vo vcap q w5.heap.size (pad (bitsOf A).1 (bitsOf A).2) (((bitsOf A).2 + 7) / 8) (bitsOf (A.take j)).2)
        case atStart => exact ⟨0, Nat.zero_le _, rfl, rfl, by simpa [bitsOf] using hbk⟩
        case round =>
          obtain ⟨j, hj, hg, rfl, hr⟩ := hrel
          have HG2 := hid hg
          clear hg hbk
          by_cases hlt3 : j < A.length
          · have hsp := split_at A j hlt3
            have hl1 : (A.take j).length = j := by rw [List.length_take]; omega
            have hnx := seg_next (A.take j) A[j] (A.drop (j + 1)) (by rw [← hsp]; exact HOK.out)
            rw [← hsp] at hnx
            have hyk := HOK.out A[j] (List.getElem_mem hlt3)
            obtain ⟨gv, rfl, cv, cn⟩ := hr.cells (A.take j) A[j] (A.drop (j + 1)) hsp
            rw [hl1] at cv cn
            have htn := take_next A j hlt3
            generalize hy : A[j] = y at *
            obtain ⟨hvl, hnl⟩ := okP_lt hyk.1
            have hy0 := hyk.2
            have hni : y.2.2 = ((y.2.2.toNat : Nat) : Int) := by have := hyk.1.1; omega
            have HNX := hid hnx; have HTN := hid htn; have HNI := hid hni
            have hlt4 : (j : Int) < (A.length : Int) := by omega
            have hend : (bitsOf (A.take j)).2 + y.2.2.toNat ≤ 8 * (((bitsOf A).2 + 7) / 8) := by omega
            clear hsp hl1 hnx hyk htn hy hni
            go_wp2_with fail
            refine (get_okI hr.rd (by omega) _ _ HNI.out hnl hend).mono ?_
            rintro e w7 ⟨rfl, hr7, hf7⟩
            rw [HNX.out.2]
            have hr8 := hr.move hf7 hr7
            have hne : (((y.2.1.toNat : Nat) : Int) != y.2.1) = false := by rw [bne_eq_false_iff_eq]; omega
            have cv8 : w7.cell? ⟨gv, j * 3 + 1, none⟩ = some (.int .u64 y.2.1) := by
              have hgq : gv ≠ q := by obtain ⟨_, _, _, _, _, _, _, h4, _⟩ := hr; exact h4 gv rfl
              exact (hf7.cell (p := ⟨gv, j * 3 + 1, none⟩) (World.block_lt_of_cell? _ _ cv) hgq).trans cv
            clear hr hr7 hf7 cv cn
            go_wp2_with fail
            rw [← HTN.out] at hr8
            clear hne cv8
            go_roundg (A.length - (j + 1))
            case measure => rw [HG2.out]; omega
            case rel => exact ⟨j + 1, by omega, rfl, by go_num, hr8⟩
          · have hge3 : ¬ (j : Int) < (A.length : Int) := by omega
            obtain rfl : j = A.length := by omega
            rw [List.take_length] at hr
            go_wp2_with fail
            refine (rat_any hr.rd).mono ?_
            rintro e w7 ⟨rfl, rfl⟩
            go_wp2_with fail
            refine (hr.wlen (by omega)).mono ?_
            rintro e w7 ⟨rfl, nq1, rfl⟩
            have hr1 := hr.drewN nq1
            clear hr
            generalize wr.drewN nq1 = W1 at hr1 ⊢
            go_wp2_with fail
            refine (rleft_any hr1.rd (by omega) (by omega)).mono ?_
            rintro e w7 ⟨rfl, nq2, rfl⟩
            have hr2 := hr1.drewN nq2
            have hlft : ((8 * (((bitsOf A).2 + 7) / 8) - (bitsOf A).2 : Nat) : Int) < 8 := by omega
            clear hr1
            generalize W1.drewN nq2 = W2 at hr2 ⊢
            go_wp2_with fail
            refine (ralign_any hr2.rd (by omega) (by omega)).mono ?_
            rintro e w7 ⟨rfl, hr3, hf3⟩
            rw [align_end] at hr3 ⊢
            have hr4 := hr2.move hf3 hr3
            clear hr2 hr3 hf3 hlft
            go_wp2_with fail
            refine (rleft_any hr4.rd (Nat.le_refl _) (by omega)).mono ?_
            rintro e w8 ⟨rfl, nq3, rfl⟩
            have hr5 := (hr4.drewN nq3).below
            rw [Nat.sub_self]
            clear hr4
            generalize w7.drewN nq3 = W3 at hr5 ⊢
            go_wp2_with fail
            refine (known_true _).mono ?_
            rintro e w9 ⟨rfl, hb9⟩
            have hfin := hr5.trans (hb9.mono hr5.size)
            clear hr5 hb9
            go_wp2_with fail
            go_ret
            exact ⟨rfl, hfin⟩
end Go.Proofs.Ytpjiglnjllpjcaa.Bit
