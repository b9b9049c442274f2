/- Scan of the program: its closure, and all of it. Conditions: at most 2^30 bytes, a table in memory. -/
import Derived.Test.YtgcnbeigchppfaaMc
import Derived.Deep.AppendLies
namespace Go.Proofs.Ytgcnbeigchppfaa.Mnd
open Go.RowKit Gen
attribute [local go_sem] Oper.semAt_some

theorem info54 : (Try.prog.info? 54).map (fun i => (i.zero, i.size, i.bytes)) = some (some (.agg #[.int .i64 0, .int .i64 0, .int .i64 0, .int .i64 0, .int .i64 0, .int .i64 0, .bool false, .int .u32 0, .int .i64 0, .slice none 0 0, .int .u32 0]), 11, 96) := by kernel_rfl
/-- What stands while blocks are told: the list's cell at g, its row, the blocks. -/
structure SI (w : World) (g ty : Nat) (b S : List Nat) (aa : Option Addr) (ca : Nat) (X : List Fnd) (wr : World) : Prop where
  c : wr.heap[g]? = some (.cells #[.slice aa S.length ca] 29 (0, 0))
  row : wr.ownsRow (g + 1) ty 11 (.slice aa S.length ca) S.length (fns X)
  fs : Fs wr b S X
  far : ∀ (j : Nat) (x : Fnd), X[j]? = some x → ∀ q, blk x.a = some q → g + 1 ≤ q ∧ blk aa ≠ some q ∧ q < wr.heap.size
  bel : Below g w wr
section
variable {w wr w' : World} {g ty : Nat} {b S : List Nat} {aa : Option Addr} {ca : Nat} {X : List Fnd}
theorem SI.lt (h : SI w g ty b S aa ca X wr) : g < wr.heap.size := World.block_lt_of_cell? _ ⟨g, 0, none⟩ (Head.row_cell h.c 0 rfl)
theorem SI.keep (h : SI w g ty b S aa ca X wr) (hb : Below wr.heap.size wr w') : SI w g ty b S aa ca X w' :=
  ⟨(hb.block g h.lt).trans h.c, ownsRow_block h.row fun q hq => hb.block q (h.row.lt q (by rw [ownBlock_slice]; exact hq)).2, h.fs.keep hb, fun j x hj q hq => ⟨(h.far j x hj q hq).1, (h.far j x hj q hq).2.1, Nat.lt_of_lt_of_le (h.far j x hj q hq).2.2 hb.size⟩, h.bel.trans (hb.mono (Nat.le_of_lt h.lt))⟩
theorem SI.rows (h : SI w g ty b S aa ca X wr) : ∀ q, blk aa = some q → g + 1 ≤ q ∧ q < wr.heap.size := fun q hq => h.row.lt q (by rw [ownBlock_slice]; exact hq)
/-- A block is appended: it lies in younger memory. -/
theorem SI.add (h : SI w g ty b S aa ca X wr) {x : Fnd} {p : Nat} (hx : FnOk wr b x p) (hq : ∀ q, blk x.a = some q → g + 1 ≤ q ∧ q < wr.heap.size ∧ blk aa ≠ some q) {w0 w9 : World} (hf0 : Fr (fun _ => False) wr w0) {gg cap9 : Nat}
    (how : w9.ownsRow (g + 1) ty 11 (.slice (some ⟨gg, 0, none⟩) (S.length + 1) cap9) (S.length + 1) (fns X ++ fnl x)) (hg : w0.grownBy w9 (blk aa)) (hat : blk aa = some gg ∨ w0.heap.size ≤ gg) :
    SI w g ty b (S ++ [p]) (some ⟨gg, 0, none⟩) cap9 (X ++ [x]) (w9.setCell ⟨g, 0, none⟩ (.slice (some ⟨gg, 0, none⟩) (S.length + 1) cap9)) ∧
      w9.cell? ⟨g, 0, none⟩ = some (.slice aa S.length ca) ∧ w9.frozen? ⟨g, 0, none⟩ = false ∧ Fr (fun q => q = g ∨ blk aa = some q) wr (w9.setCell ⟨g, 0, none⟩ (.slice (some ⟨gg, 0, none⟩) (S.length + 1) cap9)) := by
  have hlt := h.lt
  have haa : ∀ q, blk aa = some q → g + 1 ≤ q := fun q hq => (h.rows q hq).1
  have hfr : Fr (fun q => blk aa = some q) wr w9 := (hf0.mono (Y := fun q => blk aa = some q) (fun _ _ h => h.elim)).grown hg (fun q hq _ => hq)
  have hgn : ¬ blk aa = some g := fun e => by have := haa g e; omega
  have hc9 := (hfr.block g hlt hgn).trans h.c
  have hgg : gg ≠ g := fun e => by
    rcases hat with h' | h'
    · have := haa gg h'; omega
    · have := hf0.size; omega
  have hfr2 : Fr (fun q => q = g ∨ blk aa = some q) wr (w9.setCell ⟨g, 0, none⟩ (.slice (some ⟨gg, 0, none⟩) (S.length + 1) cap9)) := (hfr.mono (Y := fun q => q = g ∨ blk aa = some q) fun _ _ h => Or.inr h).setCell (p := ⟨g, 0, none⟩) (Or.inl rfl) _
  have hfar : ∀ q, q < wr.heap.size → blk aa ≠ some q → blk (some (⟨gg, 0, none⟩ : Addr)) ≠ some q := fun q h1 h2 e => by
    have e2 : gg = q := by simpa [blk] using e
    rcases hat with h' | h'
    · exact h2 (by rw [h', e2])
    · have := hf0.size; omega
  have hns : ∀ q, g + 1 ≤ q → blk aa ≠ some q → ¬ (q = g ∨ blk aa = some q) := fun q h1 h2 e => by
    rcases e with e | e
    · omega
    · exact h2 e
  refine ⟨⟨?_, ?_, ?_, fun j y hj q h1 => ?_, ?_⟩, Head.row_cell hc9 0 rfl, Head.row_frozen hc9 0, hfr2⟩
  · rw [heap_setCell_same w9 g 0 _ _ _ hc9]
    simp
  · rw [fns_snoc, List.length_append]
    exact ownsRow_block how fun q hq => RowKit.Below.heap_setCell _ _ _ _ (fun e => hgg ((show gg = q by simpa [blk] using hq).trans e))
  · refine Fs.snoc (h.fs.stay hfr2 (fun j y hj q h1 => hns q (h.far j y hj q h1).1 (h.far j y hj q h1).2.1)) ⟨hx.h, hx.n, hx.y.stay hfr2 (fun q off e => hns q (hq q (by rw [e]; rfl)).1 (hq q (by rw [e]; rfl)).2.2), hx.s, hx.e⟩
  · have key : g + 1 ≤ q ∧ q < wr.heap.size ∧ blk aa ≠ some q := by
      by_cases hjl : j < X.length
      · rw [List.getElem?_append_left hjl] at hj
        have := h.far j y hj q h1
        exact ⟨this.1, this.2.2, this.2.1⟩
      · have hjl2 : j = X.length := by
          have := (List.getElem?_eq_some_iff.1 hj).1
          rw [List.length_append] at this
          simp at this
          omega
        subst hjl2
        simp at hj
        subst hj
        exact hq q h1
    exact ⟨key.1, hfar q key.2.1 key.2.2, Nat.lt_of_lt_of_le key.2.1 hfr2.size⟩
  · exact h.bel.trans ⟨hfr2.os, hfr2.tape, hfr2.output, hfr2.size, fun q hq' => hfr2.block q (Nat.lt_trans hq' hlt) (fun e => by
      rcases e with e | e
      · omega
      · have := haa q e; omega)⟩
end
set_option maxHeartbeats 4000000 in
set_option maxRecDepth 100000 in
theorem scan1_any {w wr : World} {g : Nat} {b S : List Nat} {aa : Option Addr} {ca : Nat} {X : List Fnd} (h : SI w g 54 b S aa ca X wr) {x : Fnd} {p : Nat} (hx : FnOk wr b x p) (hq : ∀ q, blk x.a = some q → g + 1 ≤ q ∧ q < wr.heap.size ∧ blk aa ≠ some q) (hS : S.length ≤ 1073741824) :
    Calls Try.prog 28 (#[.agg (fnl x).toArray] ++ #[.pointer (some ⟨g, 0, none⟩)]) wr fun e w' => e = .returned (.tuple #[]) ∧ (∃ aa' ca' X', SI w g 54 b (S ++ [p]) aa' ca' X' w') ∧ Fr (fun q => q = g ∨ blk aa = some q) wr w' := by
  change Calls Try.prog 28 #[.agg #[.int .i64 (x.at_ : Int), .int .i64 x.h.k, .int .i64 x.h.ix, .int .i64 x.h.ln, .int .i64 x.h.st, .int .i64 x.h.bd, .bool x.h.la, .int .u32 (x.h.lk : Int), .int .i64 x.h.sz, .slice x.a x.n x.cap, .int .u32 (x.s : Int)], .pointer (some ⟨g, 0, none⟩)] wr _
  have HH := hid h
  have HX := hid hx
  have HQ := hid hq
  have HB := hid (Head.below_new wr (.cells #[.int .i64 (x.at_ : Int), .int .i64 x.h.k, .int .i64 x.h.ix, .int .i64 x.h.ln, .int .i64 x.h.st, .int .i64 x.h.bd, .bool x.h.la, .int .u32 (x.h.lk : Int), .int .i64 x.h.sz, .slice x.a x.n x.cap, .int .u32 (x.s : Int)] 54))
  have h1 := h.keep HB.out
  have H1 := hid h1
  have HN := hid (heap_alloc_new wr (.cells #[.int .i64 (x.at_ : Int), .int .i64 x.h.k, .int .i64 x.h.ix, .int .i64 x.h.ln, .int .i64 x.h.st, .int .i64 x.h.bd, .bool x.h.la, .int .u32 (x.h.lk : Int), .int .i64 x.h.sz, .slice x.a x.n x.cap, .int .u32 (x.s : Int)] 54))
  have cc : (wr.alloc (.cells #[.int .i64 (x.at_ : Int), .int .i64 x.h.k, .int .i64 x.h.ix, .int .i64 x.h.ln, .int .i64 x.h.st, .int .i64 x.h.bd, .bool x.h.la, .int .u32 (x.h.lk : Int), .int .i64 x.h.sz, .slice x.a x.n x.cap, .int .u32 (x.s : Int)] 54)).cell? ⟨g, 0, none⟩ = some (.slice aa S.length ca) := Head.row_cell h1.c 0 rfl
  have hlt := h1.lt
  have hz1 : (wr.alloc (.cells #[.int .i64 (x.at_ : Int), .int .i64 x.h.k, .int .i64 x.h.ix, .int .i64 x.h.ln, .int .i64 x.h.st, .int .i64 x.h.bd, .bool x.h.la, .int .u32 (x.h.lk : Int), .int .i64 x.h.sz, .slice x.a x.n x.cap, .int .u32 (x.s : Int)] 54)).heap.size = wr.heap.size + 1 := Array.size_push _
  have hrow := h1.row
  have y0 : (wr.alloc (.cells #[.int .i64 (x.at_ : Int), .int .i64 x.h.k, .int .i64 x.h.ix, .int .i64 x.h.ln, .int .i64 x.h.st, .int .i64 x.h.bd, .bool x.h.la, .int .u32 (x.h.lk : Int), .int .i64 x.h.sz, .slice x.a x.n x.cap, .int .u32 (x.s : Int)] 54)).cell? ⟨wr.heap.size, 0, none⟩ = some (.int .i64 (x.at_ : Int)) := Head.row_cell HN.out 0 rfl
  have y1 : (wr.alloc (.cells #[.int .i64 (x.at_ : Int), .int .i64 x.h.k, .int .i64 x.h.ix, .int .i64 x.h.ln, .int .i64 x.h.st, .int .i64 x.h.bd, .bool x.h.la, .int .u32 (x.h.lk : Int), .int .i64 x.h.sz, .slice x.a x.n x.cap, .int .u32 (x.s : Int)] 54)).cell? ⟨wr.heap.size, 1, none⟩ = some (.int .i64 x.h.k) := Head.row_cell HN.out 1 rfl
  have y2 : (wr.alloc (.cells #[.int .i64 (x.at_ : Int), .int .i64 x.h.k, .int .i64 x.h.ix, .int .i64 x.h.ln, .int .i64 x.h.st, .int .i64 x.h.bd, .bool x.h.la, .int .u32 (x.h.lk : Int), .int .i64 x.h.sz, .slice x.a x.n x.cap, .int .u32 (x.s : Int)] 54)).cell? ⟨wr.heap.size, 2, none⟩ = some (.int .i64 x.h.ix) := Head.row_cell HN.out 2 rfl
  have y3 : (wr.alloc (.cells #[.int .i64 (x.at_ : Int), .int .i64 x.h.k, .int .i64 x.h.ix, .int .i64 x.h.ln, .int .i64 x.h.st, .int .i64 x.h.bd, .bool x.h.la, .int .u32 (x.h.lk : Int), .int .i64 x.h.sz, .slice x.a x.n x.cap, .int .u32 (x.s : Int)] 54)).cell? ⟨wr.heap.size, 3, none⟩ = some (.int .i64 x.h.ln) := Head.row_cell HN.out 3 rfl
  have y4 : (wr.alloc (.cells #[.int .i64 (x.at_ : Int), .int .i64 x.h.k, .int .i64 x.h.ix, .int .i64 x.h.ln, .int .i64 x.h.st, .int .i64 x.h.bd, .bool x.h.la, .int .u32 (x.h.lk : Int), .int .i64 x.h.sz, .slice x.a x.n x.cap, .int .u32 (x.s : Int)] 54)).cell? ⟨wr.heap.size, 4, none⟩ = some (.int .i64 x.h.st) := Head.row_cell HN.out 4 rfl
  have y5 : (wr.alloc (.cells #[.int .i64 (x.at_ : Int), .int .i64 x.h.k, .int .i64 x.h.ix, .int .i64 x.h.ln, .int .i64 x.h.st, .int .i64 x.h.bd, .bool x.h.la, .int .u32 (x.h.lk : Int), .int .i64 x.h.sz, .slice x.a x.n x.cap, .int .u32 (x.s : Int)] 54)).cell? ⟨wr.heap.size, 5, none⟩ = some (.int .i64 x.h.bd) := Head.row_cell HN.out 5 rfl
  have y6 : (wr.alloc (.cells #[.int .i64 (x.at_ : Int), .int .i64 x.h.k, .int .i64 x.h.ix, .int .i64 x.h.ln, .int .i64 x.h.st, .int .i64 x.h.bd, .bool x.h.la, .int .u32 (x.h.lk : Int), .int .i64 x.h.sz, .slice x.a x.n x.cap, .int .u32 (x.s : Int)] 54)).cell? ⟨wr.heap.size, 6, none⟩ = some (.bool x.h.la) := Head.row_cell HN.out 6 rfl
  have y7 : (wr.alloc (.cells #[.int .i64 (x.at_ : Int), .int .i64 x.h.k, .int .i64 x.h.ix, .int .i64 x.h.ln, .int .i64 x.h.st, .int .i64 x.h.bd, .bool x.h.la, .int .u32 (x.h.lk : Int), .int .i64 x.h.sz, .slice x.a x.n x.cap, .int .u32 (x.s : Int)] 54)).cell? ⟨wr.heap.size, 7, none⟩ = some (.int .u32 (x.h.lk : Int)) := Head.row_cell HN.out 7 rfl
  have y8 : (wr.alloc (.cells #[.int .i64 (x.at_ : Int), .int .i64 x.h.k, .int .i64 x.h.ix, .int .i64 x.h.ln, .int .i64 x.h.st, .int .i64 x.h.bd, .bool x.h.la, .int .u32 (x.h.lk : Int), .int .i64 x.h.sz, .slice x.a x.n x.cap, .int .u32 (x.s : Int)] 54)).cell? ⟨wr.heap.size, 8, none⟩ = some (.int .i64 x.h.sz) := Head.row_cell HN.out 8 rfl
  have y9 : (wr.alloc (.cells #[.int .i64 (x.at_ : Int), .int .i64 x.h.k, .int .i64 x.h.ix, .int .i64 x.h.ln, .int .i64 x.h.st, .int .i64 x.h.bd, .bool x.h.la, .int .u32 (x.h.lk : Int), .int .i64 x.h.sz, .slice x.a x.n x.cap, .int .u32 (x.s : Int)] 54)).cell? ⟨wr.heap.size, 9, none⟩ = some (.slice x.a x.n x.cap) := Head.row_cell HN.out 9 rfl
  have y10 : (wr.alloc (.cells #[.int .i64 (x.at_ : Int), .int .i64 x.h.k, .int .i64 x.h.ix, .int .i64 x.h.ln, .int .i64 x.h.st, .int .i64 x.h.bd, .bool x.h.la, .int .u32 (x.h.lk : Int), .int .i64 x.h.sz, .slice x.a x.n x.cap, .int .u32 (x.s : Int)] 54)).cell? ⟨wr.heap.size, 10, none⟩ = some (.int .u32 (x.s : Int)) := Head.row_cell HN.out 10 rfl
  obtain ⟨i54, hi54, hz0, hz2, hz3⟩ := info_parts info54
  clear h hx hq h1
  go_enter Try.func28, Try.ntmps28
  go_wp2_with (at_builtin; go_must (refine wpList_append_lies _ rfl (.tmp 3) (.tmp 5) 29 rfl (g + 1) 54 i54 _ 11 96 Try.underlying29 hi54 hz0 hz2 hz3 rfl (by decide) (.slice aa S.length ca) S.length (fns X) rfl (hrow.alloc _) ⟨wr.heap.size + 1, 0, none⟩ 1 _ (fnl x) rfl rfl (hz1 ▸ cells_new1 _ _ _) (fnl_one _) (by decide) (by unfold maxLen; omega) (by omega) (by show g + 1 ≤ ((wr.alloc (.cells #[.int .i64 (x.at_ : Int), .int .i64 x.h.k, .int .i64 x.h.ix, .int .i64 x.h.ln, .int .i64 x.h.st, .int .i64 x.h.bd, .bool x.h.la, .int .u32 (x.h.lk : Int), .int .i64 x.h.sz, .slice x.a x.n x.cap, .int .u32 (x.s : Int)] 54)).heap.push _).size; rw [Array.size_push]; omega) (wr.heap.size + 1 + 1) (by show ((wr.alloc (.cells #[.int .i64 (x.at_ : Int), .int .i64 x.h.k, .int .i64 x.h.ix, .int .i64 x.h.ln, .int .i64 x.h.st, .int .i64 x.h.bd, .bool x.h.la, .int .u32 (x.h.lk : Int), .int .i64 x.h.sz, .slice x.a x.n x.cap, .int .u32 (x.s : Int)] 54)).heap.push _).size = _; rw [Array.size_push, hz1]) ?_))
  intro gg cap9 w9 how9 hg9 hat9 hlt9
  rw [ownBlock_slice] at hg9 hat9
  obtain ⟨hs9, hc9, hf9, hfr9⟩ := H1.out.add (HX.out.keep HB.out) (fun q hq' => by have := HQ.out q hq'; exact ⟨this.1, by rw [hz1]; omega, this.2.2⟩) ((Fr.refl (fun _ => False) _).alloc _) how9 hg9 (hat9.imp id fun e => by show ((wr.alloc (.cells #[.int .i64 (x.at_ : Int), .int .i64 x.h.k, .int .i64 x.h.ix, .int .i64 x.h.ln, .int .i64 x.h.st, .int .i64 x.h.bd, .bool x.h.la, .int .u32 (x.h.lk : Int), .int .i64 x.h.sz, .slice x.a x.n x.cap, .int .u32 (x.s : Int)] 54)).heap.push _).size ≤ gg; rw [Array.size_push, hz1]; omega)
  have HS9 := hid hs9
  have HF9 := hid ((((Fr.refl (fun q => q = g ∨ blk aa = some q) wr).alloc _)).trans hfr9)
  clear hfr9 hs9 how9 hg9 hat9 hi54 hz0 hz2 hz3 hrow y0 y1 y2 y3 y4 y5 y6 y7 y8 y9 y10 cc
  go_wp2_with fail
  go_end0
  exact ⟨rfl, ⟨_, _, _, HS9.out⟩, HF9.out⟩
/-- What Scan answers. -/
def ScP (w : World) (ty : Nat) (b : List Nat) (e : Ending) (w' : World) : Prop :=
  ∃ aa ca X, e = .returned (.slice aa (sc b 0).length ca) ∧ w'.ownsRow w.heap.size ty 11 (.slice aa (sc b 0).length ca) (sc b 0).length (fns X) ∧ Fs w' b (sc b 0) X ∧ Below w.heap.size w w'
theorem own_mono {w : World} {base base' : Nat} {e : TypeId} {size : Nat} {v : Value} {n : Nat} {xs : List Value} (h : w.ownsRow base e size v n xs) (hb : base' ≤ base) : w.ownsRow base' e size v n xs := by
  refine ⟨h.1, ?_⟩
  rcases h.2 with h2 | ⟨g, c, cur, hv, q1, q2⟩
  · exact .inl h2
  · exact .inr ⟨g, c, cur, hv, Nat.le_trans hb q1, q2⟩
set_option maxHeartbeats 4000000 in
set_option maxRecDepth 100000 in
theorem scan_any {w : World} {t : Nat} (ht : Crc.Tab w t) {ba : Option Addr} {b : List Nat} {bn bc : Nat} (hb : Byts w ba b) (hbn : b.length = bn) (hbc : bn ≤ bc) (hm : bn ≤ 1073741824) :
    Calls Try.prog 11 #[.pointer (some ⟨t, 0, none⟩), .slice ba bn bc] w (ScP w 54 b) := by
  have hbw := Head.below_new w (.cells #[.slice none 0 0] 29)
  have hz : (w.alloc (.cells #[.slice none 0 0] 29)).heap.size = w.heap.size + 1 := Array.size_push _
  have HE := hid (each_any 28 #[.pointer (some ⟨w.heap.size, 0, none⟩)] (fun args w => Try.call28 args w) (w := w.alloc (.cells #[.slice none 0 0] 29)) (t := t) (ba := ba) hbn hbc hm
    (fun S w' => ∃ aa ca X, SI w w.heap.size 54 b S aa ca X w')
    ⟨none, 0, [], heap_alloc_new w _, World.ownsRow_nil _ _ _ _, Fs.nil _ _, (fun j x h => by simp at h), hbw⟩
    (fun S w' ⟨aa, ca, X, h⟩ => ⟨ht.keep (h.bel.block t ht.lt), hb.keep h.bel⟩)
    (fun S w' w'' ⟨aa, ca, X, h⟩ hb' => ⟨aa, ca, X, h.keep hb'⟩)
    (fun S w0 w' p x ⟨aa, ca, X, h⟩ hb' hp ho hx hq hbl => by
      have hr := h.rows
      have hl := h.lt
      refine (scan1_any (h.keep hb') hx (fun q h1 => ?_) (by have := len_blen b S; omega)).mono ?_
      · have h2 := hq q h1
        exact ⟨by omega, h2.2, fun e => by have := (hr q e).2; omega⟩
      · rintro e w'' ⟨rfl, hs, hf⟩
        exact ⟨rfl, hs, fun k h1 h2 => hf.block k h2 (fun e => by
          rcases e with e | e
          · omega
          · have := (hr k e).2; omega)⟩))
  clear hb ht hbw
  go_enter Try.func11, Try.ntmps11
  go_wp2_with fail
  refine HE.out.mono ?_
  rintro e w2 ⟨rfl, aa, ca, X, hs⟩
  have cc : w2.cell? ⟨w.heap.size, 0, none⟩ = some (.slice aa (sc b 0).length ca) := Head.row_cell hs.c 0 rfl
  have HS := hid hs
  clear hs
  go_wp2_with fail
  go_ret
  exact ⟨aa, ca, X, rfl, own_mono HS.out.row (by omega), HS.out.fs, HS.out.bel⟩
end Go.Proofs.Ytgcnbeigchppfaa.Mnd
