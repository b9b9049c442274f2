/- Parse of the document: what stands in its walk over the blocks. No condition but those that each lemma names. -/
import Derived.Test.YthjjonbkfkpkmaaGreatDoorYxFt
import Derived.Test.YthjjonbkfkpkmaaGreatDoorYxJz
import Derived.Test.YthjjonbkfkpkmaaGreatDoorYxNj
import Derived.Test.YthjjonbkfkpkmaaGreatDoorYxR3
import Derived.Test.YthjjonbkfkpkmaaGreatDoorY29
import Derived.Test.YthjjonbkfkpkmaaGreatDoorYxOk
import Derived.Deep.MidRow
namespace Go.Proofs.YthjjonbkfkpkmaaGreatDoor.Fil
open Go.RowKit Gen
open Tl (il il_app rise TRt Tx)

/-- What stands in the document's walk over the blocks; w: the world in which it began, ba the bytes' place. -/
structure RJ (w : World) (gi gy : Nat) (i : Inf.If) (b : List Nat) (ba : Option Addr) (a1 : Option Addr) (n1 c1 : Nat) (tg : List Tg.Tag) (s : Ns) (ap : Option Addr) (cp : Nat) (ab : Option Addr) (cb : Nat) (X : List Bv) (wr : World) : Prop where
  bx : Inf.Bx wr gi i
  ob : wr.heap[gy]? = some (.cells (fcl i a1 n1 c1 ab s.n cb 0 0 none 0 0) 50 (0, 0))
  rz : wr.heap[w.heap.size]? = some (.cells fz 50 (0, 0))
  tg : Tg.Ow wr (w.heap.size + 1) a1 c1 tg
  tl : ∀ q, blk a1 = some q → q < gy
  po : wr.ownsRow (gy + 1) 3 1 (.slice ap s.n cp) s.n (il s.P)
  bo : wr.ownsRow (gy + 1) 102 11 (.slice ab s.n cb) s.n (bls X)
  xs : Xs wr b s.P X
  far : ∀ (j : Nat) (x : Bv), X[j]? = some x → ∀ q, blk x.a = some q → blk ba = some q
  d : ∀ q, blk ap = some q → blk ab ≠ some q
  bel : Below w.heap.size w wr
  gw : w.heap.size < gi ∧ gi < gy
  bl : ∀ q, blk ba = some q → q < w.heap.size
  ok : NsOk b s
section
variable {w wr w' : World} {gi gy : Nat} {i : Inf.If} {b : List Nat} {ba a1 : Option Addr} {n1 c1 : Nat} {tg : List Tg.Tag} {s : Ns} {ap : Option Addr} {cp : Nat} {ab : Option Addr} {cb : Nat} {X : List Bv}
set_option maxRecDepth 100000 in
theorem RJ.gyl (h : RJ w gi gy i b ba a1 n1 c1 tg s ap cp ab cb X wr) : gy < wr.heap.size := World.block_lt_of_cell? _ _ (Inf.row_cell h.ob 0 rfl)
set_option maxRecDepth 100000 in
theorem RJ.more (h : RJ w gi gy i b ba a1 n1 c1 tg s ap cp ab cb X wr) (hb : Below wr.heap.size wr w') : RJ w gi gy i b ba a1 n1 c1 tg s ap cp ab cb X w' :=
  ⟨h.bx.below hb h.bx.lt, (hb.block gy h.gyl).trans h.ob, (hb.block _ (World.block_lt_of_cell? _ _ (Inf.row_cell h.rz 0 rfl))).trans h.rz, ownsRow_block h.tg fun q hq => hb.block q (h.tg.lt q (by rw [ownBlock_slice]; exact hq)).2, h.tl,
    ownsRow_block h.po fun q hq => hb.block q (own_in h.po q hq).2, ownsRow_block h.bo fun q hq => hb.block q (h.bo.lt q (by rw [ownBlock_slice]; exact hq)).2, h.xs.keep hb, h.far, h.d, h.bel.trans (hb.mono h.bel.size), h.gw, h.bl, h.ok⟩
end
set_option maxRecDepth 100000 in
theorem info102 : (Tryz.prog.info? 102).map (fun i => (i.zero, i.size, i.bytes)) = some (some (.agg #[.int .i64 0, .int .i64 0, .int .i64 0, .int .i64 0, .int .i64 0, .bool false, .int .u32 0, .int .i64 0, .slice none 0 0, .int .u32 0, .int .i64 0]), 11, 96) := by kernel_rfl
set_option maxRecDepth 100000 in
theorem size102 : (Tryz.prog.info? 102).map (·.size) = some 11 := by kernel_rfl
set_option maxRecDepth 100000 in
theorem size50 : (Tryz.prog.info? 50).map (·.size) = some 11 := by kernel_rfl
end Go.Proofs.YthjjonbkfkpkmaaGreatDoor.Fil
namespace Go.Proofs.YthjjonbkfkpkmaaGreatDoor.Fil
open Go.RowKit Gen
open Tl (il il_app rise TRt Tx)

/-- What stands in memory: the blocks, the places, each with its own number. -/
structure RK (w : World) (gi gy : Nat) (i : Inf.If) (a1 : Option Addr) (n1 c1 : Nat) (tg : List Tg.Tag) (n : Nat) (P : List Int) (ap : Option Addr) (cp : Nat) (nb : Nat) (ab : Option Addr) (cb : Nat) (X : List Bv) (wr : World) : Prop where
  bx : Inf.Bx wr gi i
  ob : wr.heap[gy]? = some (.cells (fcl i a1 n1 c1 ab nb cb 0 0 none 0 0) 50 (0, 0))
  rz : wr.heap[w.heap.size]? = some (.cells fz 50 (0, 0))
  tg : Tg.Ow wr (w.heap.size + 1) a1 c1 tg
  tl : ∀ q, blk a1 = some q → q < gy
  po : wr.ownsRow (gy + 1) 3 1 (.slice ap n cp) n (il P)
  bo : wr.ownsRow (gy + 1) 102 11 (.slice ab nb cb) nb (bls X)
  d : ∀ q, blk ap = some q → blk ab ≠ some q
  bel : Below w.heap.size w wr
  gw : w.heap.size < gi ∧ gi < gy
section
variable {w wr w' : World} {gi gy : Nat} {i : Inf.If} {b : List Nat} {ba a1 : Option Addr} {n1 c1 : Nat} {tg : List Tg.Tag} {s : Ns} {P : List Int} {n nb : Nat} {ap : Option Addr} {cp : Nat} {ab : Option Addr} {cb : Nat} {X : List Bv}
set_option maxRecDepth 100000 in
theorem RJ.rk (h : RJ w gi gy i b ba a1 n1 c1 tg s ap cp ab cb X wr) : RK w gi gy i a1 n1 c1 tg s.n s.P ap cp s.n ab cb X wr :=
  ⟨h.bx, h.ob, h.rz, h.tg, h.tl, h.po, h.bo, h.d, h.bel, h.gw⟩
set_option maxRecDepth 100000 in
theorem RK.gyl (h : RK w gi gy i a1 n1 c1 tg n P ap cp nb ab cb X wr) : gy < wr.heap.size := World.block_lt_of_cell? _ _ (Inf.row_cell h.ob 0 rfl)
set_option maxRecDepth 100000 in
theorem RK.abq (h : RK w gi gy i a1 n1 c1 tg n P ap cp nb ab cb X wr) : ∀ q, blk ab = some q → gy + 1 ≤ q ∧ q < wr.heap.size := fun q hq => h.bo.lt q (by rw [ownBlock_slice]; exact hq)
set_option maxRecDepth 100000 in
theorem RK.apq (h : RK w gi gy i a1 n1 c1 tg n P ap cp nb ab cb X wr) : ∀ q, blk ap = some q → gy + 1 ≤ q ∧ q < wr.heap.size := fun q hq => own_in h.po q hq
set_option maxRecDepth 100000 in
theorem RK.tgq (h : RK w gi gy i a1 n1 c1 tg n P ap cp nb ab cb X wr) : ∀ q, blk a1 = some q → w.heap.size + 1 ≤ q ∧ q < wr.heap.size := fun q hq => h.tg.lt q (by rw [ownBlock_slice]; exact hq)

set_option maxRecDepth 100000 in
/-- A block is appended. -/
theorem RK.block (h : RK w gi gy i a1 n1 c1 tg n P ap cp nb ab cb X wr) {x : Bv} {o : Obj} {w9 : World} {gg cap9 : Nat}
    (how : w9.ownsRow (gy + 1) 102 11 (.slice (some ⟨gg, 0, none⟩) (nb + 1) cap9) (nb + 1) (bls X ++ bvl x)) (hg : (wr.alloc o).grownBy w9 (blk ab)) (hat : blk ab = some gg ∨ gg = wr.heap.size + 1) :
    RK w gi gy i a1 n1 c1 tg n P ap cp (nb + 1) (some ⟨gg, 0, none⟩) cap9 (X ++ [x]) (w9.setCell ⟨gy, 7, none⟩ (.slice (some ⟨gg, 0, none⟩) (nb + 1) cap9)) ∧
      Fr (fun q => q = gy ∨ blk ab = some q) wr (w9.setCell ⟨gy, 7, none⟩ (.slice (some ⟨gg, 0, none⟩) (nb + 1) cap9)) ∧
      w9.cell? ⟨gy, 7, none⟩ = some (.slice ab nb cb) ∧ w9.frozen? ⟨gy, 7, none⟩ = false ∧ Fr (fun q => blk ab = some q) wr w9 := by
  have hz : (wr.alloc o).heap.size = wr.heap.size + 1 := Array.size_push _
  have hfr : Fr (fun q => blk ab = some q) wr w9 := ((Fr.refl _ wr).alloc _).grown hg (fun q hq _ => hq)
  have hgab : ¬ blk ab = some gy := fun e => by have := (h.abq gy e).1; omega
  have hob9 := (hfr.block gy h.gyl hgab).trans h.ob
  have hfr2 : Fr (fun q => q = gy ∨ blk ab = some q) wr (w9.setCell ⟨gy, 7, none⟩ (.slice (some ⟨gg, 0, none⟩) (nb + 1) cap9)) := (hfr.mono (Y := fun q => q = gy ∨ blk ab = some q) fun _ _ h => Or.inr h).setCell (p := ⟨gy, 7, none⟩) (Or.inl rfl) _
  have hggy : gg ≠ gy := fun e => by
    rcases hat with h' | h'
    · have := (h.abq gg h').1; omega
    · have := h.gyl; omega
  have hgi := h.gw
  refine ⟨⟨⟨(hfr2.block gi h.bx.lt (fun e => ?_)).trans h.bx.row⟩, ?_, (hfr2.block _ (World.block_lt_of_cell? _ _ (Inf.row_cell h.rz 0 rfl)) (fun e => ?_)).trans h.rz, ownsRow_block h.tg fun q hq => hfr2.block q (h.tgq q hq).2 (fun e => ?_), h.tl, ownsRow_block h.po fun q hq => hfr2.block q (h.apq q hq).2 (fun e => ?_), ?_, fun q hq e => ?_, h.bel.trans ⟨hfr2.os, hfr2.tape, hfr2.output, hfr2.size, fun q hq => hfr2.block q (Nat.lt_of_lt_of_le hq h.bel.size) (fun e => ?_)⟩, h.gw⟩, hfr2, Inf.row_cell hob9 7 rfl, Inf.row_frozen hob9 7, hfr⟩
  · rcases e with e | e
    · omega
    · have := (h.abq gi e).1; omega
  · rw [heap_setCell_same w9 gy 7 _ _ _ hob9]; rfl
  · have hwq : w.heap.size < gy := Nat.lt_trans hgi.1 hgi.2
    rcases e with e | e
    · exact Nat.lt_irrefl _ (e ▸ hwq)
    · have h1 : gy + 1 ≤ w.heap.size := (h.abq _ e).1
      omega
  · have h1 := h.tl q hq
    rcases e with e | e
    · omega
    · have := (h.abq q e).1; omega
  · have h1 := (h.apq q hq).1
    rcases e with e | e
    · omega
    · exact h.d q hq e
  · have e1 : bls (X ++ [x]) = bls X ++ bvl x := by rw [bls_app]; show _ ++ (bvl _ ++ []) = _; rw [List.append_nil]
    rw [e1]
    exact ownsRow_block how fun q hq => RowKit.Below.heap_setCell _ _ _ _ (fun e => hggy ((show gg = q by simpa [blk] using hq).trans e))
  · have e2 : gg = q := by simpa [blk] using e
    rcases hat with h' | h'
    · exact h.d q hq (by rw [h', e2])
    · have := (h.apq q hq).2; omega
  · rcases e with e | e
    · omega
    · have := (h.abq q e).1; omega
set_option maxRecDepth 100000 in
/-- A place is appended. -/
theorem RK.place (h : RK w gi gy i a1 n1 c1 tg n P ap cp nb ab cb X wr) {p : Int} {o : Obj} {w9 : World} {gg cap9 : Nat}
    (how : w9.ownsRow (gy + 1) 3 1 (.slice (some ⟨gg, 0, none⟩) (n + 1) cap9) (n + 1) (il P ++ [.int .i64 p])) (hk : Kept (wr.alloc o) w9 (blk ap) n gg) :
    RK w gi gy i a1 n1 c1 tg (n + 1) (P ++ [p]) (some ⟨gg, 0, none⟩) cap9 nb ab cb X w9 ∧ Fr (fun q => blk ap = some q) wr w9 := by
  have hz : (wr.alloc o).heap.size = wr.heap.size + 1 := Array.size_push _
  have hfr : Fr (fun q => blk ap = some q) wr w9 := ((Fr.refl _ wr).alloc _).grown hk.grown (fun q hq _ => hq)
  have hgi := h.gw
  refine ⟨⟨⟨(hfr.block gi h.bx.lt (fun e => ?_)).trans h.bx.row⟩, (hfr.block gy h.gyl (fun e => ?_)).trans h.ob, (hfr.block _ (World.block_lt_of_cell? _ _ (Inf.row_cell h.rz 0 rfl)) (fun e => ?_)).trans h.rz, ownsRow_block h.tg fun q hq => hfr.block q (h.tgq q hq).2 (fun e => ?_), h.tl, ?_, ownsRow_block h.bo fun q hq => hfr.block q (h.abq q hq).2 (fun e => h.d q e hq), fun q hq e => ?_, h.bel.trans ⟨hfr.os, hfr.tape, hfr.output, hfr.size, fun q hq => hfr.block q (Nat.lt_of_lt_of_le hq h.bel.size) (fun e => ?_)⟩, h.gw⟩, hfr⟩
  · have := (h.apq gi e).1; omega
  · have := (h.apq gy e).1; omega
  · have h1 : gy + 1 ≤ w.heap.size := (h.apq _ e).1
    omega
  · have h1 := h.tl q hq
    have := (h.apq q e).1; omega
  · rw [il_app]; exact how
  · have e2 : gg = q := by simpa [blk] using hq
    rcases hk.at_ with h' | h'
    · exact h.d q (by rw [h', e2]) e
    · have := (h.abq q e).2; rw [hz] at h'; omega
  · have := (h.apq q e).1; omega
set_option maxRecDepth 100000 in
theorem Xs.stay {S : Nat → Prop} (h : Xs w b P X) (hf : Fr S w w') (hx : ∀ (j : Nat) (x : Bv), X[j]? = some x → ∀ q, blk x.a = some q → ¬ S q) : Xs w' b P X :=
  ⟨h.len, fun j x hj => by
    obtain ⟨a, ha, k⟩ := h.ok j x hj
    exact ⟨a, ha, k.h, k.n, k.p.stay hf (fun q off e => hx j x hj q (by rw [e]; rfl)), k.s, k.e⟩⟩
end
set_option maxRecDepth 100000 in
theorem cells_new1 (w : World) (l : List Value) (t : TypeId) : ∀ j u, l[j]? = some u → (w.alloc (.cells l.toArray t)).cell? ((⟨w.heap.size, 0, none⟩ : Addr).add j) = some u := fun j u h => cells_new w l t j u h
set_option maxRecDepth 100000 in
theorem cell_newp {w : World} (u : Value) (t : TypeId) : (w.alloc (.cells #[u] t)).cell? ⟨w.heap.size, 0, none⟩ = some u := by
  have h := heap_alloc_new w (.cells #[u] t)
  unfold World.cell?
  rw [h]
  rfl
set_option maxRecDepth 100000 in
theorem wr_2 {a : Nat} (h : a ≤ 1073741824) : wrap64 ((a : Int) + 36) = (a : Int) + 36 := IntWalk.wrap64_in _ (by omega)
set_option maxRecDepth 100000 in
theorem wr_3 {a z : Nat} (h : a ≤ 1073741824) (hz : z ≤ 1073741824) : wrap64 ((a : Int) + 36 + (z : Int)) = (a : Int) + 36 + (z : Int) := IntWalk.wrap64_in _ (by omega)
set_option maxRecDepth 100000 in
theorem wr_4 {a : Nat} (h : a ≤ 1073741824) : wrap64 ((a : Int) + 1) = (a : Int) + 1 := IntWalk.wrap64_in _ (by omega)
set_option maxRecDepth 100000 in
theorem wr_1 {c l : Int} {n : Nat} (h : 0 ≤ c ∧ c ≤ 65536 * (n : Int)) (hn : n ≤ 1073741824) (h1 : 1 ≤ l) (h2 : l ≤ 65536) : wrap64 (c + l) = c + l := IntWalk.wrap64_in _ (by omega)
set_option maxRecDepth 100000 in
theorem tge_np {l : List Nat} (h : Tl.tgE l = 0) : Tl.np l ≤ 16777216 := by
  have h1 : Tl.lgE l = 0 := by
    unfold Tl.tgE at h
    by_cases h1 : Tl.lgE l = 0
    · exact h1
    · by_cases h0 : Tl.tBgn l
      · rw [if_neg (fun e => e h0), if_pos h1] at h; exact h
      · rw [if_pos h0] at h; exact absurd h (by decide)
  exact (Tl.lge_ok h1).1
set_option maxRecDepth 100000 in
theorem wr_5 {a m M : Nat} (h : a ≤ 1073741824) (hm : m ≤ 16777216) (hM : 18 + 5 * m = M) : wrap64 ((a : Int) + (M : Int)) = (a : Int) + (M : Int) := IntWalk.wrap64_in _ (by omega)
section
variable {w wr w' : World} {gi gy : Nat} {i : Inf.If} {b : List Nat} {ba a1 : Option Addr} {n1 c1 : Nat} {tg : List Tg.Tag} {s : Ns} {P : List Int} {n nb : Nat} {ap : Option Addr} {cp : Nat} {ab : Option Addr} {cb : Nat} {X : List Bv}
set_option maxRecDepth 100000 in
/-- The tail is set. -/
theorem RK.tail (h : RK w gi gy i a1 n1 c1 tg n P ap cp nb ab cb X wr) (k1 k2 : Nat) (ax : Option Addr) (m cx : Nat) :
    (wr.setCells gy 8 #[.int .i64 (k1 : Int), .int .u32 (k2 : Int), .slice ax m cx].toList).heap[gy]? = some (.cells (fcl i a1 n1 c1 ab nb cb k1 k2 ax m cx) 50 (0, 0)) ∧
      Fr (fun q => q = gy) wr (wr.setCells gy 8 #[.int .i64 (k1 : Int), .int .u32 (k2 : Int), .slice ax m cx].toList) := by
  have e : wr.setCells gy 8 #[.int .i64 (k1 : Int), .int .u32 (k2 : Int), .slice ax m cx].toList = ((wr.setCell ⟨gy, 8, none⟩ (.int .i64 (k1 : Int))).setCell ⟨gy, 9, none⟩ (.int .u32 (k2 : Int))).setCell ⟨gy, 10, none⟩ (.slice ax m cx) := rfl
  rw [e]
  have h1 := heap_setCell_same wr gy 8 _ _ (.int .i64 (k1 : Int)) h.ob
  have h2 := heap_setCell_same _ gy 9 _ _ (.int .u32 (k2 : Int)) h1
  have h3 := heap_setCell_same _ gy 10 _ _ (.slice ax m cx) h2
  exact ⟨h3, (((Fr.refl (fun q => q = gy) wr).setCell (p := ⟨gy, 8, none⟩) rfl _).setCell (p := ⟨gy, 9, none⟩) rfl _).setCell (p := ⟨gy, 10, none⟩) rfl _⟩
set_option maxRecDepth 100000 in
theorem RK.there (h : RK w gi gy i a1 n1 c1 tg n P ap cp nb ab cb X wr) (v : Array Value) (hv : v.size = 3) : wr.there gy 8 v.size := by
  intro j hj
  rw [hv] at hj
  refine ⟨?_, Inf.row_frozen h.ob _⟩
  rcases j with _ | _ | _ | j
  · rw [Inf.row_cell h.ob 8 rfl]; rfl
  · rw [Inf.row_cell h.ob 9 rfl]; rfl
  · rw [Inf.row_cell h.ob 10 rfl]; rfl
  · omega
end
end Go.Proofs.YthjjonbkfkpkmaaGreatDoor.Fil
