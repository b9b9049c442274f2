/- Back: a file of the program's as one of the document's. Conditions: at most 2^30 blocks. -/
import Derived.Test.YthjjonbkfkpkmaaDoorY29
import Derived.Test.YthjjonbkfkpkmaaDoorYxFq
namespace Go.Proofs.YthjjonbkfkpkmaaDoor.Fil
open Go.RowKit Gen
open Tl (il il_app rise TRt Tx)
attribute [local go_sem] Oper.semAt_some

set_option maxRecDepth 100000 in
/-- A result that lies in one cell's block. -/
theorem res_c1 {P : Program} {fn : Func} {p : Tmp} {ty : TypeId} (h : fn.results = #[.cell p ty]) (tmps : Array Value) (w : World) (g : Nat) (t : TypeId) (cs : Array Value) (fr : Nat × Nat) (d : TypeDesc)
    (hp : tmps.getD p undef = .pointer (some ⟨g, 0, none⟩)) (hg : w.heap[g]? = some (.cells cs t fr))
    (hu : P.underlying ty = some d) (hd : (match d with | .struct _ | .array _ _ => true | _ => false) = true) (hi : (P.info? ty).map (·.size) = some cs.size) :
    (results fn tmps).run P w = .ok (.agg cs) w := by
  have hp' : tmps[p]?.getD undef = .pointer (some ⟨g, 0, none⟩) := by simpa using hp
  simp only [results, h]
  simp [hp', asAddr, run_loadVar_row w g t ty cs fr d hg hu hd hi]
/-- What stands in Back's loop; w: the world in which it began. -/
structure BkI (w : World) (i : Inf.If) (a1 : Option Addr) (n1 c1 : Nat) (a2 : Option Addr) (n2 c2 : Nat) (ct : Int) (sm : Nat) (a3 : Option Addr) (n3 c3 : Nat) (k : Nat) (ab : Option Addr) (cb : Nat) (X : List Bv) (wr : World) : Prop where
  ib : wr.heap[w.heap.size]? = some (.cells (fcl i a1 n1 c1 a2 n2 c2 ct sm a3 n3 c3) 43 (0, 0))
  rz : wr.heap[w.heap.size + 1]? = some (.cells #[.int .i64 0, .int .i64 0, .int .i64 0, .int .i64 0, .int .i64 0, .int .i64 0, .slice none 0 0, .slice none 0 0, .int .i64 0, .int .u32 0, .slice none 0 0] 50 (0, 0))
  ob : wr.heap[w.heap.size + 2]? = some (.cells (fcl i a1 n1 c1 ab k cb ct sm a3 n3 c3) 50 (0, 0))
  bo : wr.ownsRow (w.heap.size + 3) 85 11 (.slice ab k cb) k (bls (X.take k))
  bel : Below w.heap.size w wr
section
variable {w wr w' : World} {i : Inf.If} {a1 : Option Addr} {n1 c1 : Nat} {a2 : Option Addr} {n2 c2 : Nat} {ct : Int} {sm : Nat} {a3 : Option Addr} {n3 c3 k : Nat} {ab : Option Addr} {cb : Nat} {X : List Bv}
set_option maxRecDepth 100000 in
theorem BkI.lt (h : BkI w i a1 n1 c1 a2 n2 c2 ct sm a3 n3 c3 k ab cb X wr) : w.heap.size + 2 < wr.heap.size := World.block_lt_of_cell? _ _ (Inf.row_cell h.ob 0 rfl)
set_option maxRecDepth 100000 in
/-- A block is appended. -/
theorem BkI.block (h : BkI w i a1 n1 c1 a2 n2 c2 ct sm a3 n3 c3 k ab cb X wr) {x : Bv} (hx : X[k]? = some x) {w0 w9 : World} (hf0 : Fr (fun _ => False) wr w0) {gg cap9 : Nat}
    (how : w9.ownsRow (w.heap.size + 3) 85 11 (.slice (some ⟨gg, 0, none⟩) (k + 1) cap9) (k + 1) (bls (X.take k) ++ bvl x)) (hg : w0.grownBy w9 (blk ab)) (hat : blk ab = some gg ∨ w0.heap.size ≤ gg) :
    BkI w i a1 n1 c1 a2 n2 c2 ct sm a3 n3 c3 (k + 1) (some ⟨gg, 0, none⟩) cap9 X (w9.setCell ⟨w.heap.size + 2, 7, none⟩ (.slice (some ⟨gg, 0, none⟩) (k + 1) cap9)) ∧
      w9.cell? ⟨w.heap.size + 2, 7, none⟩ = some (.slice ab k cb) ∧ w9.frozen? ⟨w.heap.size + 2, 7, none⟩ = false := by
  have hlt := h.lt
  have habq : ∀ q, blk ab = some q → w.heap.size + 3 ≤ q := fun q hq => (h.bo.lt q (by rw [ownBlock_slice]; exact hq)).1
  have hfr : Fr (fun q => blk ab = some q) wr w9 := (hf0.mono (Y := fun q => blk ab = some q) (fun _ _ h => h.elim)).grown hg (fun q hq _ => hq)
  have hn : ∀ q, q ≤ w.heap.size + 2 → ¬ blk ab = some q := fun q hq e => by have := habq q e; omega
  have hob9 := (hfr.block _ hlt (hn _ (Nat.le_refl _))).trans h.ob
  have hgg : gg ≠ w.heap.size + 2 := fun e => by
    rcases hat with h' | h'
    · have := habq gg h'; omega
    · have := hf0.size; omega
  have hfr2 : Fr (fun q => q = w.heap.size + 2 ∨ blk ab = some q) wr (w9.setCell ⟨w.heap.size + 2, 7, none⟩ (.slice (some ⟨gg, 0, none⟩) (k + 1) cap9)) := (hfr.mono (Y := fun q => q = w.heap.size + 2 ∨ blk ab = some q) fun _ _ h => Or.inr h).setCell (p := ⟨w.heap.size + 2, 7, none⟩) (Or.inl rfl) _
  refine ⟨⟨(hfr2.block _ (by omega) (fun e => ?_)).trans h.ib, (hfr2.block _ (by omega) (fun e => ?_)).trans h.rz, ?_, ?_, h.bel.trans ⟨hfr2.os, hfr2.tape, hfr2.output, hfr2.size, fun q hq => hfr2.block q (by omega) (fun e => ?_)⟩⟩, Inf.row_cell hob9 7 rfl, Inf.row_frozen hob9 7⟩
  · rcases e with e | e
    · omega
    · exact hn _ (by omega) e
  · rcases e with e | e
    · omega
    · exact hn _ (by omega) e
  · rw [heap_setCell_same w9 (w.heap.size + 2) 7 _ _ _ hob9]; rfl
  · have e1 : bls (X.take (k + 1)) = bls (X.take k) ++ bvl x := by
      rw [List.take_add_one, hx, bls_app]
      show _ ++ (bvl _ ++ []) = _
      rw [List.append_nil]
    rw [e1]
    exact ownsRow_block how fun q hq => RowKit.Below.heap_setCell _ _ _ _ (fun e => hgg ((show gg = q by simpa [blk] using hq).trans e))
  · rcases e with e | e
    · omega
    · exact hn _ (by omega) e
end
def BackP (w : World) (i : Inf.If) (a1 : Option Addr) (n1 c1 n2 : Nat) (ct : Int) (sm : Nat) (a3 : Option Addr) (n3 c3 : Nat) (X : List Bv) (e : Ending) (w' : World) : Prop :=
  ∃ ab cb, e = .returned (.agg (fcl i a1 n1 c1 ab n2 cb ct sm a3 n3 c3)) ∧ BsAt w' ab X ∧ Below w.heap.size w w'

set_option maxHeartbeats 4000000 in
set_option maxRecDepth 100000 in
theorem back_any {w : World} {i : Inf.If} {a1 : Option Addr} {n1 c1 : Nat} {a2 : Option Addr} {n2 c2 : Nat} {ct : Int} {sm : Nat} {a3 : Option Addr} {n3 c3 : Nat} {X : List Bv} (hX : X.length = n2) (hb : BsAt w a2 X) (hn : n2 ≤ 1073741824) :
    Calls Tryd.prog 12 #[.agg (fcl i a1 n1 c1 a2 n2 c2 ct sm a3 n3 c3)] w (BackP w i a1 n1 c1 n2 ct sm a3 n3 c3 X) := by
  have hbw := Inf.below_new w (.cells (fcl i a1 n1 c1 a2 n2 c2 ct sm a3 n3 c3) 43)
  have HX := hid (cells_fcl w 43 i a1 n1 c1 a2 n2 c2 ct sm a3 n3 c3)
  have HBS := hid hb
  have hz1 : (w.alloc (.cells (fcl i a1 n1 c1 a2 n2 c2 ct sm a3 n3 c3) 43)).heap.size = w.heap.size + 1 := Array.size_push _
  have hbw2 := Inf.below_new (w.alloc (.cells (fcl i a1 n1 c1 a2 n2 c2 ct sm a3 n3 c3) 43)) (.cells #[.int .i64 0, .int .i64 0, .int .i64 0, .int .i64 0, .int .i64 0, .int .i64 0, .slice none 0 0, .slice none 0 0, .int .i64 0, .int .u32 0, .slice none 0 0] 50)
  have HX2 := hid ((hbw2.block w.heap.size (by rw [hz1]; omega)).trans HX.out)
  have HR2 := hid (show ((w.alloc (.cells (fcl i a1 n1 c1 a2 n2 c2 ct sm a3 n3 c3) 43)).alloc (.cells #[.int .i64 0, .int .i64 0, .int .i64 0, .int .i64 0, .int .i64 0, .int .i64 0, .slice none 0 0, .slice none 0 0, .int .i64 0, .int .u32 0, .slice none 0 0] 50)).heap[w.heap.size + 1]? = some (.cells #[.int .i64 0, .int .i64 0, .int .i64 0, .int .i64 0, .int .i64 0, .int .i64 0, .slice none 0 0, .slice none 0 0, .int .i64 0, .int .u32 0, .slice none 0 0] 50 (0, 0)) from hz1 ▸ heap_alloc_new (w.alloc (.cells (fcl i a1 n1 c1 a2 n2 c2 ct sm a3 n3 c3) 43)) (.cells #[.int .i64 0, .int .i64 0, .int .i64 0, .int .i64 0, .int .i64 0, .int .i64 0, .slice none 0 0, .slice none 0 0, .int .i64 0, .int .u32 0, .slice none 0 0] 50))
  have hz2 : ((w.alloc (.cells (fcl i a1 n1 c1 a2 n2 c2 ct sm a3 n3 c3) 43)).alloc (.cells #[.int .i64 0, .int .i64 0, .int .i64 0, .int .i64 0, .int .i64 0, .int .i64 0, .slice none 0 0, .slice none 0 0, .int .i64 0, .int .u32 0, .slice none 0 0] 50)).heap.size = w.heap.size + 2 := by rw [show ((w.alloc (.cells (fcl i a1 n1 c1 a2 n2 c2 ct sm a3 n3 c3) 43)).alloc (.cells #[.int .i64 0, .int .i64 0, .int .i64 0, .int .i64 0, .int .i64 0, .int .i64 0, .slice none 0 0, .slice none 0 0, .int .i64 0, .int .u32 0, .slice none 0 0] 50)).heap.size = (w.alloc (.cells (fcl i a1 n1 c1 a2 n2 c2 ct sm a3 n3 c3) 43)).heap.size + 1 from Array.size_push _, hz1]
  have HB2 := hid (hbw.trans (hbw2.mono hbw.size))
  have HXL := hid hX
  have HSZ := hid hz2
  clear hbw hb hX hbw2 HX
  go_enter Tryd.func12, Tryd.ntmps12
  have x0 := Inf.row_cell HX2.out 0 rfl
  have x1 := Inf.row_cell HX2.out 1 rfl
  have x2 := Inf.row_cell HX2.out 2 rfl
  have x3 := Inf.row_cell HX2.out 3 rfl
  have x4 := Inf.row_cell HX2.out 4 rfl
  have x5 := Inf.row_cell HX2.out 5 rfl
  have x6 := Inf.row_cell HX2.out 6 rfl
  have x8 := Inf.row_cell HX2.out 8 rfl
  have x9 := Inf.row_cell HX2.out 9 rfl
  have x10 := Inf.row_cell HX2.out 10 rfl
  go_wp2_with fail
  have hbw3 := Inf.below_new ((w.alloc (.cells (fcl i a1 n1 c1 a2 n2 c2 ct sm a3 n3 c3) 43)).alloc (.cells #[.int .i64 0, .int .i64 0, .int .i64 0, .int .i64 0, .int .i64 0, .int .i64 0, .slice none 0 0, .slice none 0 0, .int .i64 0, .int .u32 0, .slice none 0 0] 50)) (.cells #[.int .i64 i.k, .int .i64 i.f.ch, .int .i64 i.f.bits, .int .i64 i.f.rate, .int .i64 i.bk, .int .i64 i.sh, .slice a1 n1 c1, .slice none 0 0, .int .i64 ct, .int .u32 (sm : Int), .slice a3 n3 c3] 50)
  have HBK0 := hid (show BkI w i a1 n1 c1 a2 n2 c2 ct sm a3 n3 c3 0 none 0 X (((w.alloc (.cells (fcl i a1 n1 c1 a2 n2 c2 ct sm a3 n3 c3) 43)).alloc (.cells #[.int .i64 0, .int .i64 0, .int .i64 0, .int .i64 0, .int .i64 0, .int .i64 0, .slice none 0 0, .slice none 0 0, .int .i64 0, .int .u32 0, .slice none 0 0] 50)).alloc (.cells #[.int .i64 i.k, .int .i64 i.f.ch, .int .i64 i.f.bits, .int .i64 i.f.rate, .int .i64 i.bk, .int .i64 i.sh, .slice a1 n1 c1, .slice none 0 0, .int .i64 ct, .int .u32 (sm : Int), .slice a3 n3 c3] 50)) from ⟨(hbw3.block _ (by rw [hz2]; omega)).trans HX2.out, (hbw3.block _ (by rw [hz2]; omega)).trans HR2.out, hz2 ▸ heap_alloc_new ((w.alloc (.cells (fcl i a1 n1 c1 a2 n2 c2 ct sm a3 n3 c3) 43)).alloc (.cells #[.int .i64 0, .int .i64 0, .int .i64 0, .int .i64 0, .int .i64 0, .int .i64 0, .slice none 0 0, .slice none 0 0, .int .i64 0, .int .u32 0, .slice none 0 0] 50)) (.cells #[.int .i64 i.k, .int .i64 i.f.ch, .int .i64 i.f.bits, .int .i64 i.f.rate, .int .i64 i.bk, .int .i64 i.sh, .slice a1 n1 c1, .slice none 0 0, .int .i64 ct, .int .u32 (sm : Int), .slice a3 n3 c3] 50), World.ownsRow_nil _ _ _ _, HB2.out.trans (hbw3.mono HB2.out.size)⟩)
  clear x0 x1 x2 x3 x4 x5 x6 x8 x9 x10 hbw3 HX2 HR2 HB2 hz1 hz2
  generalize (((w.alloc (.cells (fcl i a1 n1 c1 a2 n2 c2 ct sm a3 n3 c3) 43)).alloc (.cells #[.int .i64 0, .int .i64 0, .int .i64 0, .int .i64 0, .int .i64 0, .int .i64 0, .slice none 0 0, .slice none 0 0, .int .i64 0, .int .u32 0, .slice none 0 0] 50)).alloc (.cells #[.int .i64 i.k, .int .i64 i.f.ch, .int .i64 i.f.bits, .int .i64 i.f.rate, .int .i64 i.bk, .int .i64 i.sh, .slice a1 n1 c1, .slice none 0 0, .int .i64 ct, .int .u32 (sm : Int), .slice a3 n3 c3] 50)) = w3 at *
  go_loopg [4] n2 (fun gh vk wr => ∃ (k : Nat) (ab : Option Addr) (cb : Nat), k ≤ n2 ∧ gh = n2 - k ∧ vk = .int .i64 (k : Int) ∧ BkI w i a1 n1 c1 a2 n2 c2 ct sm a3 n3 c3 k ab cb X wr)
  case atStart => exact ⟨0, none, 0, Nat.zero_le _, rfl, rfl, HBK0.out⟩
  case round =>
    clear HBK0
    obtain ⟨k, ab, cb, hk, hgh, rfl, hbk⟩ := hrel
    have HG := hid hgh
    have HBK := hid hbk
    clear hgh hbk
    have y7 := Inf.row_cell HBK.out.ib 7 rfl
    have z7 := Inf.row_cell HBK.out.ob 7 rfl
    have z7f := Inf.row_frozen HBK.out.ob 7
    by_cases hlt : k < n2
    · have hlt2 : (k : Int) < (n2 : Int) := by omega
      obtain ⟨x, hx⟩ : ∃ x, X[k]? = some x := ⟨_, List.getElem?_eq_getElem (by rw [HXL.out]; exact hlt)⟩
      obtain ⟨g, rfl, hcell⟩ := (HBS.out.keep HBK.out.bel).c k x hx
      have HCE := hid hcell
      have HXM := hid hx
      clear hcell hx
      have f0 : wr.cell? ⟨g, k * 11, none⟩ = some (.int .i64 x.h.k) := HCE.out 0 _ rfl
      have f1 : wr.cell? ⟨g, k * 11 + 1, none⟩ = some (.int .i64 x.h.ix) := HCE.out 1 _ rfl
      have f2 : wr.cell? ⟨g, k * 11 + 2, none⟩ = some (.int .i64 x.h.ln) := HCE.out 2 _ rfl
      have f3 : wr.cell? ⟨g, k * 11 + 3, none⟩ = some (.int .i64 x.h.st) := HCE.out 3 _ rfl
      have f4 : wr.cell? ⟨g, k * 11 + 4, none⟩ = some (.int .i64 x.h.bd) := HCE.out 4 _ rfl
      have f5 : wr.cell? ⟨g, k * 11 + 5, none⟩ = some (.bool x.h.la) := HCE.out 5 _ rfl
      have f6 : wr.cell? ⟨g, k * 11 + 6, none⟩ = some (.int .u32 (x.h.lk : Int)) := HCE.out 6 _ rfl
      have f7 : wr.cell? ⟨g, k * 11 + 7, none⟩ = some (.int .i64 x.h.sz) := HCE.out 7 _ rfl
      have f8 : wr.cell? ⟨g, k * 11 + 8, none⟩ = some (.slice x.a x.n x.cap) := HCE.out 8 _ rfl
      have f9 : wr.cell? ⟨g, k * 11 + 9, none⟩ = some (.int .u32 (x.s : Int)) := HCE.out 9 _ rfl
      have f10 : wr.cell? ⟨g, k * 11 + 10, none⟩ = some (.int .i64 (x.at_ : Int)) := HCE.out 10 _ rfl
      have hbow := HBK.out.bo
      have hgl := HBK.out.lt
      have hk1 : wrap64 ((k : Int) + 1) = (k : Int) + 1 := wr_4 (by omega)
      obtain ⟨i102, hi102, hz0, hz1, hz2⟩ := info_parts info102
      go_wp2_with fail
      go_region_law
        ((refine step_append_k (by rfl) _ _ _ (by rfl) (w.heap.size + 3) 85 i102 _ 11 96 Tryd.underlying48 hi102 hz0 hz1 hz2 rfl (by decide) ab k cb (bls (X.take k)) (by rfl) ((hbow.alloc _).drew)
            ⟨wr.heap.size, 0, none⟩ 1 (bvl x) (by rfl) rfl (cells_new _ _ _) (bvl_one _) (by unfold maxLen; omega) (by omega) (by simp; omega) ?_
          intro gg cap1 w9 hown1 hgrow hat9 hlt9
          obtain ⟨hbk9, hc7, hf7⟩ := HBK.out.block HXM.out (((Fr.refl (fun _ => False) wr).alloc _).drew) hown1 hgrow hat9))
      all_goals
        clear hi102 hz0 hz1 hz2 f0 f1 f2 f3 f4 f5 f6 f7 f8 f9 f10 y7 z7 z7f hbow
        go_wp2_with fail
        go_roundg (n2 - (k + 1))
        case measure => rw [HG.out]; omega
        case rel => exact ⟨k + 1, _, _, by omega, rfl, by go_num, hbk9⟩
    · obtain rfl : k = n2 := by omega
      have hkf : ¬ (k : Int) < (k : Int) := by omega
      have hrz := HBK.out.rz
      go_wp2_with (first
        | (refine wpList_load_row rfl 50 _ rfl (w.heap.size + 2) rfl 50 (fcl i a1 n1 c1 ab k cb ct sm a3 n3 c3) (0, 0) _ HBK.out.ob Tryd.underlying50 rfl size50 ?_)
        | (refine wpList_store_row rfl 50 _ _ rfl (w.heap.size + 1) (fcl i a1 n1 c1 ab k cb ct sm a3 n3 c3) rfl rfl 50 #[.int .i64 0, .int .i64 0, .int .i64 0, .int .i64 0, .int .i64 0, .int .i64 0, .slice none 0 0, .slice none 0 0, .int .i64 0, .int .u32 0, .slice none 0 0] HBK.out.rz size50 rfl (by simp [Value.oneCell']) ?_))
      refine bodyPost_ret (res_c1 (p := 2) (ty := 50) (by kernel_rfl) _ _ (w.heap.size + 1) 50 (fcl i a1 n1 c1 ab k cb ct sm a3 n3 c3) (0, 0) _ rfl (setRow_heap _ _ _ _ _ _ HBK.out.rz) Tryd.underlying50 rfl size50) rfl ?_
      have hfs := Inf.fr_setRow wr (w.heap.size + 1) (fcl i a1 n1 c1 ab k cb ct sm a3 n3 c3)
      have e : X.take k = X := List.take_of_length_le (by rw [HXL.out]; exact Nat.le_refl _)
      have hbo := HBK.out.bo
      rw [e] at hbo
      refine ⟨ab, cb, rfl, BsAt.of_row (ownsRow_block hbo fun q hq => hfs.block q (hbo.lt q (by rw [ownBlock_slice]; exact hq)).2 (fun e => by have := (hbo.lt q (by rw [ownBlock_slice]; exact hq)).1; omega)), HBK.out.bel.trans ⟨hfs.os, hfs.tape, hfs.output, hfs.size, fun q hq => hfs.block q (Nat.lt_of_lt_of_le hq HBK.out.bel.size) (fun e => by omega)⟩⟩
end Go.Proofs.YthjjonbkfkpkmaaDoor.Fil
