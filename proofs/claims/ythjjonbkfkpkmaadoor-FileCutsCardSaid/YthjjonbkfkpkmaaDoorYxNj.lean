/- Get of the document. Conditions: bytes in memory. -/
import Derived.Test.YthjjonbkfkpkmaaDoorY08
import Derived.Deep.RegionHeld3
import Derived.Deep.DeepCutAuto
import Derived.BigQuiet
import Derived.Deep.QuietTactic
namespace Go.Proofs.YthjjonbkfkpkmaaDoor.Inf
open Go.RowKit Gen Fld
open Crc hiding hid

set_option maxRecDepth 100000 in
theorem Lp.start (w : World) {a : Option Addr} {l : List Nat} (h : Byts w a l) : Lp w a l ((w.alloc (.cells (ivl iz) 25)).alloc (.cells #[.int .u8 68, .int .u8 83, .int .u8 67, .int .u8 49] 5)) :=
  have hb : Below w.heap.size w ((w.alloc (.cells (ivl iz) 25)).alloc (.cells #[.int .u8 68, .int .u8 83, .int .u8 67, .int .u8 49] 5)) := (below_new w _).alloc (below_new w _).size _
  ⟨(Bx.new w iz).below (below_new _ _) (Bx.new w iz).lt, alloc2_at _ _ _, h.keep hb, hb⟩
set_option maxRecDepth 100000 in
theorem Lp.more {w wr w' : World} {a : Option Addr} {l : List Nat} (h : Lp w a l wr) (hb : Below wr.heap.size wr w') : Lp w a l w' :=
  ⟨h.z.below hb h.z.lt, (hb.block _ (World.block_lt_of_cell? _ _ (row_cell h.m 0 rfl))).trans h.m, h.y.keep hb, h.b.trans (hb.mono h.b.size)⟩
set_option maxRecDepth 100000 in
theorem u8_at {w : World} {b off : Nat} {l : List Nat} (h : Byts w (some ⟨b, off, none⟩) l) (j : Nat) (hj : j < l.length) : w.cell? ⟨b, off + j, none⟩ = some (.int .u8 (l[j] : Int)) := by
  obtain ⟨b', off', e, hc⟩ := h.at_ j l[j] (List.getElem?_eq_getElem hj)
  cases e
  exact hc
set_option maxRecDepth 100000 in
theorem drew_below (w : World) (n : Nat) : Below w.heap.size w (w.drewN n) := ⟨rfl, rfl, rfl, Nat.le_refl _, fun _ _ => rfl⟩
set_option maxRecDepth 100000 in
theorem drew1 (w : World) : Below w.heap.size w w.drew := ⟨rfl, rfl, rfl, Nat.le_refl _, fun _ _ => rfl⟩
set_option maxRecDepth 100000 in
theorem byts_get {w : World} {b off : Nat} {l : List Nat} (hb : Byts w (some ⟨b, off, none⟩) l) (j : Nat) (hj : j < l.length) : w.cell? ⟨b, off + j, none⟩ = some (.int .u8 (at_ l j 1 : Int)) ∧ at_ l j 1 < 256 := by
  unfold at_
  have e : (l.drop j).take 1 = [l[j]] := by rw [List.drop_eq_getElem_cons hj]; rfl
  have e2 : lev [l[j]] = l[j] := by show l[j] + 256 * 0 = l[j]; omega
  rw [e, e2]
  obtain ⟨b', off', e3, hc⟩ := hb.at_ j (l[j]) (List.getElem?_eq_getElem hj)
  cases e3
  exact ⟨hc, hb.lt _ (List.getElem_mem hj)⟩
set_option maxRecDepth 100000 in
theorem i64w_small (n : Nat) (h : n < 256) : IntKind.i64.wrap (n : Int) = n := IntWalk.i64_in _ (by omega)
/-- A format in a box. -/
structure Fx (w : World) (g : Nat) (ch bits rate : Nat) : Prop where
  row : w.heap[g]? = some (.cells #[.int .i64 (ch : Int), .int .i64 (bits : Int), .int .i64 (rate : Int)] 23 (0, 0))
def Rin (w : World) (l : List Nat) (e : Ending) (w' : World) : Prop := InfP w (getI l) (getE l) e w'
set_option maxRecDepth 100000 in
theorem rin_bad {w : World} {l : List Nat} (x : Int) (h : getE l = x) (hx : x ≠ 0) {w' : World} (hb : Below w.heap.size w w') : Rin w l (.returned (.tuple #[.agg (ivl iz), .int .i64 x])) w' := by
  unfold Rin InfP getI
  rw [h, if_neg hx]
  exact ⟨rfl, hb⟩
end Go.Proofs.YthjjonbkfkpkmaaDoor.Inf
