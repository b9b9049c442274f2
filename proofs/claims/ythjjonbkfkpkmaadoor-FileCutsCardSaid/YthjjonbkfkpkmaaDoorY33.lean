/- FileNil's walk: without a table there are no files. Condition: the two tables of unicode/utf8 lie as their initialisers lay them. -/
import Derived.Test.YthjjonbkfkpkmaaDoorYxGa
import Derived.Test.YthjjonbkfkpkmaaDoorY32
import Derived.Test.YthjjonbkfkpkmaaDoorY06
import Derived.Test.YthjjonbkfkpkmaaDoorRows
import Derived.ProofKit
import Derived.OpenShut
import Derived.Deep.Slices
import Derived.Deep.Matrix
import Derived.Deep.Strs
import Derived.Test.YthjjonbkfkpkmaaDoorY24
import Derived.Test.YthjjonbkfkpkmaaDoorY19
import Derived.Lib.LaidIn
import Derived.Lib.LaidU8T
import Derived.LaidLaws
import Derived.LaidMore
namespace Go.Proofs.YthjjonbkfkpkmaaDoor.Fil
open Go.RowKit Gen
open Tl (il il_app rise TRt Tx)
attribute [local go_sem] Oper.semAt_some

set_option maxRecDepth 100000 in
theorem build_nil (i : Inf.If) (v1 v2 v3 : Value) (w : World) : Calls Tryd.prog 9 #[.pointer none, Inf.iv i, v1, v2, v3] w fun e w' => e = .returned (.tuple #[.slice none 0 0, .int .i64 2]) ∧ Below w.heap.size w w' := by
  have HB0 := hid (Inf.below_new w (.cells (Inf.ivl i) 25))
  have HX := hid (Inf.Bx.new w i)
  have HP := hid fun w' => Inf.put_nil i w'
  obtain ⟨ik, ⟨ich, ibits, irate⟩, ibk, ish⟩ := i
  change Calls Tryd.prog 9 #[.pointer none, .agg #[.int .i64 ik, .int .i64 ich, .int .i64 ibits, .int .i64 irate, .int .i64 ibk, .int .i64 ish], v1, v2, v3] w _
  change Hid (Below w.heap.size w (w.alloc (.cells #[.int .i64 ik, .int .i64 ich, .int .i64 ibits, .int .i64 irate, .int .i64 ibk, .int .i64 ish] 25))) at HB0
  change Hid (∀ w', Calls Tryd.prog 14 #[.pointer none, .agg #[.int .i64 ik, .int .i64 ich, .int .i64 ibits, .int .i64 irate, .int .i64 ibk, .int .i64 ish]] w' _) at HP
  go_enter Tryd.func9, Tryd.ntmps9
  go_wp2_with fail
  refine (HP.out _).mono ?_
  rintro e w1 ⟨ao, ca, rfl, hn⟩
  have HB1 := hid (HB0.out.trans (hn.bel.mono HB0.out.size))
  clear hn
  go_wp2_with fail
  go_ret2
  exact ⟨rfl, HB1.out⟩
set_option maxRecDepth 100000 in
theorem parse_nil (v : Value) (w : World) : Calls Tryd.prog 10 #[.pointer none, v] w fun e w' => e = .returned (.tuple #[.agg #[.int .i64 0, .int .i64 0, .int .i64 0, .int .i64 0, .int .i64 0, .int .i64 0, .slice none 0 0, .slice none 0 0, .int .i64 0, .int .u32 0, .slice none 0 0], .int .i64 2]) ∧ Below w.heap.size w w' := by
  have hbw := Inf.below_new w (.cells #[.int .i64 0, .int .i64 0, .int .i64 0, .int .i64 0, .int .i64 0, .int .i64 0, .slice none 0 0, .slice none 0 0, .int .i64 0, .int .u32 0, .slice none 0 0] 43)
  have HZ := hid (heap_alloc_new w (.cells #[.int .i64 0, .int .i64 0, .int .i64 0, .int .i64 0, .int .i64 0, .int .i64 0, .slice none 0 0, .slice none 0 0, .int .i64 0, .int .u32 0, .slice none 0 0] 43))
  have HB0 := hid hbw
  have HIG := hid (show Calls Tryd.prog 21 #[.pointer none, v] (w.alloc (.cells #[.int .i64 0, .int .i64 0, .int .i64 0, .int .i64 0, .int .i64 0, .int .i64 0, .slice none 0 0, .slice none 0 0, .int .i64 0, .int .u32 0, .slice none 0 0] 43)) (fun e w' => e = .returned (.tuple #[.agg #[.int .i64 0, .int .i64 0, .int .i64 0, .int .i64 0, .int .i64 0, .int .i64 0], .int .i64 2]) ∧ Below (w.alloc (.cells #[.int .i64 0, .int .i64 0, .int .i64 0, .int .i64 0, .int .i64 0, .int .i64 0, .slice none 0 0, .slice none 0 0, .int .i64 0, .int .u32 0, .slice none 0 0] 43)).heap.size (w.alloc (.cells #[.int .i64 0, .int .i64 0, .int .i64 0, .int .i64 0, .int .i64 0, .int .i64 0, .slice none 0 0, .slice none 0 0, .int .i64 0, .int .u32 0, .slice none 0 0] 43)) w') from Inf.get_nil v _)
  clear hbw
  go_enter Tryd.func10, Tryd.ntmps10
  go_wp2_with fail
  refine HIG.out.mono ?_
  rintro e w1 ⟨rfl, hb1⟩
  have HZ1 := hid ((hb1.block w.heap.size (World.block_lt_of_cell? _ _ (Inf.row_cell HZ.out 0 rfl))).trans HZ.out)
  have HB1 := hid (HB0.out.trans (hb1.mono HB0.out.size))
  have HAN := hid (heap_alloc_new w1 (.cells #[.int .i64 0, .int .i64 0, .int .i64 0, .int .i64 0, .int .i64 0, .int .i64 0] 25))
  have hb2 : Below w1.heap.size w1 ((w1.alloc (.cells #[.int .i64 0, .int .i64 0, .int .i64 0, .int .i64 0, .int .i64 0, .int .i64 0] 25)).setRow w1.heap.size #[.int .i64 0, .int .i64 0, .int .i64 0, .int .i64 0, .int .i64 0, .int .i64 0]) := Inf.fr_rowBelow (Inf.below_new w1 _) (Nat.le_refl _)
  have HZ2 := hid ((hb2.block w.heap.size (World.block_lt_of_cell? _ _ (Inf.row_cell HZ1.out 0 rfl))).trans HZ1.out)
  have HB2 := hid (HB1.out.trans (hb2.mono HB1.out.size))
  clear hb1 hb2 HZ HZ1 HB0 HB1 HIG
  go_wp2_with (first
    | (refine wpList_store_row rfl 25 _ _ rfl w1.heap.size #[.int .i64 0, .int .i64 0, .int .i64 0, .int .i64 0, .int .i64 0, .int .i64 0] rfl rfl 25 #[.int .i64 0, .int .i64 0, .int .i64 0, .int .i64 0, .int .i64 0, .int .i64 0] HAN.out rfl rfl (by simp [Value.oneCell']) ?_)
    | (refine wpList_store_row rfl 43 _ _ rfl w.heap.size #[.int .i64 0, .int .i64 0, .int .i64 0, .int .i64 0, .int .i64 0, .int .i64 0, .slice none 0 0, .slice none 0 0, .int .i64 0, .int .u32 0, .slice none 0 0] rfl rfl 43 #[.int .i64 0, .int .i64 0, .int .i64 0, .int .i64 0, .int .i64 0, .int .i64 0, .slice none 0 0, .slice none 0 0, .int .i64 0, .int .u32 0, .slice none 0 0] HZ2.out size45 rfl (by simp [Value.oneCell']) ?_))
  refine bodyPost_ret (Head.res_ct (p := 4) (u := 5) (ty := 43) (by kernel_rfl) _ _ w.heap.size 43 #[.int .i64 0, .int .i64 0, .int .i64 0, .int .i64 0, .int .i64 0, .int .i64 0, .slice none 0 0, .slice none 0 0, .int .i64 0, .int .u32 0, .slice none 0 0] (0, 0) _ rfl (setRow_heap _ _ _ _ _ _ HZ2.out) Tryd.underlying43 rfl size45 rfl) rfl ?_
  exact ⟨rfl, Inf.fr_rowBelow HB2.out (Nat.le_refl _)⟩
theorem bsat_nil (w : World) (a : Option Addr) : BsAt w a [] := ⟨fun j x h => by simp at h⟩
set_option maxHeartbeats 4000000 in
set_option maxRecDepth 100000 in
theorem nil_walk (w : World) (hT : Tg.Tabs w) (i : Inf.If) (v1 v2 v3 : Value) :
    Calls Tryd.prog 4 #[Inf.iv i, v1, v2, v3] w fun e w' => e = .returned (.bool true) ∧ Below w.heap.size w w' := by
  have HB0 := hid (Inf.below_new w (.cells (Inf.ivl i) 25))
  have HX := hid (Inf.Bx.new w i)
  have HBN := hid fun w' a b c => build_nil i a b c w'
  have HK := hid fun (w' : World) (hbw : Below w.heap.size w w') => known_true w' (hT.keep hbw)
  clear hT
  obtain ⟨ik, ⟨ich, ibits, irate⟩, ibk, ish⟩ := i
  change Calls Tryd.prog 4 #[.agg #[.int .i64 ik, .int .i64 ich, .int .i64 ibits, .int .i64 irate, .int .i64 ibk, .int .i64 ish], v1, v2, v3] w _
  change Hid (Below w.heap.size w (w.alloc (.cells #[.int .i64 ik, .int .i64 ich, .int .i64 ibits, .int .i64 irate, .int .i64 ibk, .int .i64 ish] 25))) at HB0
  change Hid (Inf.Bx (w.alloc (.cells #[.int .i64 ik, .int .i64 ich, .int .i64 ibits, .int .i64 irate, .int .i64 ibk, .int .i64 ish] 25)) w.heap.size ⟨ik, ⟨ich, ibits, irate⟩, ibk, ish⟩) at HX
  have x0 := HX.out.c0
  have x1 := HX.out.c1
  have x2 := HX.out.c2
  have x3 := HX.out.c3
  have x4 := HX.out.c4
  have x5 := HX.out.c5
  simp only [] at x0 x1 x2 x3 x4 x5
  go_enter Tryd.func4, Tryd.ntmps4
  go_wp2_with fail
  refine (HBN.out _ _ _ _).mono ?_
  rintro e w2 ⟨rfl, hb2⟩
  have HB2 := hid (HB0.out.trans (hb2.mono HB0.out.size))
  clear hb2 x0 x1 x2 x3 x4 x5 HX HB0
  go_wp2_with fail
  refine (parse_nil _ _).mono ?_
  rintro e w3 ⟨rfl, hb3⟩
  have HB3 := hid (HB2.out.trans (hb3.mono HB2.out.size))
  have HAN := hid (heap_alloc_new w3 (.cells #[.int .i64 0, .int .i64 0, .int .i64 0, .int .i64 0, .int .i64 0, .int .i64 0, .slice none 0 0, .slice none 0 0, .int .i64 0, .int .u32 0, .slice none 0 0] 43))
  have hb4 : Below w3.heap.size w3 ((w3.alloc (.cells #[.int .i64 0, .int .i64 0, .int .i64 0, .int .i64 0, .int .i64 0, .int .i64 0, .slice none 0 0, .slice none 0 0, .int .i64 0, .int .u32 0, .slice none 0 0] 43)).setRow w3.heap.size #[.int .i64 0, .int .i64 0, .int .i64 0, .int .i64 0, .int .i64 0, .int .i64 0, .slice none 0 0, .slice none 0 0, .int .i64 0, .int .u32 0, .slice none 0 0]) := Inf.fr_rowBelow (Inf.below_new w3 _) (Nat.le_refl _)
  have HR4 := hid (setRow_heap (w3.alloc (.cells #[.int .i64 0, .int .i64 0, .int .i64 0, .int .i64 0, .int .i64 0, .int .i64 0, .slice none 0 0, .slice none 0 0, .int .i64 0, .int .u32 0, .slice none 0 0] 43)) w3.heap.size #[.int .i64 0, .int .i64 0, .int .i64 0, .int .i64 0, .int .i64 0, .int .i64 0, .slice none 0 0, .slice none 0 0, .int .i64 0, .int .u32 0, .slice none 0 0] #[.int .i64 0, .int .i64 0, .int .i64 0, .int .i64 0, .int .i64 0, .int .i64 0, .slice none 0 0, .slice none 0 0, .int .i64 0, .int .u32 0, .slice none 0 0] 43 (0, 0) HAN.out)
  have HB4 := hid (HB3.out.trans (hb4.mono HB3.out.size))
  clear hb3 hb4 HB2 HB3 HBN
  have y0 : ((w3.alloc (.cells #[.int .i64 0, .int .i64 0, .int .i64 0, .int .i64 0, .int .i64 0, .int .i64 0, .slice none 0 0, .slice none 0 0, .int .i64 0, .int .u32 0, .slice none 0 0] 43)).setRow w3.heap.size #[.int .i64 0, .int .i64 0, .int .i64 0, .int .i64 0, .int .i64 0, .int .i64 0, .slice none 0 0, .slice none 0 0, .int .i64 0, .int .u32 0, .slice none 0 0]).cell? ⟨w3.heap.size, 0, none⟩ = some (.int .i64 0) := Inf.row_cell HR4.out 0 rfl
  have y1 : ((w3.alloc (.cells #[.int .i64 0, .int .i64 0, .int .i64 0, .int .i64 0, .int .i64 0, .int .i64 0, .slice none 0 0, .slice none 0 0, .int .i64 0, .int .u32 0, .slice none 0 0] 43)).setRow w3.heap.size #[.int .i64 0, .int .i64 0, .int .i64 0, .int .i64 0, .int .i64 0, .int .i64 0, .slice none 0 0, .slice none 0 0, .int .i64 0, .int .u32 0, .slice none 0 0]).cell? ⟨w3.heap.size, 1, none⟩ = some (.int .i64 0) := Inf.row_cell HR4.out 1 rfl
  have y2 : ((w3.alloc (.cells #[.int .i64 0, .int .i64 0, .int .i64 0, .int .i64 0, .int .i64 0, .int .i64 0, .slice none 0 0, .slice none 0 0, .int .i64 0, .int .u32 0, .slice none 0 0] 43)).setRow w3.heap.size #[.int .i64 0, .int .i64 0, .int .i64 0, .int .i64 0, .int .i64 0, .int .i64 0, .slice none 0 0, .slice none 0 0, .int .i64 0, .int .u32 0, .slice none 0 0]).cell? ⟨w3.heap.size, 2, none⟩ = some (.int .i64 0) := Inf.row_cell HR4.out 2 rfl
  have y3 : ((w3.alloc (.cells #[.int .i64 0, .int .i64 0, .int .i64 0, .int .i64 0, .int .i64 0, .int .i64 0, .slice none 0 0, .slice none 0 0, .int .i64 0, .int .u32 0, .slice none 0 0] 43)).setRow w3.heap.size #[.int .i64 0, .int .i64 0, .int .i64 0, .int .i64 0, .int .i64 0, .int .i64 0, .slice none 0 0, .slice none 0 0, .int .i64 0, .int .u32 0, .slice none 0 0]).cell? ⟨w3.heap.size, 3, none⟩ = some (.int .i64 0) := Inf.row_cell HR4.out 3 rfl
  have y4 : ((w3.alloc (.cells #[.int .i64 0, .int .i64 0, .int .i64 0, .int .i64 0, .int .i64 0, .int .i64 0, .slice none 0 0, .slice none 0 0, .int .i64 0, .int .u32 0, .slice none 0 0] 43)).setRow w3.heap.size #[.int .i64 0, .int .i64 0, .int .i64 0, .int .i64 0, .int .i64 0, .int .i64 0, .slice none 0 0, .slice none 0 0, .int .i64 0, .int .u32 0, .slice none 0 0]).cell? ⟨w3.heap.size, 4, none⟩ = some (.int .i64 0) := Inf.row_cell HR4.out 4 rfl
  have y5 : ((w3.alloc (.cells #[.int .i64 0, .int .i64 0, .int .i64 0, .int .i64 0, .int .i64 0, .int .i64 0, .slice none 0 0, .slice none 0 0, .int .i64 0, .int .u32 0, .slice none 0 0] 43)).setRow w3.heap.size #[.int .i64 0, .int .i64 0, .int .i64 0, .int .i64 0, .int .i64 0, .int .i64 0, .slice none 0 0, .slice none 0 0, .int .i64 0, .int .u32 0, .slice none 0 0]).cell? ⟨w3.heap.size, 5, none⟩ = some (.int .i64 0) := Inf.row_cell HR4.out 5 rfl
  have y6 : ((w3.alloc (.cells #[.int .i64 0, .int .i64 0, .int .i64 0, .int .i64 0, .int .i64 0, .int .i64 0, .slice none 0 0, .slice none 0 0, .int .i64 0, .int .u32 0, .slice none 0 0] 43)).setRow w3.heap.size #[.int .i64 0, .int .i64 0, .int .i64 0, .int .i64 0, .int .i64 0, .int .i64 0, .slice none 0 0, .slice none 0 0, .int .i64 0, .int .u32 0, .slice none 0 0]).cell? ⟨w3.heap.size, 6, none⟩ = some (.slice none 0 0) := Inf.row_cell HR4.out 6 rfl
  have y7 : ((w3.alloc (.cells #[.int .i64 0, .int .i64 0, .int .i64 0, .int .i64 0, .int .i64 0, .int .i64 0, .slice none 0 0, .slice none 0 0, .int .i64 0, .int .u32 0, .slice none 0 0] 43)).setRow w3.heap.size #[.int .i64 0, .int .i64 0, .int .i64 0, .int .i64 0, .int .i64 0, .int .i64 0, .slice none 0 0, .slice none 0 0, .int .i64 0, .int .u32 0, .slice none 0 0]).cell? ⟨w3.heap.size, 7, none⟩ = some (.slice none 0 0) := Inf.row_cell HR4.out 7 rfl
  have y8 : ((w3.alloc (.cells #[.int .i64 0, .int .i64 0, .int .i64 0, .int .i64 0, .int .i64 0, .int .i64 0, .slice none 0 0, .slice none 0 0, .int .i64 0, .int .u32 0, .slice none 0 0] 43)).setRow w3.heap.size #[.int .i64 0, .int .i64 0, .int .i64 0, .int .i64 0, .int .i64 0, .int .i64 0, .slice none 0 0, .slice none 0 0, .int .i64 0, .int .u32 0, .slice none 0 0]).cell? ⟨w3.heap.size, 8, none⟩ = some (.int .i64 0) := Inf.row_cell HR4.out 8 rfl
  have y9 : ((w3.alloc (.cells #[.int .i64 0, .int .i64 0, .int .i64 0, .int .i64 0, .int .i64 0, .int .i64 0, .slice none 0 0, .slice none 0 0, .int .i64 0, .int .u32 0, .slice none 0 0] 43)).setRow w3.heap.size #[.int .i64 0, .int .i64 0, .int .i64 0, .int .i64 0, .int .i64 0, .int .i64 0, .slice none 0 0, .slice none 0 0, .int .i64 0, .int .u32 0, .slice none 0 0]).cell? ⟨w3.heap.size, 9, none⟩ = some (.int .u32 0) := Inf.row_cell HR4.out 9 rfl
  have y10 : ((w3.alloc (.cells #[.int .i64 0, .int .i64 0, .int .i64 0, .int .i64 0, .int .i64 0, .int .i64 0, .slice none 0 0, .slice none 0 0, .int .i64 0, .int .u32 0, .slice none 0 0] 43)).setRow w3.heap.size #[.int .i64 0, .int .i64 0, .int .i64 0, .int .i64 0, .int .i64 0, .int .i64 0, .slice none 0 0, .slice none 0 0, .int .i64 0, .int .u32 0, .slice none 0 0]).cell? ⟨w3.heap.size, 10, none⟩ = some (.slice none 0 0) := Inf.row_cell HR4.out 10 rfl
  go_wp2_with (refine wpList_store_row rfl 43 _ _ rfl w3.heap.size #[.int .i64 0, .int .i64 0, .int .i64 0, .int .i64 0, .int .i64 0, .int .i64 0, .slice none 0 0, .slice none 0 0, .int .i64 0, .int .u32 0, .slice none 0 0] rfl rfl 43 #[.int .i64 0, .int .i64 0, .int .i64 0, .int .i64 0, .int .i64 0, .int .i64 0, .slice none 0 0, .slice none 0 0, .int .i64 0, .int .u32 0, .slice none 0 0] HAN.out size45 rfl (by simp [Value.oneCell']) ?_)
  generalize ((w3.alloc (.cells #[.int .i64 0, .int .i64 0, .int .i64 0, .int .i64 0, .int .i64 0, .int .i64 0, .slice none 0 0, .slice none 0 0, .int .i64 0, .int .u32 0, .slice none 0 0] 43)).setRow w3.heap.size #[.int .i64 0, .int .i64 0, .int .i64 0, .int .i64 0, .int .i64 0, .int .i64 0, .slice none 0 0, .slice none 0 0, .int .i64 0, .int .u32 0, .slice none 0 0]) = w4 at *
  refine (back_any (w := w4) (i := Inf.iz) (a1 := none) (n1 := 0) (c1 := 0) (a2 := none) (n2 := 0) (c2 := 0) (ct := 0) (sm := 0) (a3 := none) (n3 := 0) (c3 := 0) (X := []) rfl (bsat_nil _ _) (Nat.zero_le _)).mono ?_
  rintro e w5 ⟨ab, cb, rfl, hba, hb5⟩
  have HB5 := hid (HB4.out.trans (hb5.mono HB4.out.size))
  have hns : Smb w5 ([] : List Bv) [] := ⟨fun j x y h => by simp at h⟩
  have HSM := hid (same_true (w := w5) (i := Inf.iz) (a1 := none) (n1 := 0) (c1 := 0) (a2 := ab) (n2 := 0) (c2 := cb) (ct := 0) (sm := 0) (a3 := none) (n3 := 0) (c3 := 0) (a1' := none) (c1' := 0) (a2' := none) (c2' := 0) (a3' := none) (c3' := 0) (L := []) (B := 0) (B' := 0) rfl (World.ownsRow_nil _ _ _ _) (World.ownsRow_nil _ _ _ _) (X := []) (Y := []) rfl rfl hba (bsat_nil _ _) hns (P := []) rfl (Tl.Nts.nil _ _) (Tl.Nts.nil _ _) (Nat.zero_le _) (Nat.zero_le _) (Nat.zero_le _))
  clear hb5 hba hns y0 y1 y2 y3 y4 y5 y6 y7 y8 y9 y10
  go_wp2_with fail
  refine HSM.out.mono ?_
  rintro e w6 ⟨rfl, hb6⟩
  have HB6 := hid (HB5.out.trans (hb6.mono HB5.out.size))
  clear hb6 HSM
  go_wp2_with fail
  refine (HK.out _ HB6.out).mono ?_
  rintro e w7 ⟨rfl, hb7⟩
  have HB7 := hid (HB6.out.trans (hb7.mono HB6.out.size))
  clear hb7
  go_wp2_with fail
  go_ret
  exact ⟨rfl, HB7.out⟩
end Go.Proofs.YthjjonbkfkpkmaaDoor.Fil
namespace Go.Proofs.YthjjonbkfkpkmaaDoor.Inf
open Go.ChangeShapes Go.WideShapes Go.ChangeAt Go.RowKit Gen Pcm

set_option maxRecDepth 100000 in
theorem cells25 : Tryd.prog.cellsOf 25 = 6 := by kernel_rfl
set_option maxRecDepth 100000 in
theorem cells23 : Tryd.prog.cellsOf 23 = 3 := by kernel_rfl
set_option maxRecDepth 100000 in
theorem cells3 : Tryd.prog.cellsOf 3 = 1 := by kernel_rfl
set_option maxRecDepth 100000 in
theorem cells5 : Tryd.prog.cellsOf 5 = 1 := by kernel_rfl
set_option maxRecDepth 100000 in
theorem open_bytes {H : Type} {enc : TypeId × Value → H} {W : World} {spare : Nat → Bool} {held : Bool} {fuel : Nat} {a : Option Addr} {len cap : Nat} {x : DataW H × List MemPlace}
    (hf : DataW.trod enc Tryd.prog W 0 spare held fuel 28 [.slice a len cap] = some x) : ∃ L : List Nat, L.length = len ∧ Byts W a L ∧ len ≤ cap ∧ cap ≤ 9223372036854775807 ∧ (a = none → len = 0 ∧ cap = 0) := by
  rcases Deep.open_slice Tryd.underlying28 hf with ⟨hcs, _⟩ | ⟨a', l, c, m, n, D, Pl, hcs, _, hlc, hcm, hm, _, hel⟩
  · simp at hcs
    obtain ⟨rfl, rfl, rfl⟩ := hcs
    exact ⟨[], rfl, Byts.nil _ _, Nat.le_refl _, by decide, fun _ => ⟨rfl, rfl⟩⟩
  · simp at hcs
    obtain ⟨rfl, rfl, rfl⟩ := hcs
    have hmx : maxLen = 9223372036854775807 := rfl
    have hlm : len ≤ m := by rw [hm]; split <;> omega
    by_cases h0 : len = 0
    · subst h0
      exact ⟨[], rfl, Byts.nil _ _, hlc, by omega, fun e => by cases e⟩
    rw [cells5] at hel
    have each : ∀ i, i < len → ∃ y : Nat, W.cell? ((a'.add (i * 1)).add 0) = some (.int .u8 (y : Int)) ∧ y < 256 := by
      intro i hi
      obtain ⟨cs', h1, h2⟩ := hel i (by omega)
      obtain ⟨_, hl3, hcell⟩ := World.cells?_some h1
      obtain ⟨k0, e0, _, w0⟩ := DataW.trod_int Tryd.underlying5 h2
      subst e0
      have hb := bounds_u8 w0
      refine ⟨k0.toNat, ?_, by omega⟩
      rw [hcell 0 (by omega)]
      simp; omega
    obtain ⟨b, off, spot⟩ := a'
    obtain ⟨y, hy⟩ := Deep.choose_lt each
    have hspot : spot = none := by
      have := (hy 0 (by omega)).1
      simpa [Addr.add] using World.cell?_spot this
    subst hspot
    have ea : ∀ i, ((⟨b, off, none⟩ : Addr).add (i * 1)).add 0 = ⟨b, off + i, none⟩ := fun i => by rw [Addr.add_lit, Addr.add_lit]; simp
    refine ⟨(List.range len).map y, by simp, ⟨fun z hz => ?_, fun j z hj => ⟨b, off, rfl, ?_⟩⟩, hlc, by omega, fun e => by cases e⟩
    · obtain ⟨i, hi, rfl⟩ := List.mem_map.1 hz
      exact (hy i (List.mem_range.1 hi)).2
    · rw [List.getElem?_map] at hj
      by_cases hjl : j < len
      · rw [List.getElem?_range hjl] at hj
        cases hj
        have := (hy j hjl).1; rw [ea] at this; exact this
      · rw [List.getElem?_eq_none (by simpa using Nat.le_of_not_lt hjl)] at hj
        cases hj
set_option maxRecDepth 100000 in
theorem form_open {H : Type} {enc : TypeId × Value → H} {W : World} {b0 : Nat} {v : Value} {d : DataW H} {p : List MemPlace} (hv0 : Value.okWide Tryd.prog W .any b0 23 v) (h : DataW.Trod enc Tryd.prog W 0 (fun _ => true) true 23 v d p) :
    ∃ x : Fmt, v = x.v ∧ True := by
  obtain ⟨cs, rfl, hsz⟩ := okWide_struct Tryd.underlying23 hv0
  rw [cells23] at hsz
  obtain ⟨l⟩ := cs
  match l, hsz with
  | [c0, c1, c2], _ =>
  obtain ⟨fuel, hf⟩ := h
  obtain ⟨z0, z1, z2, m', _, _, h0, h1, h2⟩ := Deep.trod_struct3 Tryd.underlying23 hf
  simp [Value.cells, cells3] at h0 h1 h2
  obtain ⟨ch, e0, _, _⟩ := DataW.trod_int Tryd.underlying3 h0
  obtain ⟨bits, e1, _, _⟩ := DataW.trod_int Tryd.underlying3 h1
  obtain ⟨rate, e2, _, _⟩ := DataW.trod_int Tryd.underlying3 h2
  simp at e0 e1 e2
  subst e0 e1 e2
  exact ⟨⟨ch, bits, rate⟩, rfl, trivial⟩
set_option maxRecDepth 100000 in
theorem info_open {H : Type} {enc : TypeId × Value → H} {W : World} {b0 : Nat} {v : Value} {d : DataW H} {p : List MemPlace} (hv0 : Value.okWide Tryd.prog W .any b0 25 v) (h : DataW.Trod enc Tryd.prog W 0 (fun _ => true) true 25 v d p) :
    ∃ x : If, v = iv x ∧ True := by
  obtain ⟨cs, rfl, hsz⟩ := okWide_struct Tryd.underlying25 hv0
  rw [cells25] at hsz
  obtain ⟨l⟩ := cs
  match l, hsz with
  | [c0, c1, c2, c3, c4, c5], _ =>
  obtain ⟨fuel, hf⟩ := h
  obtain ⟨xs, n, _, hx, hl, hlen, hfd⟩ := DataW.trod_struct Tryd.underlying25 hf
  have h0 := hfd 0 _ rfl
  have h1 := hfd 1 _ rfl
  have h2 := hfd 2 _ rfl
  have h3 := hfd 3 _ rfl
  match xs, hlen with
  | [y0, y1, y2, y3], _ =>
  simp [Value.cells, cells3, cells23] at h0 h1 h2 h3
  obtain ⟨z0, z1, z2, m', _, _, g0, g1, g2⟩ := Deep.trod_struct3 Tryd.underlying23 h1
  simp [cells3] at g0 g1 g2
  obtain ⟨k, e0, _, _⟩ := DataW.trod_int Tryd.underlying3 h0
  obtain ⟨ch, e1, _, _⟩ := DataW.trod_int Tryd.underlying3 g0
  obtain ⟨bits, e2, _, _⟩ := DataW.trod_int Tryd.underlying3 g1
  obtain ⟨rate, e3, _, _⟩ := DataW.trod_int Tryd.underlying3 g2
  obtain ⟨bk, e4, _, _⟩ := DataW.trod_int Tryd.underlying3 h2
  obtain ⟨sh, e5, _, _⟩ := DataW.trod_int Tryd.underlying3 h3
  simp at e0 e1 e2 e3 e4 e5
  subst e0 e1 e2 e3 e4 e5
  exact ⟨⟨k, ⟨ch, bits, rate⟩, bk, sh⟩, rfl, trivial⟩
end Go.Proofs.YthjjonbkfkpkmaaDoor.Inf
namespace Go.Proofs.YthjjonbkfkpkmaaDoor.Fil
open Go.ChangeShapes Go.WideShapes Go.ChangeAt Go.RowKit Gen

set_option maxRecDepth 100000 in
theorem cells32 : Tryd.prog.cellsOf 28 = 1 := by kernel_rfl
set_option maxRecDepth 100000 in
theorem open_blocks {H : Type} {enc : TypeId × Value → H} {W : World} {spare : Nat → Bool} {held : Bool} {fuel : Nat} {a : Option Addr} {len cap : Nat} {x : DataW H × List MemPlace}
    (hf : DataW.trod enc Tryd.prog W 0 spare held fuel 27 [.slice a len cap] = some x) : ∃ b off L, Bb W a len b off L ∧ len ≤ 9223372036854775807 := by
  rcases Deep.open_slice Tryd.underlying27 hf with ⟨hcs, _⟩ | ⟨a', l, c, m, n, D, Pl, hcs, _, hlc, hcm, hm, _, hel⟩
  · simp at hcs
    obtain ⟨rfl, rfl, rfl⟩ := hcs
    exact ⟨0, 0, fun _ => [], ⟨by omega, by omega⟩, by omega⟩
  · simp at hcs
    obtain ⟨rfl, rfl, rfl⟩ := hcs
    have hmx : maxLen = 9223372036854775807 := rfl
    have hlm : len ≤ m := by rw [hm]; split <;> omega
    by_cases h0 : len = 0
    · subst h0
      exact ⟨0, 0, fun _ => [], ⟨by omega, by omega⟩, by omega⟩
    rw [cells32] at hel
    have each : ∀ i, i < len → ∃ y : Option Addr × Nat × List Nat, W.cell? ((a'.add (i * 1)).add 0) = some (.slice y.1 y.2.2.length y.2.1) ∧ Byts W y.1 y.2.2 ∧ y.2.2.length ≤ y.2.1 := by
      intro i hi
      obtain ⟨cs', h1, h2⟩ := hel i (by omega)
      obtain ⟨_, hl3, hcell⟩ := World.cells?_some h1
      have key : ∃ a2 l2 c2, cs' = [.slice a2 l2 c2] := by
        rcases Deep.open_slice Tryd.underlying28 h2 with ⟨hcs2, _⟩ | ⟨a2, l2, c2, _, _, _, _, hcs2, _⟩
        · exact ⟨none, 0, 0, hcs2⟩
        · exact ⟨some a2, l2, c2, hcs2⟩
      obtain ⟨a2, l2, c2, rfl⟩ := key
      obtain ⟨L2, hl2, hb2, hc2, _, _⟩ := Inf.open_bytes h2
      have hc0 := hcell 0 (by simp)
      refine ⟨(a2, c2, L2), ?_, hb2, ?_⟩
      · rw [hc0]; simp [hl2]
      · show L2.length ≤ c2; omega
    obtain ⟨b, off, spot⟩ := a'
    obtain ⟨y, hy⟩ := Deep.choose_lt each
    have hspot : spot = none := by
      have := (hy 0 (by omega)).1
      simpa [Addr.add] using World.cell?_spot this
    subst hspot
    have ea : ∀ i, ((⟨b, off, none⟩ : Addr).add (i * 1)).add 0 = ⟨b, off + i, none⟩ := fun i => by rw [Addr.add_lit, Addr.add_lit]; simp
    refine ⟨b, off, fun i => (y i).2.2, ⟨fun _ => rfl, fun i hi => ⟨(y i).1, (y i).2.1, ?_, (hy i hi).2.1, (hy i hi).2.2⟩⟩, by omega⟩
    have := (hy i hi).1; rw [ea] at this; exact this
end Go.Proofs.YthjjonbkfkpkmaaDoor.Fil
namespace Go.Proofs.YthjjonbkfkpkmaaDoor.Tg
open Go.Shelf Go.RowKit Go.Lib
set_option maxRecDepth 100000

set_option maxRecDepth 100000 in
theorem first_eq : Rows.laid_unicode_utf8_first = Lib.firstData := by kernel_rfl
set_option maxRecDepth 100000 in
theorem accept_eq : (Rows.laid_unicode_utf8_acceptRanges : DataW Unit) = Lib.acceptData := by kernel_rfl
/-- What the rows list. -/
def listed : List (String × DataW Unit) := Rows.fileCutsRow.laid
/-- A world in which the two tables lie as their initialisers lay them. -/
noncomputable def laidWorld (os : Os) : World :=
  let w0 := World.holding Tryd.prog os ⟨#[], #[], []⟩
  let put (h : Array Obj) (g : Nat) (cs : Array Value) : Array Obj := h.modify g fun
    | .cells _ t frozen => .cells cs t frozen
    | o => o
  let h1 := put w0.heap 1 (Lib.firstTab.map fun z => Value.int .u8 z).toArray
  let h2 := put h1 2 ((List.range 16).flatMap fun i => [Value.int .u8 (Lib.accLo i), Value.int .u8 (Lib.accHi i)]).toArray
  { w0 with heap := h2 }
set_option maxRecDepth 100000 in
theorem laid_met (os : Os) (args : Array Value) : laidMet Tryd.prog listed ((laidWorld os).forCall (fun _ _ => 0) ⟨#[], args, []⟩).memory :=
  (LaidIn.of_run (l := listed) [2, 1] 8 (by kernel_rfl) (by kernel_rfl) (by kernel_rfl) (by kernel_rfl)).met
set_option maxRecDepth 100000 in
theorem laidH_met (os : Os) (args : Array Value) : laidMetH Tryd.prog listed ((laidWorld os).forCall (fun _ _ => 0) ⟨#[], args, []⟩).memory := laid_met os args
set_option maxRecDepth 100000 in
theorem tabs_of_laid {W : World} (h : laidMetH Tryd.prog listed W) : Tabs W := by
  have hL : laidMet Tryd.prog listed W := h
  have h1 := Lib.laidMet.reads hL (.head _)
  have h2 := Lib.laidMet.reads hL (.tail _ (.head _))
  rw [accept_eq] at h1
  rw [first_eq] at h2
  exact utf8Tabs_of_readsT (U8Types.of196 vlay) ⟨by kernel_rfl, by kernel_rfl, by kernel_rfl, by kernel_rfl, by kernel_rfl, by kernel_rfl, by kernel_rfl⟩ h2 h1
end Go.Proofs.YthjjonbkfkpkmaaDoor.Tg
