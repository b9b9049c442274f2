/- HeadNil's walk: without a table there are no blocks. No condition. -/
import Derived.Test.YtjdifacjeeadkaaKn
import Derived.Test.YtjdifacjeeadkaaIq
namespace Go.Proofs.Ytjdifacjeeadkaa.Head
open Go.RowKit Gen Fld
open Crc hiding hid

theorem hv_hz : hv hz = .agg #[.int .i64 0, .int .i64 0, .int .i64 0, .int .i64 0, .int .i64 0, .bool false, .int .u32 0, .int .i64 0] := rfl
set_option maxHeartbeats 2000000 in
theorem nil_walk (w : World) (h : Hh) (v : Value) : Calls Try.prog 9 #[hv h, v] w fun e w' => e = .returned (.bool true) ∧ Below w.heap.size w w' := by
  have HPT := hid fun w => put_nil h w
  have HGT := hid fun w => get_nil v w
  have HSE := hid fun w => seal_nil h v w
  have HOP := hid fun w => open_nil v w
  have HK := hid known_true
  have hbx := Bx.new w h
  have HBX := hid hbx
  clear hbx
  obtain ⟨k, ix, ln, st, bd, la, lk, sz⟩ := h
  have HB0 := hid (below_new w (.cells #[.int .i64 k, .int .i64 ix, .int .i64 ln, .int .i64 st, .int .i64 bd, .bool la, .int .u32 (lk : Int), .int .i64 sz] 24))
  change Calls Try.prog 9 #[.agg #[.int .i64 k, .int .i64 ix, .int .i64 ln, .int .i64 st, .int .i64 bd, .bool la, .int .u32 (lk : Int), .int .i64 sz], v] w _
  go_enter Try.func9, Try.ntmps9
  go_wp2_with fail
  refine (HPT.out _).mono ?_
  rintro e w1 ⟨ao1, c1, rfl, hl1⟩
  have HB1 := hid (HB0.out.trans (hl1.bel.mono HB0.out.size))
  have HX1 := hid (HBX.out.below hl1.bel HBX.out.lt)
  clear hl1 HB0 HBX
  go_wp2_with fail
  refine (HGT.out _).mono ?_
  rintro e w2 ⟨rfl, hb2⟩
  rw [hv_hz]
  have HB2 := hid (HB1.out.trans (hb2.mono HB1.out.size))
  have HX2 := hid (HX1.out.below hb2 HX1.out.lt)
  have hbn := below_new w2 (.cells #[.int .i64 0, .int .i64 0, .int .i64 0, .int .i64 0, .int .i64 0, .bool false, .int .u32 0, .int .i64 0] 24)
  have HZ3 := hid (show Bx (w2.alloc (.cells #[.int .i64 0, .int .i64 0, .int .i64 0, .int .i64 0, .int .i64 0, .bool false, .int .u32 0, .int .i64 0] 24)) w2.heap.size hz from Bx.new w2 hz)
  have hx3 := HX2.out.below hbn HX2.out.lt
  have HB3 := hid (HB2.out.trans (hbn.mono HB2.out.size))
  have HX3 := hid hx3
  have c0 := hx3.c0; have c1 := hx3.c1; have c2 := hx3.c2; have c3 := hx3.c3; have c4 := hx3.c4; have c5 := hx3.c5; have c6 := hx3.c6; have c7 := hx3.c7
  simp only [] at c0 c1 c2 c3 c4 c5 c6 c7
  clear hb2 hbn hx3 HB1 HX1 HB2 HX2
  go_wp2_with fail
  refine (HSE.out _).mono ?_
  rintro e w4 ⟨ao4, cc4, rfl, hl4⟩
  have HB4 := hid (HB3.out.trans (hl4.bel.mono HB3.out.size))
  have HZ4 := hid (HZ3.out.below hl4.bel HZ3.out.lt)
  clear hl4 HB3 HX3 HZ3 c0 c1 c2 c3 c4 c5 c6 c7
  go_wp2_with fail
  refine (HOP.out _).mono ?_
  rintro e w5 ⟨ao5, cc5, rfl, hl5⟩
  rw [hv_hz]
  have HB5 := hid (HB4.out.trans (hl5.bel.mono HB4.out.size))
  have HZ5 := hid (HZ4.out.below hl5.bel HZ4.out.lt)
  have hbn := below_new w5 (.cells #[.int .i64 0, .int .i64 0, .int .i64 0, .int .i64 0, .int .i64 0, .bool false, .int .u32 0, .int .i64 0] 24)
  have hz6 := HZ5.out.below hbn HZ5.out.lt
  have HB6 := hid (HB5.out.trans (hbn.mono HB5.out.size))
  have c0 : _ = some (Value.int IntKind.i64 0) := hz6.c0; have c1 : _ = some (Value.int IntKind.i64 0) := hz6.c1; have c2 : _ = some (Value.int IntKind.i64 0) := hz6.c2; have c3 : _ = some (Value.int IntKind.i64 0) := hz6.c3; have c4 : _ = some (Value.int IntKind.i64 0) := hz6.c4; have c5 : _ = some (Value.bool false) := hz6.c5; have c6 : _ = some (Value.int IntKind.u32 0) := hz6.c6; have c7 : _ = some (Value.int IntKind.i64 0) := hz6.c7
  clear hl5 hbn hz6 HB4 HZ4 HB5 HZ5
  go_wp2_with fail
  refine (HK.out _).mono ?_
  rintro e w7 ⟨rfl, hb7⟩
  have hfin := HB6.out.trans (hb7.mono HB6.out.size)
  clear hb7 c0 c1 c2 c3 c4 c5 c6 c7
  go_wp2_with fail
  go_ret
  exact ⟨rfl, hfin⟩
end Go.Proofs.Ytjdifacjeeadkaa.Head
