/- InfoNil's walk: without a table nothing is laid, or read. No condition. -/
import Derived.Test.YthaikhnplbbdlaaNk
import Derived.Test.YthaikhnplbbdlaaNh
namespace Go.Proofs.Ythaikhnplbbdlaa.Inf
open Go.RowKit Gen Fld
open Crc hiding hid

theorem iv_iz : iv iz = .agg #[.int .i64 0, .int .i64 0, .int .i64 0, .int .i64 0, .int .i64 0, .int .i64 0] := rfl
set_option maxHeartbeats 2000000 in
theorem nil_walk (w : World) (i : If) (v : Value) : Calls Try.prog 8 #[iv i, v] w fun e w' => e = .returned (.bool true) ∧ Below w.heap.size w w' := by
  have HPT := hid fun w => put_nil i w
  have HGT := hid fun w => get_nil v w
  have HK := hid known_true
  have HBX := hid (Bx.new w i)
  obtain ⟨k, ⟨ch, bits, rate⟩, bk, sh⟩ := i
  have HB0 := hid (below_new w (.cells #[.int .i64 k, .int .i64 ch, .int .i64 bits, .int .i64 rate, .int .i64 bk, .int .i64 sh] 25))
  change Calls Try.prog 8 #[.agg #[.int .i64 k, .int .i64 ch, .int .i64 bits, .int .i64 rate, .int .i64 bk, .int .i64 sh], v] w _
  go_enter Try.func8, Try.ntmps8
  go_wp2_with fail
  refine (HPT.out _).mono ?_
  rintro e w1 ⟨ao1, c1, rfl, hl1⟩
  have HB1 := hid (HB0.out.trans (hl1.bel.mono HB0.out.size))
  clear hl1 HB0
  go_wp2_with fail
  refine (HGT.out _).mono ?_
  rintro e w2 ⟨rfl, hb2⟩
  rw [iv_iz]
  have HB2 := hid (HB1.out.trans (hb2.mono HB1.out.size))
  have hbn := below_new w2 (.cells #[.int .i64 0, .int .i64 0, .int .i64 0, .int .i64 0, .int .i64 0, .int .i64 0] 25)
  have hz := Bx.new w2 iz
  have HB3 := hid (HB2.out.trans (hbn.mono HB2.out.size))
  clear hb2 hbn HB1 HB2
  have c0 : (w2.alloc (.cells #[.int .i64 0, .int .i64 0, .int .i64 0, .int .i64 0, .int .i64 0, .int .i64 0] 25)).cell? ⟨w2.heap.size, 0, none⟩ = some (Value.int IntKind.i64 0) := hz.c0
  clear hz
  go_wp2_with fail
  refine (HK.out _).mono ?_
  rintro e w7 ⟨rfl, hb7⟩
  have hfin := HB3.out.trans (hb7.mono HB3.out.size)
  clear hb7
  go_wp2_with fail
  go_ret
  exact ⟨rfl, hfin⟩
end Go.Proofs.Ythaikhnplbbdlaa.Inf
