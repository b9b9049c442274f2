/- InfoGets' walk: of any bytes the info is read that the document says. Conditions: the memory's own form. -/
import Derived.Test.YthaikhnplbbdlaaNk
import Derived.Test.YthaikhnplbbdlaaNj
namespace Go.Proofs.Ythaikhnplbbdlaa.Inf
open Go.RowKit Gen Fld
open Crc hiding hid

set_option maxHeartbeats 2000000 in
theorem gets_walk (w : World) {a : Option Addr} {l : List Nat} {len cap : Nat} (hl : l.length = len) (hb : Byts w a l) (hc : len ≤ cap) : Calls Try.prog 4 #[.slice a len cap] w fun e w' => e = .returned (.bool true) ∧ Below w.heap.size w w' := by
  have HK := hid known_true
  by_cases h3 : 300 < len
  · have h3i : (300 : Int) < (len : Int) := by omega
    go_enter Try.func4, Try.ntmps4
    go_wp2_with fail
    refine (HK.out _).mono ?_
    rintro e w1 ⟨rfl, hb1⟩
    go_wp2_with fail
    go_ret
    exact ⟨rfl, hb1⟩
  · have h3i : ¬ (300 : Int) < (len : Int) := by omega
    have HG := hid fun (w' : World) (g : Nat) (ht : Tab w' g) (hb' : Byts w' a l) => get_any (cap := cap) ht hb' (by omega) (by omega)
    have HR := hid fun (w' : World) (hb' : Byts w' a l) => (rget_any (cap := cap) hl hb' hc (by omega))
    unfold Rin at HR
    rw [hl] at HG
    have HBY := hid hb
    clear hb hl h3 hc
    generalize getI l = h at *
    generalize getE l = x at *
    have hxx : (x == x) = true := beq_self_eq_true x
    go_enter Try.func4, Try.ntmps4
    go_wp2_with fail
    refine (make_any _).mono ?_
    rintro e w1 ⟨rfl, ht1, hb1⟩
    have HG1 := hid (HG.out w1 _ ht1 (HBY.out.keep hb1))
    have HB1 := hid hb1
    clear ht1 hb1
    go_wp2_with fail
    refine HG1.out.mono ?_
    rintro e w2 ⟨rfl, hb2⟩
    have HB2 := hid (HB1.out.trans (hb2.mono HB1.out.size))
    clear hb2 HG1
    rw [show iv h = .agg #[.int .i64 h.k, .int .i64 h.f.ch, .int .i64 h.f.bits, .int .i64 h.f.rate, .int .i64 h.bk, .int .i64 h.sh] from rfl]
    have hbn := below_new w2 (.cells #[.int .i64 h.k, .int .i64 h.f.ch, .int .i64 h.f.bits, .int .i64 h.f.rate, .int .i64 h.bk, .int .i64 h.sh] 25)
    have HX3 := hid (show Bx (w2.alloc (.cells #[.int .i64 h.k, .int .i64 h.f.ch, .int .i64 h.f.bits, .int .i64 h.f.rate, .int .i64 h.bk, .int .i64 h.sh] 25)) w2.heap.size h from Bx.new w2 h)
    have HB3 := hid (HB2.out.trans (hbn.mono HB2.out.size))
    have HR3 := hid (HR.out _ (HBY.out.keep HB3.out))
    clear hbn
    go_wp2_with fail
    refine HR3.out.mono ?_
    rintro e w4 ⟨rfl, hb4⟩
    rw [show iv h = .agg #[.int .i64 h.k, .int .i64 h.f.ch, .int .i64 h.f.bits, .int .i64 h.f.rate, .int .i64 h.bk, .int .i64 h.sh] from rfl]
    have HB4 := hid (HB3.out.trans (hb4.mono HB3.out.size))
    have hx4 := HX3.out.below hb4 HX3.out.lt
    have hbn := below_new w4 (.cells #[.int .i64 h.k, .int .i64 h.f.ch, .int .i64 h.f.bits, .int .i64 h.f.rate, .int .i64 h.bk, .int .i64 h.sh] 25)
    have hx5 := hx4.below hbn hx4.lt
    have c0 := hx5.c0; have c1 := hx5.c1; have c2 := hx5.c2; have c3 := hx5.c3; have c4 := hx5.c4; have c5 := hx5.c5
    have HB5 := hid (HB4.out.trans (hbn.mono HB4.out.size))
    clear hb4 hx4 hbn hx5 HB4 HR3 HX3 HB3
    go_wp2_with fail
    refine (HK.out _).mono ?_
    rintro e w6 ⟨rfl, hb6⟩
    have hfin := HB5.out.trans (hb6.mono HB5.out.size)
    clear hb6 c0 c1 c2 c3 c4 c5
    go_wp2_with fail
    go_ret
    exact ⟨rfl, hfin⟩
end Go.Proofs.Ythaikhnplbbdlaa.Inf
