/- Join: the first sum led on by powers of a step, and the second one. No condition. -/
import Derived.Test.YtlkeifciphehnaaPow
namespace Go.Proofs.Ytlkeifciphehnaa.Crc
open Go.RowKit Gen

theorem step_fn (w : World) (x : Nat) (hx : x < 4294967296) (w' : World) (_ : Below w.heap.size w w') :
    Calls Try.prog 11 (#[.int .u32 (x : Int)] ++ #[]) w' (fun e w'' => e = .returned (.int .u32 (stp x : Int)) ∧ Below w'.heap.size w' w'') := by
  rw [Array.append_empty]
  refine (step_any x hx w').mono ?_
  rintro e w'' ⟨rfl, rfl⟩
  exact ⟨rfl, Below.refl _ _⟩

set_option maxHeartbeats 1000000 in
set_option maxRecDepth 100000 in
theorem join_any (a b : Nat) (ha : a < 4294967296) (hb : b < 4294967296) (n : Int) (hn : n ≤ 9223372036854775807) (w : World) :
    Calls Try.prog 18 #[.int .u32 (a : Int), .int .u32 (b : Int), .int .i64 n] w fun e w' => e = .returned (.int .u32 ((pw ei n.toNat a ^^^ b : Nat) : Int)) ∧ Below w.heap.size w w' := by
  have hz := z44
  have hzs : (zeros 32).size = 32 := by simp [zeros]
  generalize zeros 32 = Z at hz hzs
  have HZS := hid hzs
  clear hzs
  go_enter Try.func18, Try.ntmps18
  go_wp2_with fail
  refine (matof_any stp 11 #[] (fun args w => Try.call11 args w) w (step_fn w)).mono ?_
  rintro e w1 ⟨rfl, hb1⟩
  have H1 := hid hb1
  clear hb1
  have HR1 := hid (heap_alloc_last w1 (.cells Z 44))
  have HB1 := hid (H1.out.alloc H1.out.size (.cells Z 44))
  have HL1 := hid H1.out.size
  go_wp2_with (first
    | (refine wpList_store_row rfl 44 _ _ rfl w1.heap.size (mat stp) rfl rfl 44 Z HR1.out (s44m _) (by rw [HZS.out, mat_size]) (mat_one _) ?_)
    | (refine wpList_load_row rfl 44 _ rfl w1.heap.size rfl 44 (mat stp) (0, 0) _ (setRow_heap _ _ _ _ _ _ HR1.out) Try.underlying44 rfl (s44m stp) ?_))
  have HB1 := hid (below_setRow HB1.out HL1.out (mat stp))
  clear HR1
  generalize (w1.alloc (.cells Z 44)).setRow w1.heap.size (mat stp) = W1 at HB1 ⊢
  refine (sq_any stp stp_lin _).mono ?_
  rintro e w2 ⟨rfl, hb2⟩
  have HB2 := hid (HB1.out.trans (hb2.mono HB1.out.size))
  clear hb2 HB1
  go_wp2_with fail
  refine (sq_any _ (stp_lin.comp stp_lin) _).mono ?_
  rintro e w3 ⟨rfl, hb3⟩
  have HB3 := hid (HB2.out.trans (hb3.mono HB2.out.size))
  clear hb3 HB2
  go_wp2_with fail
  refine (sq_any _ ((stp_lin.comp stp_lin).comp (stp_lin.comp stp_lin)) _).mono ?_
  rintro e w4 ⟨rfl, hb4⟩
  rw [show (mat fun x => stp (stp (stp (stp (stp (stp (stp (stp x)))))))) = mat ei from rfl]
  have HB4 := hid (HB3.out.trans (hb4.mono HB3.out.size))
  clear hb4 HB3
  have HR4 := hid (heap_alloc_last w4 (.cells Z 44))
  have HB5 := hid (HB4.out.alloc HB4.out.size (.cells Z 44))
  have HL4 := hid HB4.out.size
  clear HB4
  go_wp2_with (first
    | (refine wpList_store_row rfl 44 _ _ rfl w4.heap.size (mat ei) rfl rfl 44 Z HR4.out (s44m _) (by rw [HZS.out, mat_size]) (mat_one _) ?_)
    | (refine wpList_load_row rfl 44 _ rfl w4.heap.size rfl 44 (mat ei) (0, 0) _ (setRow_heap _ _ _ _ _ _ HR4.out) Try.underlying44 rfl (s44m ei) ?_))
  have HB6 := hid (below_setRow HB5.out HL4.out (mat ei))
  clear HR4 HB5 HL4
  generalize (w4.alloc (.cells Z 44)).setRow w4.heap.size (mat ei) = W4 at HB6 ⊢
  refine (repeat_any ei ei_lin a ha n hn _).mono ?_
  rintro e w5 ⟨rfl, hb5⟩
  have HB7 := hid (HB6.out.trans (hb5.mono HB6.out.size))
  clear hb5 HB6
  have hx := xor32 _ _ (pw_lt ei_lin n.toNat a ha) hb
  go_wp2_with fail
  go_ret
  exact ⟨rfl, HB7.out⟩
end Go.Proofs.Ytlkeifciphehnaa.Crc
