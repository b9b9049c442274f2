/- The statements' fixed calls of rice: they answer true, and nothing that was there has turned. No condition. -/
import Derived.Test.YtgojdhffhocceaaPa
namespace Go.Proofs.Ytgojdhffhocceaa.Rice
open Go.RowKit Bit

theorem new_writer' (w : World) (t : TypeId) (B : Nat) (hB : B ≤ w.heap.size) : WrN (w.alloc (.cells #[.slice none 0 0, .int .u64 0, .int .i64 0] t)) B w.heap.size 0 none 0 0 0 := by
  refine ⟨?_, ?_, ?_, ?_, ?_, ?_, ?_, ?_, hB⟩
  · simp
  · simp
  · simp
  · simp
  · simp
  · simp
  · exact World.ownsRow_nil _ _ _ _
  · simp [blk]

/-- What a writer's calls leave below B, where the writer and its row lie from B on. -/
theorem pushed_below {w w' : World} {p B : Nat} {ao ao' : Option Addr} {k : Nat} (h : Pushed w w' p ao ao' k) (hp : B ≤ p) (hr : ∀ g, blk ao = some g → B ≤ g) (hB : B ≤ w.heap.size) : Below B w w' :=
  ⟨h.fr.os, h.fr.tape, h.fr.output, h.fr.size, fun k hk => h.fr.block k (by omega) (by
    rintro (e | e)
    · omega
    · have := hr k e; omega)⟩

theorem conv_row {w : World} {g m : Nat} {f : Nat → Nat} (h : w.rowIs g 5 m (fun i => .int .u8 (f i : Int))) :
    (convert 31 9 (.slice (some ⟨g, 0, none⟩) m m)).run Try.prog w = .ok (.string (strOfNums ((List.range m).map fun i => (f i : Int)))) w := by
  refine run_convert_bytes_arg (P := Try.prog) w 31 5 Try.underlying31 Try.underlying5 g 0 m m _ (by simp) ?_ 9 Try.underlying9
  intro i hi
  rw [Nat.zero_add, h.cell hi]
  simp [List.getD, hi]

set_option maxHeartbeats 800000 in
theorem known_true (w : World) : Calls Try.prog 9 #[] w fun e w' => e = .returned (.bool true) ∧ Below w.heap.size w w' := by
  have hw0 := new_writer' w 33 _ (Nat.le_refl _)
  have hb0 : Below w.heap.size w (w.alloc (.cells #[.slice none 0 0, .int .u64 0, .int .i64 0] 33)) := (Below.refl _ _).alloc (Nat.le_refl _) _
  have HB0 := hid hb0
  have hp : w.heap.size ≤ w.heap.size := Nat.le_refl _
  clear hb0
  go_enter Try.func9, Try.ntmps9
  go_wp2_with fail
  have hz := HB0.out.size
  generalize (w.alloc (.cells #[.slice none 0 0, .int .u64 0, .int .i64 0] 33)) = W at hw0 HB0 hz ⊢
  refine (rput_ok _ _ _ 11 (by decide) 2 (by decide) _ _ _ _ _ hw0 (by decide)).mono ?_
  rintro e w1 ⟨rfl, ao1, cap1, h1, p1⟩
  have b1 := HB0.out.trans (pushed_below p1 hp (fun g hg => (Wr.rlt hw0 g hg).1) hz)
  have HB1 := hid b1
  have h5 : WrN w1 w.heap.size w.heap.size 0 ao1 cap1 27 5 := h1
  clear b1 p1 hw0 HB0 hz h1
  go_wp2_with fail
  refine (bytes_any h5 (by decide)).mono ?_
  rintro e w5 ⟨rfl, b5, r5⟩
  have hc := conv_row r5
  have es : strOfNums ((List.range ((5 + 7) / 8)).map fun i => (bts 27 5 i : Int)) = ⟨#[216]⟩ := by decide +kernel
  rw [es] at hc
  have hw5 : WrN w5 w.heap.size w.heap.size 0 ao1 cap1 27 5 := Wr.keep h5 (Fr.of_below b5) (by have := Wr.plt h5; omega) (fun g hg => by have := (Wr.rlt h5 g hg).2; omega)
  have HB5 := hid (HB1.out.trans (b5.mono HB1.out.size))
  clear r5 b5 h5 HB1 es
  go_wp2_with fail
  refine (len_any hw5 (by decide)).mono ?_
  rintro e w6 ⟨rfl, nq, rfl⟩
  have hfin : Below w.heap.size w (w5.drewN nq) := HB5.out.trans ⟨rfl, rfl, rfl, Nat.le_refl _, fun _ _ => rfl⟩
  clear HB5 hw5 hc
  go_wp2_with fail
  refine (cost_any 24 0 (by decide) _).mono ?_
  rintro e w7 ⟨rfl, rfl⟩
  rw [show cost 24 0 = 64 from by decide]
  go_wp2_with fail
  go_ret
  exact ⟨rfl, hfin⟩
end Go.Proofs.Ytgojdhffhocceaa.Rice
