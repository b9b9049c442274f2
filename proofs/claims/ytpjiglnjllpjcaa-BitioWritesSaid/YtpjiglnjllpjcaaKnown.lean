/- The statements' fixed calls of a writer: they answer true, and nothing that was there has turned. No condition. -/
import Derived.Test.YtpjiglnjllpjcaaBytes
import Derived.Laws.BytesArg
import Derived.Deep.RegionWith
namespace Go.Proofs.Ytpjiglnjllpjcaa.Bit
open Go.RowKit

theorem new_writer (w : World) (t : TypeId) : WrN (w.alloc (.cells #[.slice none 0 0, .int .u64 0, .int .i64 0] t)) w.heap.size w.heap.size 0 none 0 0 0 := by
  refine ⟨?_, ?_, ?_, ?_, ?_, ?_, ?_, ?_, Nat.le_refl _⟩
  · simp
  · simp
  · simp
  · simp
  · simp
  · simp
  · exact World.ownsRow_nil _ _ _ _
  · simp [blk]

/-- What a writer's calls leave below B, where the writer and its row lie from B on. -/
theorem Pushed.below {w w' : World} {p B : Nat} {ao ao' : Option Addr} {k : Nat} (h : Pushed w w' p ao ao' k) (hp : B ≤ p) (hr : ∀ g, blk ao = some g → B ≤ g) (hB : B ≤ w.heap.size) : Below B w w' :=
  ⟨h.fr.os, h.fr.tape, h.fr.output, h.fr.size, fun k hk => h.fr.block k (by omega) (by
    rintro (e | e)
    · omega
    · have := hr k e; omega)⟩

theorem conv_row {w : World} {g m : Nat} {f : Nat → Nat} (h : w.rowIs g 5 m (fun i => .int .u8 (f i : Int))) :
    (convert 26 9 (.slice (some ⟨g, 0, none⟩) m m)).run Try.prog w = .ok (.string (strOfNums ((List.range m).map fun i => (f i : Int)))) w := by
  refine run_convert_bytes_arg (P := Try.prog) w 26 5 Try.underlying26 Try.underlying5 g 0 m m _ (by simp) ?_ 9 Try.underlying9
  intro i hi
  rw [Nat.zero_add, h.cell hi]
  simp [List.getD, hi]

set_option maxHeartbeats 800000 in
theorem known_true (w : World) : Calls Try.prog 9 #[] w fun e w' => e = .returned (.bool true) ∧ Below w.heap.size w w' := by
  have hw0 := new_writer w 29
  have hb0 : Below w.heap.size w (w.alloc (.cells #[.slice none 0 0, .int .u64 0, .int .i64 0] 29)) := (Below.refl _ _).alloc (Nat.le_refl _) _
  have HB0 := hid hb0
  have hp : w.heap.size ≤ w.heap.size := Nat.le_refl _
  clear hb0
  go_enter Try.func9, Try.ntmps9
  go_wp2_with fail
  have hz := HB0.out.size
  generalize (w.alloc (.cells #[.slice none 0 0, .int .u64 0, .int .i64 0] 29)) = W at hw0 HB0 hz ⊢
  refine (put_ok _ _ _ 5 3 _ _ _ _ _ hw0 (by decide) (by decide) (by decide)).mono ?_
  rintro e w1 ⟨rfl, ao1, cap1, h1, p1⟩
  have b1 := HB0.out.trans (p1.below hp (fun g hg => (Wr.rlt hw0 g hg).1) hz)
  have HB1 := hid b1
  clear b1 p1 hw0 HB0 hz
  go_wp2_with fail
  refine (ones_ok _ _ _ 2 _ _ _ _ _ h1 (by decide) (by decide)).mono ?_
  rintro e w2 ⟨rfl, ao2, cap2, h2, p2⟩
  have b2 := HB1.out.trans (p2.below hp (fun g hg => (Wr.rlt h1 g hg).1) HB1.out.size)
  have HB2 := hid b2
  clear b2 p2 h1 HB1
  go_wp2_with fail
  refine (zeros_ok _ _ _ 1 _ _ _ _ _ h2 (by decide) (by decide)).mono ?_
  rintro e w3 ⟨rfl, ao3, cap3, h3, p3⟩
  have b3 := HB2.out.trans (p3.below hp (fun g hg => (Wr.rlt h2 g hg).1) HB2.out.size)
  have HB3 := hid b3
  clear b3 p3 h2 HB2
  go_wp2_with fail
  refine (put_ok _ _ _ 1 4 _ _ _ _ _ h3 (by decide) (by decide) (by decide)).mono ?_
  rintro e w4 ⟨rfl, ao4, cap4, h4, p4⟩
  have b4 := HB3.out.trans (p4.below hp (fun g hg => (Wr.rlt h3 g hg).1) HB3.out.size)
  have HB4 := hid b4
  have h5 : WrN w4 w.heap.size w.heap.size 0 ao4 cap4 737 10 := h4
  clear b4 p4 h3 HB3 h4
  go_wp2_with fail
  refine (bytes_any h5 (by decide)).mono ?_
  rintro e w5 ⟨rfl, b5, r5⟩
  have hc := conv_row r5
  have es : strOfNums ((List.range ((10 + 7) / 8)).map fun i => (bts 737 10 i : Int)) = ⟨#[184, 64]⟩ := by decide +kernel
  rw [es] at hc
  have hw5 : WrN w5 w.heap.size w.heap.size 0 ao4 cap4 737 10 := Wr.keep h5 (Fr.of_below b5) (by have := Wr.plt h5; omega) (fun g hg => by have := (Wr.rlt h5 g hg).2; omega)
  have HB5 := hid (HB4.out.trans (b5.mono HB4.out.size))
  clear r5 b5 h5 HB4 es
  go_wp2_with fail
  refine (len_any hw5 (by decide)).mono ?_
  rintro e w6 ⟨rfl, nq, rfl⟩
  have hfin : Below w.heap.size w (w5.drewN nq) := HB5.out.trans ⟨rfl, rfl, rfl, Nat.le_refl _, fun _ _ => rfl⟩
  clear HB5 hw5 hc
  go_wp2_with fail
  go_ret
  exact ⟨rfl, hfin⟩
end Go.Proofs.Ytpjiglnjllpjcaa.Bit
