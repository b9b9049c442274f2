/- Read and a reader's Align: a reader at the first bit of a copy of the bytes; bits 0 up to a multiple of eight are gone over, others are refused. Conditions: fewer than 2^40 bytes. -/
import Derived.Test.YtjimamjhakainaaRd
namespace Go.Proofs.Ytjimamjhakainaa.Bit
open Go.RowKit

set_option maxHeartbeats 800000 in
theorem read_any (w : World) (ao : Option Addr) (T cap M : Nat) (hT : T ≤ 1099511627776) (hc : ∀ j, j < T → ∃ a, ao = some a ∧ w.cell? (a.add j) = some (.int .u8 (byt M (8 * T) j : Int))) (ha : ∀ a, ao = some a → 0 < T → a.block < w.heap.size) :
    Calls Try.prog 27 #[.slice ao T cap] w fun e w' => ∃ q, e = .returned (.pointer (some ⟨q, 0, none⟩)) ∧ w.heap.size < q ∧ Below w.heap.size w w' ∧ Rd w' q w.heap.size M T 0 := by
  have hmk : ∀ w, (Instr.makeSlice 41 (.int .i64 (T : Int)) (.int .i64 (T : Int))).run Try.prog w = .ok (.slice (some ⟨w.heap.size, 0, none⟩) T T) (w.alloc (.cells (madeCells #[.int .u8 0] T) 5)) := fun w =>
    run_make_row' (P := Try.prog) 41 5 (.int .u8 0) 1 Try.underlying41 Try.info5 rfl .i64 .i64 T (by omega) (by omega) w
  have hcs : ((List.range T).map fun i => (Value.int .u8 (byt M (8 * T) i : Int))).length = Nat.min T T := by
    rw [List.length_map, List.length_range]; exact (Nat.min_self _).symm
  have hpos : ∀ ob, 0 < ((List.range T).map fun i => (Value.int .u8 (byt M (8 * T) i : Int))).length → (some (⟨w.heap.size, 0, none⟩ : Addr)) = some ⟨w.heap.size, 0, none⟩ ∧
      ∃ ad, ao = some ad ∧ ∀ j v, ((List.range T).map fun i => (Value.int .u8 (byt M (8 * T) i : Int)))[j]? = some v → (w.alloc ob).cell? (ad.add j) = some v := by
    intro ob h0
    simp at h0
    obtain ⟨a, rfl, _⟩ := hc 0 h0
    refine ⟨rfl, a, rfl, fun j v hj => ?_⟩
    have hjT : j < T := by
      have := (List.getElem?_eq_some_iff.1 hj).1
      simpa using this
    obtain ⟨a', e', hcell⟩ := hc j hjT
    cases e'
    have hb : (a.add j).block = a.block := by unfold Addr.add; split <;> rfl
    rw [World.cell?_of_block (a := a.add j) (w := w) (by rw [hb]; exact RowKit.Below.heap_alloc _ _ _ (ha a rfl h0)), hcell]
    simpa [hjT] using hj
  have hg0 : (w.alloc (.cells (madeCells #[.int .u8 0] T) 5)).heap[w.heap.size]? = some (.cells ((madeCells #[.int .u8 0] T).toList).toArray 5 (0, 0)) := by
    rw [Array.toArray_toList]; exact heap_alloc_new w _
  have hfit : 0 + ((List.range T).map fun i => (Value.int .u8 (byt M (8 * T) i : Int))).length ≤ ((madeCells #[Value.int .u8 0] T).toList).length := by
    rw [List.length_map, List.length_range, Array.length_toList, size_madeCells]; simp
  have h1c : ∀ v ∈ (List.range T).map fun i => (Value.int .u8 (byt M (8 * T) i : Int)), v.oneCell' = true := by
    intro v hv
    obtain ⟨i, _, rfl⟩ := List.mem_map.1 hv
    rfl
  have hbel1 : ∀ ob, Below w.heap.size w (w.alloc ob) := fun ob => (Below.refl _ _).alloc (Nat.le_refl _) ob
  have hinf : (Try.prog.info? 5).map (·.size) = some 1 := by kernel_rfl
  have hsz1 : ∀ ob, (w.alloc ob).heap.size = w.heap.size + 1 := fun ob => by simp
  have HCS := hid hcs; have HPOS := hid hpos; have HG0 := hid hg0; have HFIT := hid hfit; have H1C := hid h1c; have HB := hid hbel1; have HINF := hid hinf
  clear hcs hpos hg0 hfit h1c hbel1 hinf hc ha hsz1
  go_enter Try.func27, Try.ntmps27
  go_wp2_with (refine wpList_copy_splice rfl (.tmp 7) (.tmp 8) 41 41 rfl 5 Try.underlying41 HINF.out (some ⟨w.heap.size, 0, none⟩) ao T T T cap rfl rfl w.heap.size 0 _ 5 HG0.out _ HCS.out (fun h0 => ⟨rfl, (HPOS.out _ h0).2⟩) HFIT.out H1C.out w.heap.size w (HB.out _) (Nat.le_refl _) ?_)
  intro w1 hcells hb1
  have hrow := row_splice hcells.out (Nat.le_refl T)
  have hlt := hrow.lt
  clear hcells HPOS HG0 HCS HFIT H1C HB HINF hmk
  have hfin : ∃ q, w1.heap.size = q ∧ w.heap.size < q ∧ Below w.heap.size w (w1.alloc (.cells #[.slice (some ⟨w.heap.size, 0, none⟩) T T, .int .i64 0] 80)) ∧ Rd (w1.alloc (.cells #[.slice (some ⟨w.heap.size, 0, none⟩) T T, .int .i64 0] 80)) q w.heap.size M T 0 := by
    refine ⟨_, rfl, hlt, hb1.alloc hb1.size _, ⟨by simp, by simp, by simp, (hrow.alloc _).congr fun i hi => by rw [if_pos hi], by omega⟩⟩
  obtain ⟨q, hq, h1, h2, h3⟩ := hfin
  have HQ := hid hq
  clear hrow hlt hb1 hq
  go_wp2_with fail
  go_ret
  exact ⟨q, by rw [HQ.out]; rfl, h1, h2, h3⟩

/-- Where Align leads, and its answer. -/
def alignS (M T p : Nat) : Nat × Int := if p % 8 = 0 then (p, 0) else if seg M (8 * T) p (8 - p % 8) = 0 then (p + (8 - p % 8), 0) else (p, 11)
theorem alignS_le (M T p : Nat) (hp : p ≤ 8 * T) : p ≤ (alignS M T p).1 ∧ (alignS M T p).1 ≤ 8 * T := by
  unfold alignS
  split
  · exact ⟨Nat.le_refl _, hp⟩
  · split
    · exact ⟨by simp, by simp; omega⟩
    · exact ⟨Nat.le_refl _, hp⟩
def Aligned (w : World) (q g M T p : Nat) (e : Ending) (w' : World) : Prop :=
  e = .returned (.int .i64 (alignS M T p).2) ∧ Rd w' q g M T (alignS M T p).1 ∧ Fr (fun b => b = q) w w'

end Go.Proofs.Ytjimamjhakainaa.Bit
