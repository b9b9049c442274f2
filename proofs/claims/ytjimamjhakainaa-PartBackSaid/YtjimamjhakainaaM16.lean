/- A reader of bits in memory and its methods Get, Align, At, Left, and Read: whatever is asked, what they answer, where the reader stands behind them, and that nothing else has turned. Conditions: fewer than 2^40 bytes. -/
import Derived.Test.YtjimamjhakainaaSBytes
namespace Go.Proofs.Ytjimamjhakainaa.Bit
open Go.RowKit

/-- n bits of the T bits of M, from place p on. -/
def seg (M T p n : Nat) : Nat := M / 2 ^ (T - p - n) % 2 ^ n
theorem seg_lt (M T p n : Nat) : seg M T p n < 2 ^ n := Nat.mod_lt _ (Nat.two_pow_pos n)
theorem seg_zero (M T p : Nat) : seg M T p 0 = 0 := Nat.mod_one _
theorem seg_take (M T p m n : Nat) (h : n ≤ m) (hT : p + m ≤ T) : seg M T p m / 2 ^ (m - n) = seg M T p n := by
  unfold seg
  have e1 : 2 ^ m = 2 ^ (m - n) * 2 ^ n := by rw [← Nat.pow_add, Nat.sub_add_cancel h]
  rw [e1, Nat.mod_mul_right_div_self, Nat.div_div_eq_div_mul, ← Nat.pow_add, show T - p - m + (m - n) = T - p - n from by omega]
theorem seg_app (M T p a b : Nat) (hT : p + (a + b) ≤ T) : seg M T p a * 2 ^ b + seg M T (p + a) b = seg M T p (a + b) := by
  unfold seg
  have e1 : T - p - a = (T - p - (a + b)) + b := by omega
  have e2 : T - (p + a) - b = T - p - (a + b) := by omega
  rw [e1, e2, Nat.pow_add 2 (T - p - (a + b)) b, ← Nat.div_div_eq_div_mul, Nat.pow_add 2 a b, Nat.mul_comm (2 ^ a) (2 ^ b), Nat.mod_mul, Nat.mul_comm (2 ^ b)]
  omega
/-- What is left of the byte in which the reader stands. -/
theorem seg_byte (M T p : Nat) (hT : p < 8 * T) : byt M (8 * T) (p / 8) % 2 ^ (8 - p % 8) = seg M (8 * T) p (8 - p % 8) := by
  unfold byt seg
  have e1 : 8 * T - p - (8 - p % 8) = 8 * T - 8 * (p / 8 + 1) := by omega
  have e2 : (2 : Nat) ^ (8 - p % 8) ∣ 256 := Nat.pow_dvd_pow 2 (show 8 - p % 8 ≤ 8 by omega)
  rw [e1, Nat.mod_mod_of_dvd _ e2]

/-- A reader at place p of the T bytes of M. -/
structure Rd (w : World) (q g M T p : Nat) : Prop where
  c0 : w.cell? ⟨q, 0, none⟩ = some (.slice (some ⟨g, 0, none⟩) T T)
  c1 : w.cell? ⟨q, 1, none⟩ = some (.int .i64 (p : Int))
  f1 : w.frozen? ⟨q, 1, none⟩ = false
  row : w.rowIs g 5 T (fun i => .int .u8 (byt M (8 * T) i : Int))
  ne : g ≠ q

theorem Rd.keep {w w' : World} {q g M T p : Nat} (h : Rd w q g M T p) {X : Nat → Prop} (hf : Fr X w w') (hq : ¬ X q) (hg : ¬ X g) : Rd w' q g M T p := by
  have lq : q < w.heap.size := World.block_lt_of_cell? w _ h.c0
  exact ⟨(hf.cell (p := ⟨q, 0, none⟩) lq hq).trans h.c0, (hf.cell (p := ⟨q, 1, none⟩) lq hq).trans h.c1, (hf.frozen (p := ⟨q, 1, none⟩) lq hq).trans h.f1, h.row.of_block (hf.block g h.row.lt hg), h.ne⟩
theorem Rd.move {w : World} {q g M T p : Nat} (h : Rd w q g M T p) (p' : Nat) : Rd (w.setCell ⟨q, 1, none⟩ (.int .i64 (p' : Int))) q g M T p' :=
  ⟨by rw [World.cell?_setCell_other _ _ _ _ (by intro e; simp at e)]; exact h.c0, World.cell?_setCell_same _ _ _ (by rw [h.c1]), by rw [frozen_setCell]; exact h.f1, h.row.setOther h.ne _, h.ne⟩
theorem Rd.drewN {w : World} {q g M T p : Nat} (h : Rd w q g M T p) (n : Nat) : Rd (w.drewN n) q g M T p := h.keep (X := fun _ => False) ((Fr.refl _ _).drewN n) (fun x => x) (fun x => x)

theorem rleft_any {w : World} {q g M T p : Nat} (h : Rd w q g M T p) (hp : p ≤ 8 * T) (hT : T ≤ 1099511627776) :
    Calls Try.prog 78 #[.pointer (some ⟨q, 0, none⟩)] w fun e w' => e = .returned (.int .i64 ((8 * T - p : Nat) : Int)) ∧ ∃ nq, w' = w.drewN nq := by
  have c0 := h.c0; have c1 := h.c1
  go_enter Try.func78, Try.ntmps78
  go_wp2
  go_quiet (fail)
  go_wp2
  go_ret
  exact ⟨congrArg (fun x => Ending.returned (.int .i64 x)) (by omega), _, rfl⟩
theorem rat_any {w : World} {q g M T p : Nat} (h : Rd w q g M T p) :
    Calls Try.prog 30 #[.pointer (some ⟨q, 0, none⟩)] w fun e w' => e = .returned (.int .i64 (p : Int)) ∧ w = w' := by
  have c1 := h.c1
  go_enter Try.func30, Try.ntmps30
  go_wp2
  go_ret
  exact ⟨rfl, rfl⟩

set_option maxHeartbeats 800000 in
theorem piece_any {w : World} {q g M T p : Nat} (h : Rd w q g M T p) (hp : p < 8 * T) (hT : T ≤ 1099511627776) :
    Calls Try.prog 79 #[.pointer (some ⟨q, 0, none⟩)] w fun e w' => e = .returned (.tuple #[.int .u64 (seg M (8 * T) p (8 - p % 8) : Int), .int .i64 ((8 - p % 8 : Nat) : Int)]) ∧ ∃ nq, w' = w.drewN nq := by
  have c0 := h.c0; have c1 := h.c1
  have hc := h.row.cell (i := p / 8) (by omega)
  have hb := byt_lt M (8 * T) (p / 8)
  have hseg := seg_byte M T p hp
  have hi1 : (0 : Int) ≤ (p : Int) / 8 := by omega
  have hi2 : (p : Int) / 8 < (T : Int) := by omega
  have hm1 : (0 : Int) ≤ 8 - (p : Int) % 8 := by omega
  have hm2 : 8 - (p : Int) % 8 ≤ 64 := by omega
  generalize hB : byt M (8 * T) (p / 8) = bb at *
  have HB := hid hB
  have HS := hid hseg
  clear hB hseg h
  go_enter Try.func79, Try.ntmps79
  go_wp2
  go_quiet (fail)
  go_wp2
  rw [and_mask bb (8 - p % 8) (by omega) (by omega), HS.out]
  go_ret2
  exact ⟨congrArg (fun x => Ending.returned (.tuple #[.int .u64 _, .int .i64 x])) (by omega), _, rfl⟩

theorem get_nil (n : Int) (w : World) : Calls Try.prog 54 #[.pointer none, .int .i64 n] w fun e w' => e = .returned (.tuple #[.int .u64 0, .int .i64 2]) ∧ w = w' := by
  go_enter Try.func54, Try.ntmps54
  go_wp2_with fail
  go_ret2
  exact ⟨rfl, rfl⟩
theorem get_arg (a : Addr) (n : Int) (w : World) (hn : n < 0 ∨ 64 < n) : Calls Try.prog 54 #[.pointer (some a), .int .i64 n] w fun e w' => e = .returned (.tuple #[.int .u64 0, .int .i64 1]) ∧ w = w' := by
  rcases hn with hn | hn
  · go_enter Try.func54, Try.ntmps54
    go_wp2_with fail
    go_ret2
    exact ⟨rfl, rfl⟩
  · have h0 : ¬ n < 0 := by omega
    go_enter Try.func54, Try.ntmps54
    go_wp2_with fail
    go_ret2
    exact ⟨rfl, rfl⟩
theorem get_end {w : World} {q g M T p : Nat} (h : Rd w q g M T p) (hp : p ≤ 8 * T) (hT : T ≤ 1099511627776) (n : Nat) (hn : n ≤ 64) (hend : 8 * T < p + n) :
    Calls Try.prog 54 #[.pointer (some ⟨q, 0, none⟩), .int .i64 n] w fun e w' => e = .returned (.tuple #[.int .u64 0, .int .i64 10]) ∧ ∃ nq, w' = w.drewN nq := by
  have h0 : ¬ (n : Int) < 0 := by omega
  have h1 : ¬ (64 : Int) < n := by omega
  have h2 : ((8 * T - p : Nat) : Int) < (n : Int) := by omega
  go_enter Try.func54, Try.ntmps54
  go_wp2_with fail
  refine (rleft_any h hp hT).mono ?_
  rintro e w1 ⟨rfl, nq, rfl⟩
  go_wp2_with fail
  go_ret2
  exact ⟨rfl, nq, rfl⟩

theorem seg_comb (M T p j b : Nat) (hT : p + (j + b) ≤ T) (h64 : j + b ≤ 64) :
    bits .or .u64 (IntKind.u64.wrap ((seg M T p j : Int) * 2 ^ b)) (seg M T (p + j) b : Int) = (seg M T p (j + b) : Nat) := by
  have h1 := seg_lt M T p (j + b)
  have h2 : 2 ^ (j + b) ≤ 2 ^ 64 := Nat.pow_le_pow_right (by decide) h64
  rw [shl_or _ _ _ (seg_lt M T (p + j) b) (by rw [seg_app M T p j b hT]; omega), seg_app M T p j b hT]

/-- What Get leaves: the bits, and the reader behind them. -/
def Got (w : World) (q g M T p n : Nat) (e : Ending) (w' : World) : Prop :=
  e = .returned (.tuple #[.int .u64 (seg M (8 * T) p n : Int), .int .i64 0]) ∧ Rd w' q g M T (p + n) ∧ Fr (fun b => b = q) w w'

set_option maxHeartbeats 800000 in
theorem get_ok {w : World} {q g M T p : Nat} (h : Rd w q g M T p) (hT : T ≤ 1099511627776) (n : Nat) (hn : n ≤ 64) (hend : p + n ≤ 8 * T) :
    Calls Try.prog 54 #[.pointer (some ⟨q, 0, none⟩), .int .i64 n] w (Got w q g M T p n) := by
  have h0 : ¬ (n : Int) < 0 := by omega
  have h1 : ¬ (64 : Int) < n := by omega
  have h2 : decide (8 * T - p < n) = false := by simp; omega
  go_enter Try.func54, Try.ntmps54
  go_wp2_with fail
  refine (rleft_any h (by omega) hT).mono ?_
  rintro e w1 ⟨rfl, nq, rfl⟩
  have hr := h.drewN nq
  have hf : Fr (fun b => b = q) w (w.drewN nq) := (Fr.refl _ _).drewN nq
  clear h
  generalize w.drewN nq = W at hr hf ⊢
  go_wp2_with fail
  go_loopg [1, 6] n (fun g' x v wr => ∃ j : Nat, j ≤ n ∧ g' = n - j ∧ x = .int .i64 ((n : Int) - j) ∧ v = .int .u64 (seg M (8 * T) p j : Int) ∧ Rd wr q g M T (p + j) ∧ Fr (fun b => b = q) w wr)
  case atStart => exact ⟨0, Nat.zero_le _, rfl, by simp, by rw [seg_zero]; rfl, hr, hf⟩
  case round =>
    obtain ⟨j, hj, hg, rfl, rfl, hr1, hf1⟩ := hrel
    have HG := hid hg
    clear hg hr hf
    by_cases hlt : j < n
    · have hlt1 : (0 : Int) < (n : Int) - j := by omega
      go_wp2_with fail
      refine (piece_any hr1 (by omega) hT).mono ?_
      rintro e w2 ⟨rfl, nq2, rfl⟩
      have hr2 := hr1.drewN nq2
      have hf2 := hf1.drewN nq2
      have hc1 := hr2.c1
      have hfr := hr2.f1
      clear hr1 hf1
      by_cases hm : n - j < 8 - (p + j) % 8
      · have hm1 : (n : Int) - j < ((8 - (p + j) % 8 : Nat) : Int) := by omega
        go_wp2_with fail
        have hv : bits .or .u64 (IntKind.u64.wrap ((seg M (8 * T) p j : Int) * 2 ^ (n - j))) ((seg M (8 * T) (p + j) (8 - (p + j) % 8) : Int) / 2 ^ (8 - (p + j) % 8 - (n - j))) = (seg M (8 * T) p n : Nat) := by
          rw [shr_nat, seg_take M (8 * T) (p + j) _ (n - j) (by omega) (by omega), seg_comb M (8 * T) p j (n - j) (by omega) (by omega), show j + (n - j) = n from by omega]
        have hmv := hr2.move (p + n)
        have hfm := hf2.setCell (p := ⟨q, 1, none⟩) rfl (.int .i64 ((p + n : Nat) : Int))
        have e1 : (p : Int) + j + (n - j) = ((p + n : Nat) : Int) := by omega
        go_roundg 0
        case measure => rw [HG.out]; omega
        case rel => exact ⟨n, Nat.le_refl _, by omega, by simp, by rw [hv], by rw [e1]; exact hmv, by rw [e1]; exact hfm⟩
      · have hm1 : ¬ (n : Int) - j < ((8 - (p + j) % 8 : Nat) : Int) := by omega
        go_wp2_with fail
        have hv := seg_comb M (8 * T) p j (8 - (p + j) % 8) (by omega) (by omega)
        have hmv := hr2.move (p + (j + (8 - (p + j) % 8)))
        have hfm := hf2.setCell (p := ⟨q, 1, none⟩) rfl (.int .i64 ((p + (j + (8 - (p + j) % 8)) : Nat) : Int))
        have e1 : (p : Int) + j + ((8 - (p + j) % 8 : Nat) : Int) = ((p + (j + (8 - (p + j) % 8)) : Nat) : Int) := by omega
        have e2 : (n : Int) - j - ((8 - (p + j) % 8 : Nat) : Int) = (n : Int) - ((j + (8 - (p + j) % 8) : Nat) : Int) := by omega
        go_roundg (n - (j + (8 - (p + j) % 8)))
        case measure => rw [HG.out]; omega
        case rel => exact ⟨j + (8 - (p + j) % 8), by omega, rfl, by rw [e2], by rw [hv], by rw [e1]; exact hmv, by rw [e1]; exact hfm⟩
    · have hge : ¬ (0 : Int) < (n : Int) - j := by omega
      obtain rfl : j = n := by omega
      go_wp2_with fail
      go_ret2
      exact ⟨rfl, hr1, hf1⟩
end Go.Proofs.Ytjimamjhakainaa.Bit
/- Read and a reader's Align: a reader at the first bit of a copy of the bytes; bits 0 up to a multiple of eight are gone over, others are refused. Conditions: fewer than 2^40 bytes. -/
namespace Go.Proofs.Ytjimamjhakainaa.Bit
open Go.RowKit

set_option maxHeartbeats 800000 in
theorem read_any (w : World) (ao : Option Addr) (T cap M : Nat) (hT : T ≤ 1099511627776) (hc : ∀ j, j < T → ∃ a, ao = some a ∧ w.cell? (a.add j) = some (.int .u8 (byt M (8 * T) j : Int))) (ha : ∀ a, ao = some a → 0 < T → a.block < w.heap.size) :
    Calls Try.prog 27 #[.slice ao T cap] w fun e w' => ∃ q, e = .returned (.pointer (some ⟨q, 0, none⟩)) ∧ w.heap.size < q ∧ Below w.heap.size w w' ∧ Rd w' q w.heap.size M T 0 := by
  have hmk : ∀ w, (Instr.makeSlice 41 (.int .i64 (T : Int)) (.int .i64 (T : Int))).run Try.prog w = .ok (.slice (some ⟨w.heap.size, 0, none⟩) T T) (w.alloc (.cells (madeCells #[.int .u8 0] T) 5)) := fun w =>
    run_make_row' (P := Try.prog) 41 5 (.int .u8 0) 1 Try.underlying41 Try.info5 rfl .i64 .i64 T (by omega) (by omega) w
  have hcs : ((List.range T).map fun i => (Value.int .u8 (byt M (8 * T) i : Int))).length = Nat.min T T := by
    rw [List.length_map, List.length_range]; exact (Nat.min_self _).symm
  have hpos : ∀ ob, 0 < ((List.range T).map fun i => (Value.int .u8 (byt M (8 * T) i : Int))).length → (some (⟨w.heap.size, 0, none⟩ : Addr)) = some ⟨w.heap.size, 0, none⟩ ∧
      ∃ ad, ao = some ad ∧ ∀ j v, ((List.range T).map fun i => (Value.int .u8 (byt M (8 * T) i : Int)))[j]? = some v → (w.alloc ob).cell? (ad.add j) = some v := by
    intro ob h0
    simp at h0
    obtain ⟨a, rfl, _⟩ := hc 0 h0
    refine ⟨rfl, a, rfl, fun j v hj => ?_⟩
    have hjT : j < T := by
      have := (List.getElem?_eq_some_iff.1 hj).1
      simpa using this
    obtain ⟨a', e', hcell⟩ := hc j hjT
    cases e'
    have hb : (a.add j).block = a.block := by unfold Addr.add; split <;> rfl
    rw [World.cell?_of_block (a := a.add j) (w := w) (by rw [hb]; exact RowKit.Below.heap_alloc _ _ _ (ha a rfl h0)), hcell]
    simpa [hjT] using hj
  have hg0 : (w.alloc (.cells (madeCells #[.int .u8 0] T) 5)).heap[w.heap.size]? = some (.cells ((madeCells #[.int .u8 0] T).toList).toArray 5 (0, 0)) := by
    rw [Array.toArray_toList]; exact heap_alloc_new w _
  have hfit : 0 + ((List.range T).map fun i => (Value.int .u8 (byt M (8 * T) i : Int))).length ≤ ((madeCells #[Value.int .u8 0] T).toList).length := by
    rw [List.length_map, List.length_range, Array.length_toList, size_madeCells]; simp
  have h1c : ∀ v ∈ (List.range T).map fun i => (Value.int .u8 (byt M (8 * T) i : Int)), v.oneCell' = true := by
    intro v hv
    obtain ⟨i, _, rfl⟩ := List.mem_map.1 hv
    rfl
  have hbel1 : ∀ ob, Below w.heap.size w (w.alloc ob) := fun ob => (Below.refl _ _).alloc (Nat.le_refl _) ob
  have hinf : (Try.prog.info? 5).map (·.size) = some 1 := by kernel_rfl
  have hsz1 : ∀ ob, (w.alloc ob).heap.size = w.heap.size + 1 := fun ob => by simp
  have HCS := hid hcs; have HPOS := hid hpos; have HG0 := hid hg0; have HFIT := hid hfit; have H1C := hid h1c; have HB := hid hbel1; have HINF := hid hinf
  clear hcs hpos hg0 hfit h1c hbel1 hinf hc ha hsz1
  go_enter Try.func27, Try.ntmps27
  go_wp2_with (refine wpList_copy_splice rfl (.tmp 7) (.tmp 8) 41 41 rfl 5 Try.underlying41 HINF.out (some ⟨w.heap.size, 0, none⟩) ao T T T cap rfl rfl w.heap.size 0 _ 5 HG0.out _ HCS.out (fun h0 => ⟨rfl, (HPOS.out _ h0).2⟩) HFIT.out H1C.out w.heap.size w (HB.out _) (Nat.le_refl _) ?_)
  intro w1 hcells hb1
  have hrow := row_splice hcells.out (Nat.le_refl T)
  have hlt := hrow.lt
  clear hcells HPOS HG0 HCS HFIT H1C HB HINF hmk
  have hfin : ∃ q, w1.heap.size = q ∧ w.heap.size < q ∧ Below w.heap.size w (w1.alloc (.cells #[.slice (some ⟨w.heap.size, 0, none⟩) T T, .int .i64 0] 80)) ∧ Rd (w1.alloc (.cells #[.slice (some ⟨w.heap.size, 0, none⟩) T T, .int .i64 0] 80)) q w.heap.size M T 0 := by
    refine ⟨_, rfl, hlt, hb1.alloc hb1.size _, ⟨by simp, by simp, by simp, (hrow.alloc _).congr fun i hi => by rw [if_pos hi], by omega⟩⟩
  obtain ⟨q, hq, h1, h2, h3⟩ := hfin
  have HQ := hid hq
  clear hrow hlt hb1 hq
  go_wp2_with fail
  go_ret
  exact ⟨q, by rw [HQ.out]; rfl, h1, h2, h3⟩

/-- Where Align leads, and its answer. -/
def alignS (M T p : Nat) : Nat × Int := if p % 8 = 0 then (p, 0) else if seg M (8 * T) p (8 - p % 8) = 0 then (p + (8 - p % 8), 0) else (p, 11)
theorem alignS_le (M T p : Nat) (hp : p ≤ 8 * T) : p ≤ (alignS M T p).1 ∧ (alignS M T p).1 ≤ 8 * T := by
  unfold alignS
  split
  · exact ⟨Nat.le_refl _, hp⟩
  · split
    · exact ⟨by simp, by simp; omega⟩
    · exact ⟨Nat.le_refl _, hp⟩
def Aligned (w : World) (q g M T p : Nat) (e : Ending) (w' : World) : Prop :=
  e = .returned (.int .i64 (alignS M T p).2) ∧ Rd w' q g M T (alignS M T p).1 ∧ Fr (fun b => b = q) w w'

end Go.Proofs.Ytjimamjhakainaa.Bit
