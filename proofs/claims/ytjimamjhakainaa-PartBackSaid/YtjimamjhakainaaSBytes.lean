/- The method Bytes of a writer of bits: new bytes, the writer's bits eight a byte, and bits 0 up to the last one's end; nothing else has turned. Conditions: the writer has fewer than 2^43 bits. -/
import Derived.Test.YtjimamjhakainaaM04
import Derived.Deep.OwnRows
import Derived.Laws.CopyOwn
namespace Go.Proofs.Ytjimamjhakainaa.Bit
open Go.RowKit

/-- The bits of a writer and bits 0 up to whole bytes, as a number. -/
def pad (N L : Nat) : Nat := N * 2 ^ (8 * ((L + 7) / 8) - L)
def bts (N L i : Nat) : Nat := byt (pad N L) (8 * ((L + 7) / 8)) i

theorem bts_whole (N L i : Nat) (hi : i < L / 8) : bts N L i = byt N L i := by
  unfold bts pad
  have h := byt_put N L 0 (8 * ((L + 7) / 8) - L) i (Nat.two_pow_pos _) hi
  rw [Nat.add_zero, show L + (8 * ((L + 7) / 8) - L) = 8 * ((L + 7) / 8) from by omega] at h
  exact h
theorem bts_last (N L : Nat) (hL : 0 < L % 8) : bts N L (L / 8) = N % 2 ^ (L % 8) * 2 ^ (8 - L % 8) := by
  unfold bts pad byt
  have e1 : 8 * ((L + 7) / 8) - 8 * (L / 8 + 1) = 0 := by omega
  have e2 : 8 * ((L + 7) / 8) - L = 8 - L % 8 := by omega
  rw [e1, e2, Nat.pow_zero, Nat.div_one]
  have e3 : (256 : Nat) = 2 ^ (L % 8) * 2 ^ (8 - L % 8) := by rw [← Nat.pow_add, show L % 8 + (8 - L % 8) = 8 from by omega]
  rw [e3, Nat.mul_mod_mul_right]
theorem last_lt (R E : Nat) (hR : R < 2 ^ E) (hE : E ≤ 8) : R * 2 ^ (8 - E) < 256 := by
  have : R * 2 ^ (8 - E) < 2 ^ E * 2 ^ (8 - E) := Nat.mul_lt_mul_of_pos_right hR (Nat.two_pow_pos _)
  rw [← Nat.pow_add, show E + (8 - E) = 8 from by omega] at this
  exact this

theorem Fr.of_below {B : Nat} {w w' : World} (h : Below B w w') : Fr (fun k => B ≤ k) w w' := ⟨h.os, h.tape, h.output, h.size, fun k _ hx => h.block k (by omega)⟩

theorem row_splice {w : World} {g m k : Nat} {f : Nat → Nat} (h : w.heap[g]? = some (.cells (splice (madeCells #[Value.int .u8 0] m).toList 0 ((List.range k).map fun i => .int .u8 (f i : Int))).toArray 5 (0, 0))) (hk : k ≤ m) :
    w.rowIs g 5 m (fun i => if i < k then .int .u8 (f i : Int) else .int .u8 0) := by
  refine ⟨_, h, ?_, ?_⟩
  · simp [splice, size_madeCells]; omega
  · intro i hi
    simp only [splice, List.take_zero, List.nil_append, List.length_map, List.length_range, Nat.zero_add, List.getElem?_toArray]
    by_cases hik : i < k
    · rw [List.getElem?_append_left (by simpa using hik)]
      simp [hik]
    · rw [List.getElem?_append_right (by simp; omega)]
      simp [hik, madeCells, Nat.mod_one]
      exact ⟨_, List.getElem?_eq_getElem (by simp; omega)⟩

theorem bytes_nil (w : World) : Calls Try.prog 25 #[.pointer none] w fun e w' => e = .returned (.slice none 0 0) ∧ w = w' := by
  go_enter Try.func25, Try.ntmps25
  go_wp2
  go_ret
  exact ⟨rfl, rfl⟩

set_option maxHeartbeats 800000 in
theorem bytes_any {B p o : Nat} {ao : Option Addr} {cap N L : Nat} {w : World} (hw : WrN w B p o ao cap N L) (hL : L ≤ 7000000000000) :
    Calls Try.prog 25 #[.pointer (some ⟨p, o, none⟩)] w fun e w' => e = .returned (.slice (some ⟨w.heap.size, 0, none⟩) ((L + 7) / 8) ((L + 7) / 8)) ∧
      Below w.heap.size w w' ∧ w'.rowIs w.heap.size 5 ((L + 7) / 8) (fun i => .int .u8 (bts N L i : Int)) := by
  have em : (((L : Int) + 7) / 8) = (((L + 7) / 8 : Nat) : Int) := by omega
  have hmk : ∀ w, (Instr.makeSlice 41 (.int .i64 (((L : Int) + 7) / 8)) (.int .i64 (((L : Int) + 7) / 8))).run Try.prog w = .ok (.slice (some ⟨w.heap.size, 0, none⟩) ((L + 7) / 8) ((L + 7) / 8)) (w.alloc (.cells (madeCells #[.int .u8 0] ((L + 7) / 8)) 5)) := fun w => by
    rw [em]
    exact run_make_row' (P := Try.prog) 41 5 (.int .u8 0) 1 Try.underlying41 Try.info5 rfl .i64 .i64 ((L + 7) / 8) (by omega) (by omega) w
  clear em
  go_enter Try.func25, Try.ntmps25
  go_wp2_with fail
  refine (len_any hw (by omega)).mono ?_
  rintro e w1 ⟨rfl, nq, rfl⟩
  have hw1 := hw.drewN nq
  have hbel : Below w.heap.size w (w.drewN nq) := ⟨rfl, rfl, rfl, Nat.le_refl _, fun _ _ => rfl⟩
  have hsz : (w.drewN nq).heap.size = w.heap.size := rfl
  generalize w.drewN nq = W at hw1 hbel hsz ⊢
  have HSZ := hid hsz
  have lp : p < W.heap.size := Wr.plt hw1
  have g0 : ∀ ob, (W.alloc ob).cell? ⟨p, o, none⟩ = some (.slice ao (L / 8) cap) := fun ob => (Wr.alloc hw1 ob).c0
  have g1 : ∀ ob, (W.alloc ob).cell? ⟨p, o + 1, none⟩ = some (.int .u64 ((N % 2 ^ (L % 8) : Nat) : Int)) := fun ob => (Wr.alloc hw1 ob).c1
  have g2 : ∀ ob, (W.alloc ob).cell? ⟨p, o + 2, none⟩ = some (.int .i64 ((L % 8 : Nat) : Int)) := fun ob => (Wr.alloc hw1 ob).c2
  have hcs : ((List.range (L / 8)).map fun i => (Value.int .u8 (byt N L i : Int))).length = Nat.min (L / 8) ((L + 7) / 8) := by
    rw [List.length_map, List.length_range]; exact (Nat.min_eq_left (by omega)).symm
  have hpos : ∀ ob, 0 < ((List.range (L / 8)).map fun i => (Value.int .u8 (byt N L i : Int))).length → (some (⟨W.heap.size, 0, none⟩ : Addr)) = some ⟨W.heap.size, 0, none⟩ ∧
      ∃ ad, ao = some ad ∧ ∀ j v, ((List.range (L / 8)).map fun i => (Value.int .u8 (byt N L i : Int)))[j]? = some v → (W.alloc ob).cell? (ad.add j) = some v := by
    intro ob h0
    have hown := (Wr.alloc hw1 ob).own
    rcases ownsRow_at hown with ⟨_, h1, _, _⟩ | ⟨g, rfl⟩
    · simp at h0; omega
    · exact ⟨rfl, _, rfl, fun j v hj => by rw [Addr.add_lit, Nat.zero_add]; exact ownsRow_cell hown j v hj⟩
  have hg0 : (W.alloc (.cells (madeCells #[.int .u8 0] ((L + 7) / 8)) 5)).heap[W.heap.size]? = some (.cells ((madeCells #[.int .u8 0] ((L + 7) / 8)).toList).toArray 5 (0, 0)) := by
    rw [Array.toArray_toList]; exact heap_alloc_new W _
  have hfit : 0 + ((List.range (L / 8)).map fun i => (Value.int .u8 (byt N L i : Int))).length ≤ ((madeCells #[Value.int .u8 0] ((L + 7) / 8)).toList).length := by
    rw [List.length_map, List.length_range, Array.length_toList, size_madeCells]; simp; omega
  have h1c : ∀ v ∈ (List.range (L / 8)).map fun i => (Value.int .u8 (byt N L i : Int)), v.oneCell' = true := by
    intro v hv
    obtain ⟨i, _, rfl⟩ := List.mem_map.1 hv
    rfl
  have hbel1 : ∀ ob, Below w.heap.size w (W.alloc ob) := fun ob => hbel.alloc (by rw [hsz]; exact Nat.le_refl _) ob
  have HCS := hid hcs; have HPOS := hid hpos; have HG0 := hid hg0; have HFIT := hid hfit; have H1C := hid h1c; have HB := hid hbel1
  have hle : w.heap.size ≤ W.heap.size := by omega
  have hinf : (Try.prog.info? 5).map (·.size) = some 1 := by kernel_rfl
  have HINF := hid hinf
  have HW := hid hw1
  have HWW := hid hw
  clear hsz hw hcs hpos hg0 hfit h1c hbel1 hbel hw1 hinf
  go_wp2_with (refine wpList_copy_splice rfl (.tmp 11) (.tmp 15) 41 41 rfl 5 Try.underlying41 HINF.out (some ⟨W.heap.size, 0, none⟩) ao ((L + 7) / 8) ((L + 7) / 8) (L / 8) cap rfl rfl W.heap.size 0 _ 5 HG0.out _ HCS.out (fun h0 => ⟨rfl, (HPOS.out _ h0).2⟩) HFIT.out H1C.out w.heap.size w (HB.out _) hle ?_)
  intro w1 hcells hb1
  have hrow := row_splice hcells.out (by omega)
  have hW1 : WrN w1 B p o ao cap N L := Wr.keep HWW.out (Fr.of_below hb1) (by have := Wr.plt HWW.out; omega) (fun g hg => by have := (Wr.rlt HWW.out g hg).2; omega)
  rw [HSZ.out] at hrow ⊢
  clear hcells g0 g1 g2 HPOS HG0 HCS HFIT H1C HB HW HINF HSZ hmk lp hle
  have g0 := hW1.c0; have g1 := hW1.c1; have g2 := hW1.c2
  by_cases hE : L % 8 = 0
  · have hE0 : ¬ (0 : Int) < (L : Int) % 8 := by omega
    have hfin : Below w.heap.size w w1 ∧ w1.rowIs w.heap.size 5 ((L + 7) / 8) (fun i => .int .u8 (bts N L i : Int)) :=
      ⟨hb1, hrow.congr fun i hi => by rw [if_pos (by omega), bts_whole _ _ _ (by omega)]⟩
    have HE := hid hE
    clear hE
    go_wp2_with fail
    go_ret
    exact ⟨rfl, hfin⟩
  · have hE0 : (0 : Int) < (L : Int) % 8 := by omega
    have hE1 : (L : Int) % 8 ≤ 7 := by omega
    have hi1 : (0 : Int) ≤ (L : Int) / 8 := by omega
    have hi2 : (L : Int) / 8 < ((L : Int) + 7) / 8 := by omega
    have hc := hrow.cell (i := L / 8) (by omega)
    have hf := hrow.frozen (L / 8)
    have HR := hid hrow
    clear hrow
    go_wp2_with fail
    go_region
    go_wp2_with fail
    go_ret
    refine ⟨rfl, (hb1.setCell (p := ⟨w.heap.size, L / 8, none⟩) (Nat.le_refl _) _).drew, ((HR.out.set (L / 8) _).drew).congr fun i hi => ?_⟩
    by_cases hi3 : i = L / 8
    · subst hi3
      rw [if_pos rfl, bts_last N L (by omega)]
      have h1 := last_lt (N % 2 ^ (L % 8)) (L % 8) (Nat.mod_lt _ (Nat.two_pow_pos _)) (by omega)
      have e1 : ((N : Int) % 2 ^ (L % 8) * 2 ^ (8 - L % 8)) = ((N % 2 ^ (L % 8) * 2 ^ (8 - L % 8) : Nat) : Int) := by push_cast; rfl
      rw [e1, IntWalk.u64_in _ (by omega)]
      congr 1
      omega
    · rw [if_neg hi3, if_pos (by omega), bts_whole _ _ _ (by omega)]
end Go.Proofs.Ytjimamjhakainaa.Bit
