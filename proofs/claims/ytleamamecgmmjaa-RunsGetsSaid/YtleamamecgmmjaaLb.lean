/- The document's own bytes of a list of bits: new bytes, eight bits a byte, bits 0 up to the last one's end; nothing that was there has turned. Conditions: fewer than 2^40 bits. -/
import Derived.Test.YtleamamecgmmjaaLr
import Derived.Test.YtleamamecgmmjaaRf
namespace Go.Proofs.Ytleamamecgmmjaa.Bit
open Go.RowKit

theorem Ls.ex {w w' : World} {B : Nat} {lo : Option Addr} {N L : Nat} {x : Value} (h : Ls w B lo N L x w') : ∃ lo1 lcap1, x = .slice lo1 L lcap1 ∧ Lst w' B lo1 lcap1 N L ∧ Below w.heap.size w w' := by
  obtain ⟨lo1, lcap1, h1, h2, h3, _⟩ := h
  exact ⟨lo1, lcap1, h1, h2, h3⟩
theorem bitOf_seg (M T i : Nat) (h : i < T) : bitOf M T i = seg M T i 1 := by
  unfold bitOf seg
  rw [show T - 1 - i = T - i - 1 from by omega]
theorem Lst.bit {w : World} {B : Nat} {lo : Option Addr} {lcap N L : Nat} (h : Lst w B lo lcap N L) (i : Nat) (hi : i < L) : ∃ g, lo = some ⟨g, 0, none⟩ ∧ w.cell? ⟨g, i, none⟩ = some (.int .i64 (seg N L i 1 : Int)) := by
  rcases ownsRow_at h with ⟨_, h1, _, _⟩ | ⟨g, rfl⟩
  · omega
  · refine ⟨g, rfl, ?_⟩
    rw [← bitOf_seg N L i hi]
    exact ownsRow_cell h i _ (bitl_at N L i hi)
theorem seg_byte8 (M T k : Nat) (hk : k < T) : seg M (8 * T) (8 * k) 8 = byt M (8 * T) k := by
  unfold seg byt
  rw [show 8 * T - 8 * k - 8 = 8 * T - 8 * (k + 1) from by omega]

set_option maxHeartbeats 1600000 in
theorem rbytes_any (w : World) (B : Nat) (lo : Option Addr) (lcap N L : Nat) (h : Lst w B lo lcap N L) (hB : B ≤ w.heap.size) (hL : L ≤ 1000000000000) :
    Calls Try.prog 15 #[.slice lo L lcap] w fun e w' => ∃ g, e = .returned (.slice (some ⟨g, 0, none⟩) ((L + 7) / 8) ((L + 7) / 8)) ∧ Below w.heap.size w w' ∧ w'.rowIs g 5 ((L + 7) / 8) (fun i => .int .u8 (bts N L i : Int)) := by
  have hal := ralign_list w B lo lcap N L h hB (by omega)
  have hT : (L + 7) / 8 ≤ 1000000000000 := by omega
  unfold bts
  generalize (L + 7) / 8 = T at *
  generalize pad N L = M at *
  have hmk : ∀ w, (Instr.makeSlice 24 (.int .i64 (T : Int)) (.int .i64 (T : Int))).run Try.prog w = .ok (.slice (some ⟨w.heap.size, 0, none⟩) T T) (w.alloc (.cells (madeCells #[.int .u8 0] T) 5)) := fun w =>
    run_make_row' (P := Try.prog) 24 5 (.int .u8 0) 1 Try.underlying24 Try.info5 rfl .i64 .i64 T (by omega) (by omega) w
  go_enter Try.func15, Try.ntmps15
  go_wp2_with fail
  refine hal.mono ?_
  rintro e w1 ⟨x, rfl, hx⟩
  obtain ⟨lo1, lcap1, rfl, h1, hb1⟩ := hx.ex
  clear hx h hal hB hL
  go_wp2_with fail
  have hst : (w1.alloc (.cells (madeCells #[.int .u8 0] T) 5)).rowIs w1.heap.size 5 T (fun i => if i < 0 then .int .u8 (byt M (8 * T) i : Int) else .int .u8 0) :=
    (World.rowIs_made w1 (.int .u8 0) T 5).congr fun i hi => by rw [if_neg (by omega)]
  have hb2 : Below w.heap.size w (w1.alloc (.cells (madeCells #[.int .u8 0] T) 5)) := hb1.alloc hb1.size _
  have h2 := Lst.fr h1 ((Fr.refl (fun _ => False) w1).alloc (.cells (madeCells #[.int .u8 0] T) 5)) (fun _ _ x => x)
  have hfar : ∀ g, blk lo1 = some g → g ≠ w1.heap.size := fun g hg => by have := (h1.lt g hg).2; omega
  have hle : w.heap.size ≤ w1.heap.size := hb1.size
  have HFAR := hid hfar
  clear hmk h1 hb1 hfar
  go_loopg [4, 5, 6] T (fun g i n k wr => ∃ j : Nat, j ≤ T ∧ g = T - j ∧ i = .int .i64 j ∧ Lst wr B lo1 lcap1 M (8 * T) ∧ Below w.heap.size w wr ∧ wr.rowIs w1.heap.size 5 T (fun i => if i < j then .int .u8 (byt M (8 * T) i : Int) else .int .u8 0))
  case atStart => exact ⟨0, Nat.zero_le _, rfl, rfl, h2, hb2, hst⟩
  case round =>
    obtain ⟨j, hj, hg, rfl, hl, hb, hrow⟩ := hrel
    have HG := hid hg
    clear hg h2 hb2 hst
    by_cases hlt : j < T
    · have hlt2 : (j : Int) < (T : Int) := by omega
      go_wp2_with fail
      go_loopg [5, 6] 8 (fun g n k wi => ∃ m : Nat, m ≤ 8 ∧ g = 8 - m ∧ k = .int .i64 m ∧ n = .int .i64 (seg M (8 * T) (8 * j) m : Int) ∧ wr = wi)
      case atStart => exact ⟨0, by decide, rfl, rfl, by rw [seg_zero]; rfl, rfl⟩
      case round =>
        obtain ⟨m, hm, hg, rfl, rfl, rfl⟩ := hrel
        have HG2 := hid hg
        clear hg
        by_cases hm8 : m < 8
        · have hm9 : (m : Int) < 8 := by omega
          obtain ⟨g, rfl, hcell⟩ := hl.bit (8 * j + m) (by omega)
          have hsu := seg_succ M (8 * T) (8 * j) m (by omega)
          have hsl := seg_lt M (8 * T) (8 * j) (m + 1)
          have hpw : 2 ^ (m + 1) ≤ 2 ^ 8 := Nat.pow_le_pow_right (by decide) (by omega)
          have HSU := hid hsu; have HSL := hid (Nat.lt_of_lt_of_le hsl hpw)
          clear hsu hsl hpw
          have i1 : (0 : Int) ≤ 8 * (j : Int) + m := by omega
          have i2 : 8 * (j : Int) + m < ((8 * T : Nat) : Int) := by omega
          have i3 : 8 * (j : Int) + m < 8 * (T : Int) := by omega
          generalize seg M (8 * T) (8 * j) m = sj at *
          generalize seg M (8 * T) (8 * j + m) 1 = sb at *
          have sb1 : 2 * (sj : Int) + sb < 256 := by have := HSL.out; have := HSU.out; omega
          go_wp2_with fail
          have hval : 2 * (sj : Int) + (sb : Int) = ((seg M (8 * T) (8 * j) (m + 1) : Nat) : Int) := by rw [← HSU.out]; omega
          go_roundg (8 - (m + 1))
          case measure => rw [HG2.out]; omega
          case rel => exact ⟨m + 1, by omega, rfl, by go_num, by first | rw [hval] | go_num, rfl⟩
        · have hm9 : ¬ (m : Int) < 8 := by omega
          obtain rfl : m = 8 := by omega
          rw [seg_byte8 M T j hlt]
          have hbl := byt_lt M (8 * T) j
          have hc := hrow.cell (i := j) hlt
          have hf := hrow.frozen j
          have HR := hid hrow
          clear hrow hm9
          go_wp2_with fail
          have hset := HR.out.set j (.int .u8 ((byt M (8 * T) j : Nat) : Int))
          have hset2 : (wr.setCell ⟨w1.heap.size, j, none⟩ (.int .u8 ((byt M (8 * T) j : Nat) : Int))).rowIs w1.heap.size 5 T (fun i => if i < j + 1 then .int .u8 (byt M (8 * T) i : Int) else .int .u8 0) := by
            refine hset.congr fun k hk => ?_
            by_cases e : k = j
            · subst e; rw [if_pos rfl, if_pos (by omega)]
            · rw [if_neg e]
              by_cases e2 : k < j
              · rw [if_pos e2, if_pos (by omega)]
              · rw [if_neg e2, if_neg (by omega)]
          have hb3 := hb.setCell (p := ⟨w1.heap.size, j, none⟩) hle (.int .u8 ((byt M (8 * T) j : Nat) : Int))
          have hl3 := hl.fr ((Fr.refl (fun b => b = w1.heap.size) wr).setCell (p := ⟨w1.heap.size, j, none⟩) rfl (.int .u8 ((byt M (8 * T) j : Nat) : Int))) HFAR.out
          clear hset hc hf hl hb
          go_roundg (T - (j + 1))
          case measure => rw [HG.out]; omega
          case rel => exact ⟨j + 1, by omega, rfl, by go_num, hl3, hb3, hset2⟩
    · have hge : ¬ (j : Int) < (T : Int) := by omega
      obtain rfl : j = T := by omega
      go_wp2_with fail
      go_ret
      exact ⟨_, rfl, hb, hrow.congr fun i hi => by rw [if_pos hi]⟩
end Go.Proofs.Ytleamamecgmmjaa.Bit
