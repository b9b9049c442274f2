/- Small letters, as the document makes them. Conditions: texts of at most 2^40 bytes. -/
import Derived.Test.YtfkklmklbmdlhaaDoorT2
namespace Go.Proofs.YtfkklmklbmdlhaaDoor.Tg
open Go.RowKit Gen

theorem rowIs_byts {w : World} {g : Nat} {l : List Nat} {f : Nat → Nat} (h : w.rowIs g 5 l.length (fun i => .int .u8 (f i : Int))) (hl : ∀ b ∈ l, b < 256) (e : ∀ i x, l[i]? = some x → f i = x) : Byts w (some ⟨g, 0, none⟩) l := by
  refine ⟨hl, fun j x hj => ⟨g, 0, rfl, ?_⟩⟩
  have hj' : j < l.length := (List.getElem?_eq_some_iff.1 hj).1
  rw [Nat.zero_add, h.cell hj', e j x hj]
set_option maxHeartbeats 1000000 in
theorem rfold_any (s : ByteArray) (hs : s.size ≤ 1099511627776) (w : World) : Calls Tryd.prog 22 #[.string s] w fun e w' => e = .returned (.string (fold s)) ∧ Below w.heap.size w w' := by
  have hmk : ∀ w, (Instr.makeSlice 40 (.int .i64 (s.size : Int)) (.int .i64 (s.size : Int))).run Tryd.prog w = .ok (.slice (some ⟨w.heap.size, 0, none⟩) s.size s.size) (w.alloc (.cells (madeCells #[.int .u8 0] s.size) 5)) := fun w =>
    run_make_row' (P := Tryd.prog) 40 5 (.int .u8 0) 1 Tryd.underlying40 Tryd.info5 rfl .i64 .i64 s.size (by omega) (by omega) w
  have h0 := World.rowIs_made w (.int .u8 0) s.size 5
  have H0 := hid h0
  have HB0 := hid ((Below.refl w.heap.size w).alloc (Nat.le_refl _) (.cells (madeCells #[.int .u8 0] s.size) 5))
  clear h0
  go_enter Tryd.func22, Tryd.ntmps22
  go_wp2_with fail
  clear hmk
  generalize w.alloc (.cells (madeCells #[.int .u8 0] s.size) 5) = W at *
  go_loopg [4] s.size (fun g i wr => ∃ k : Nat, k ≤ s.size ∧ g = s.size - k ∧ i = .int .i64 k ∧ wr.rowIs w.heap.size 5 s.size (fun j => .int .u8 ((if j < k then low (bt s j) else 0 : Nat) : Int)) ∧ Below w.heap.size w wr)
  case atStart => exact ⟨0, Nat.zero_le _, rfl, rfl, H0.out.congr fun i _ => by rw [if_neg (Nat.not_lt_zero _)]; rfl, HB0.out⟩
  case round =>
    obtain ⟨k, hk, rfl, rfl, hrow, hb⟩ := hrel
    have HB := hid hb
    clear hb H0 HB0
    by_cases hlt : k < s.size
    · have hc := hrow.cell hlt
      have hf := hrow.frozen k
      have hix := run_at s k hlt
      have HRW := hid hrow
      have hx := bt_lt s k
      clear hrow
      generalize hbt : bt s k = x at *
      have HX := hid hbt
      clear hbt
      by_cases h1 : 65 ≤ x ∧ x ≤ 90
      · have e1 : (65 : Int) ≤ (x : Int) := by omega
        have e2 : (x : Int) ≤ 90 := by omega
        have HL := hid (show low x = x + 32 from by unfold low; rw [if_pos h1])
        clear h1
        go_wp2_with fail
        go_roundg (s.size - (k + 1))
        case measure => omega
        case rel =>
          refine ⟨k + 1, by omega, rfl, by go_num, ?_, (HB.out.setCell (p := ⟨w.heap.size, k, none⟩) (Nat.le_refl _) _).setCell (p := ⟨w.heap.size, k, none⟩) (Nat.le_refl _) _⟩
          refine ((HRW.out.set k _).set k _).congr fun j hj => ?_
          by_cases e : j = k
          · subst e; rw [if_pos rfl, if_pos (Nat.lt_succ_self _), HX.out, HL.out]; rfl
          · rw [if_neg e, if_neg e]
            by_cases e2 : j < k
            · rw [if_pos e2, if_pos (by omega)]
            · rw [if_neg e2, if_neg (by omega)]
      · have HL := hid (show low x = x from by unfold low; rw [if_neg h1])
        have hrel2 : (wr.setCell ⟨w.heap.size, k, none⟩ (.int .u8 (x : Int))).rowIs w.heap.size 5 s.size (fun j => .int .u8 ((if j < k + 1 then low (bt s j) else 0 : Nat) : Int)) := (HRW.out.set k _).congr fun j hj => by
          by_cases e : j = k
          · subst e; rw [if_pos rfl, if_pos (Nat.lt_succ_self _), HX.out, HL.out]
          · rw [if_neg e]
            by_cases e2 : j < k
            · rw [if_pos e2, if_pos (by omega)]
            · rw [if_neg e2, if_neg (by omega)]
        have HR2 := hid hrel2
        clear hrel2
        by_cases h65 : 65 ≤ x
        · have e1 : (65 : Int) ≤ (x : Int) := by omega
          have e2 : ¬ (x : Int) ≤ 90 := by omega
          clear h1 h65
          go_wp2_with fail
          go_roundg (s.size - (k + 1))
          case measure => omega
          case rel => exact ⟨k + 1, by omega, rfl, by go_num, HR2.out, HB.out.setCell (p := ⟨w.heap.size, k, none⟩) (Nat.le_refl _) _⟩
        · have e1 : ¬ (65 : Int) ≤ (x : Int) := by omega
          clear h1 h65
          go_wp2_with fail
          go_roundg (s.size - (k + 1))
          case measure => omega
          case rel => exact ⟨k + 1, by omega, rfl, by go_num, HR2.out, HB.out.setCell (p := ⟨w.heap.size, k, none⟩) (Nat.le_refl _) _⟩
    · obtain rfl : k = s.size := by omega
      have hby : Byts wr (some ⟨w.heap.size, 0, none⟩) ((sb s).map low) := by
        have hl : ((sb s).map low).length = s.size := by rw [List.length_map, sb_len]
        refine rowIs_byts (f := fun j => low (bt s j)) ?_ (fold_lt s) (fun i x h => fold_at s i x h)
        rw [hl]
        exact hrow.congr fun i hi => by rw [if_pos hi]
      have hcv := hby.conv s.size
      rw [List.length_map, sb_len] at hcv
      clear hrow hby
      go_wp2_with fail
      go_ret
      exact ⟨rfl, HB.out⟩
end Go.Proofs.YtfkklmklbmdlhaaDoor.Tg
