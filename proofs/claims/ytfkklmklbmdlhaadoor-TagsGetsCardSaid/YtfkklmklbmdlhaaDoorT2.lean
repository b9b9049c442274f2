/- Small letters: Fold of both sides. Conditions: texts of at most 2^40 bytes. -/
import Derived.Test.YtfkklmklbmdlhaaDoorByt
import Derived.Deep.OwnRows
import Derived.Lib.TrimUEq
import Derived.Deep.LoopGhost
import Derived.LoopTactic
namespace Go.Proofs.YtfkklmklbmdlhaaDoor.Tg
open Go.RowKit Gen

/-- A letter from A to Z as the small one. -/
def low (b : Nat) : Nat := if 65 ≤ b ∧ b ≤ 90 then b + 32 else b
theorem low_lt {b : Nat} (h : b < 256) : low b < 256 := by unfold low; split <;> omega
def fold (s : ByteArray) : ByteArray := tos ((sb s).map low)
theorem fold_lt (s : ByteArray) : ∀ b ∈ (sb s).map low, b < 256 := fun b hb => by
  obtain ⟨x, hx, rfl⟩ := List.mem_map.1 hb
  exact low_lt (sb_lt s x hx)
theorem fold_size (s : ByteArray) : (fold s).size = s.size := by unfold fold; rw [tos_size, List.length_map, sb_len]
theorem low_low (b : Nat) : low (low b) = low b := by unfold low; repeat' split
                                                      all_goals omega
theorem fold_fold (s : ByteArray) : fold (fold s) = fold s := by
  unfold fold
  rw [sb_tos _ (fold_lt s), List.map_map]
  congr 1
  exact List.map_congr_left fun b _ => low_low b

/-- Byte i of a text. -/
def bt (s : ByteArray) (i : Nat) : Nat := (s.get! i).toNat
theorem bt_lt (s : ByteArray) (i : Nat) : bt s i < 256 := (s.get! i).toNat_lt
theorem sb_at (s : ByteArray) (i : Nat) (hi : i < s.size) : (sb s)[i]? = some (bt s i) := by
  unfold sb bt
  rw [List.getElem?_map, ← Lib.getD_get!']
  have h : i < s.data.toList.length := by rw [← Lib.size_eq]; exact hi
  rw [List.getElem?_eq_getElem h]
  simp [List.getD, List.getElem?_eq_getElem h]
theorem run_at (s : ByteArray) (i : Nat) (hi : i < s.size) (w : World) : (Instr.index 9 (.string s) (.int .i64 (i : Int))).run Tryd.prog w = .ok (.int .u8 (bt s i : Int)) w := by
  rw [run_index_string (P := Tryd.prog) w 9 s .i64 (i : Int) Tryd.underlying9, dif_pos ⟨by omega, by omega⟩]
  congr 3
  unfold bt
  congr 1
  rw [← Lib.getD_get!']
  have h : i < s.data.toList.length := by rw [← Lib.size_eq]; exact hi
  simp only [List.getD, List.getElem?_eq_getElem h, Option.getD_some]
  rfl

/-- A row of bytes at block g. -/
structure Rw (w : World) (g n : Nat) (f : Nat → Nat) : Prop where
  c : ∀ i, i < n → w.cell? ⟨g, i, none⟩ = some (.int .u8 (f i : Int))
  z : ∀ i, i < n → w.frozen? ⟨g, i, none⟩ = false
theorem Rw.set {w : World} {g n : Nat} {f : Nat → Nat} (h : Rw w g n f) {k : Nat} (hk : k < n) (v : Nat) : Rw (w.setCell ⟨g, k, none⟩ (.int .u8 (v : Int))) g n fun i => if i = k then v else f i := by
  refine ⟨fun i hi => ?_, fun i hi => by rw [World.frozen?_setCell]; exact h.z i hi⟩
  by_cases e : i = k
  · subst e
    rw [if_pos rfl]
    exact World.cell?_setCell_same _ _ _ (h.c i hi)
  · rw [if_neg e, World.cell?_setCell_other _ _ _ _ (by intro e'; cases e'; exact e rfl)]
    exact h.c i hi
theorem Rw.congr {w : World} {g n : Nat} {f f' : Nat → Nat} (h : Rw w g n f) (e : ∀ i, i < n → f i = f' i) : Rw w g n f' := ⟨fun i hi => by rw [← e i hi]; exact h.c i hi, h.z⟩
theorem Rw.byts {w : World} {g : Nat} {l : List Nat} {f : Nat → Nat} (h : Rw w g l.length f) (hl : ∀ b ∈ l, b < 256) (e : ∀ i x, l[i]? = some x → f i = x) : Byts w (some ⟨g, 0, none⟩) l := by
  refine ⟨hl, fun j x hj => ⟨g, 0, rfl, ?_⟩⟩
  have hj' : j < l.length := by
    have := List.getElem?_eq_some_iff.1 hj
    exact this.1
  rw [Nat.zero_add, h.c j hj', e j x hj]
theorem rw_string (w : World) (s : ByteArray) : Rw (Lib.bytesWorld w 5 s) w.heap.size s.size (bt s) := by
  refine ⟨fun i hi => ?_, fun i hi => ?_⟩
  · rw [Lib.bytesWorld_cell w _ s i hi, Lib.getD_get!']; rfl
  · simp [World.frozen?, Lib.bytesWorld_at_new, Lib.bytesCells]
    omega
theorem fold_at (s : ByteArray) (i x : Nat) (h : ((sb s).map low)[i]? = some x) : low (bt s i) = x := by
  have hi : i < s.size := by
    have := (List.getElem?_eq_some_iff.1 h).1
    rwa [List.length_map, sb_len] at this
  rw [List.getElem?_map, sb_at s i hi] at h
  exact Option.some.inj h

set_option maxHeartbeats 1000000 in
theorem fold_any (s : ByteArray) (hs : s.size ≤ 1099511627776) (w : World) : Calls Tryd.prog 21 #[.string s] w fun e w' => e = .returned (.string (fold s)) ∧ Below w.heap.size w w' := by
  have hcv := fun W => conv_string W s
  have HR := hid (rw_string w s)
  have HBL := hid (below_string w s)
  go_enter Tryd.func21, Tryd.ntmps21
  go_wp2_with fail
  clear hcv
  generalize Lib.bytesWorld w 5 s = W at *
  go_loopg [10] s.size (fun g i wr => ∃ k : Nat, k ≤ s.size ∧ g = s.size - k ∧ i = .int .i64 k ∧ Rw wr w.heap.size s.size (fun j => if j < k then low (bt s j) else bt s j) ∧ Below w.heap.size w wr)
  case atStart => exact ⟨0, Nat.zero_le _, rfl, rfl, HR.out.congr fun i _ => by rw [if_neg (Nat.not_lt_zero _)], HBL.out⟩
  case round =>
    obtain ⟨k, hk, rfl, rfl, hrow, hb⟩ := hrel
    have HB := hid hb
    clear hb HR HBL
    by_cases hlt : k < s.size
    · have hc := hrow.c k hlt
      rw [if_neg (Nat.lt_irrefl _)] at hc
      have hz := hrow.z k hlt
      have HRW := hid hrow
      have hx := bt_lt s k
      clear hrow
      generalize hbt : bt s k = x at *
      have HX := hid hbt
      clear hbt
      by_cases h1 : 65 ≤ x ∧ x ≤ 90
      · have e1 : (65 : Int) ≤ (x : Int) := by omega
        have e2 : (x : Int) ≤ 90 := by omega
        have e3 : ((x : Int) - 65) + 97 = ((x + 32 : Nat) : Int) := by omega
        have HL := hid (show low x = x + 32 from by unfold low; rw [if_pos h1])
        clear h1
        go_wp2_with fail
        go_roundg (s.size - (k + 1))
        case measure => omega
        case rel =>
          refine ⟨k + 1, by omega, rfl, by go_num, ?_, HB.out.setCell (p := ⟨w.heap.size, k, none⟩) (Nat.le_refl _) _⟩
          have h2 := HRW.out.set hlt (x + 32)
          rw [show (((x + 32 : Nat)) : Int) = (x : Int) + 32 from by omega] at h2
          refine h2.congr fun j hj => ?_
          by_cases e : j = k
          · subst e; rw [if_pos rfl, if_pos (Nat.lt_succ_self _), HX.out, HL.out]
          · rw [if_neg e]
            by_cases e2 : j < k
            · rw [if_pos e2, if_pos (by omega)]
            · rw [if_neg e2, if_neg (by omega)]
      · have HL := hid (show low x = x from by unfold low; rw [if_neg h1])
        have hrel2 : Rw wr w.heap.size s.size (fun j => if j < k + 1 then low (bt s j) else bt s j) := HRW.out.congr fun j hj => by
          by_cases e : j = k
          · subst e; rw [if_neg (Nat.lt_irrefl _), if_pos (Nat.lt_succ_self _), HX.out, HL.out]
          · by_cases e2 : j < k
            · rw [if_pos e2, if_pos (by omega)]
            · rw [if_neg e2, if_neg (by omega)]
        have HR2 := hid hrel2
        clear hrel2
        by_cases h65 : 65 ≤ x
        · have e1 : (65 : Int) ≤ (x : Int) := by omega
          have e2 : ¬ (x : Int) ≤ 90 := by omega
          clear h1 h65
          go_wp2_with fail
          go_roundg (s.size - (k + 1))
          case measure => omega
          case rel => exact ⟨k + 1, by omega, rfl, by go_num, HR2.out, HB.out⟩
        · have e1 : ¬ (65 : Int) ≤ (x : Int) := by omega
          clear h1 h65
          go_wp2_with fail
          go_roundg (s.size - (k + 1))
          case measure => omega
          case rel => exact ⟨k + 1, by omega, rfl, by go_num, HR2.out, HB.out⟩
    · obtain rfl : k = s.size := by omega
      have hby : Byts wr (some ⟨w.heap.size, 0, none⟩) ((sb s).map low) := by
        have hl : ((sb s).map low).length = s.size := by rw [List.length_map, sb_len]
        refine Rw.byts (f := fun j => low (bt s j)) ?_ (fold_lt s) (fun i x h => fold_at s i x h)
        rw [hl]
        exact hrow.congr fun i hi => by rw [if_pos hi]
      have hcv := hby.conv (grownCap w s.size 0 5)
      rw [List.length_map, sb_len] at hcv
      clear hrow hby
      go_wp2_with fail
      go_ret
      exact ⟨rfl, HB.out⟩
end Go.Proofs.YtfkklmklbmdlhaaDoor.Tg
