/- The document's own text fields; whether calls are few and short. Conditions: texts of fewer than 2^38 bytes. -/
import Derived.Test.YtfkklmklbmdlhaaDoorRef2
namespace Go.Proofs.YtfkklmklbmdlhaaDoor.Fld
open Go.RowKit Gen

theorem sb_at (s : ByteArray) (k : Nat) (hk : k < s.size) : (sb s)[k]? = some (s[k].toNat) := by
  have hk2 : k < s.data.size := hk
  simp only [sb, List.getElem?_map, Array.getElem?_toList]
  rw [Array.getElem?_eq_getElem hk2]
  rfl

set_option maxHeartbeats 1000000 in
theorem rtext_any (s : ByteArray) (n : Int) (hs : s.size ≤ 274877906944) (w : World) :
    Calls Tryd.prog 52 #[.string s, .int .i64 n] w (RefP w (uErr s.size n) (ifOk (uErr s.size n) (le s.size n.toNat ++ sb s))) := by
  by_cases he : uErr s.size n = 0
  · obtain ⟨i0, hi, hz0, hz1, hz2⟩ := info_parts Tryd.info5
    have hll := le_len s.size n.toNat
    have hsl := sb_len s
    have hn8 : n.toNat ≤ 8 := by
      unfold uErr at he
      split at he
      · omega
      · omega
    have HE := hid he
    have HS := hid hsl
    clear he hsl
    rw [HE.out]
    go_enter Tryd.func52, Tryd.ntmps52
    go_wp2_with fail
    refine (ru_any s.size n (by omega) _).mono ?_
    rintro e w1 ⟨ao, cap, rfl, hown, hb⟩
    rw [HE.out] at hown ⊢
    have hown2 : w1.ownsRow w.heap.size 5 1 (.slice ao n.toNat cap) n.toNat (bl (le s.size n.toNat)) := by
      have := hown
      unfold ifOk at this
      rw [if_pos rfl, hll] at this
      exact this
    have hlen : (ifOk 0 (le s.size n.toNat)).length = n.toNat := by unfold ifOk; rw [if_pos rfl, hll]
    rw [hlen]
    have HO := hid hown2
    have HB := hid hb
    have HL := hid hll
    clear hown hown2 hb hlen hll
    go_wp2_with fail
    go_loopw [6, 8] (fun v i wr => ∃ (k : Nat) (lo : Option Addr) (lcap : Nat), k ≤ s.size ∧ i = .int .i64 k ∧ v = .slice lo (n.toNat + k) lcap ∧ wr.ownsRow w.heap.size 5 1 (.slice lo (n.toNat + k) lcap) (n.toNat + k) (bl (le s.size n.toNat ++ (sb s).take k)) ∧ Below w.heap.size w wr) (fun _ i _ => s.size - (intOf i).toNat)
    case atStart => exact ⟨0, ao, cap, Nat.zero_le _, rfl, rfl, by rw [List.take_zero, List.append_nil]; exact HO.out, HB.out⟩
    case round =>
      obtain ⟨k, lo, lcap, hk, rfl, rfl, hown, hb⟩ := hrel
      have HO1 := hid hown
      have HB1 := hid hb
      clear hown hb HO HB
      by_cases hlt : k < s.size
      · have hx := sb_at s k hlt
        have HX := hid (show (sb s).take (k + 1) = (sb s).take k ++ [s[k].toNat] by
          have hk2 : k < (sb s).length := by rw [HS.out]; exact hlt
          rw [List.take_succ_eq_append_getElem hk2]
          rw [List.getElem?_eq_getElem hk2] at hx
          simp at hx
          rw [hx])
        clear hx
        go_wp2_with (at_builtin; (refine (wpList_append_one (by rfl) _ _ _ (by rfl) w.heap.size 5 i0 _ 1 Tryd.underlying40 hi hz0 hz1 hz2 rfl lo (n.toNat + k) lcap _ (by rfl) (HO1.out.alloc _) ⟨wr.heap.size, 0, none⟩ 1 (.int .u8 (s[k].toNat : Int)) (by rfl) (by simp) rfl (by unfold maxLen; omega) (by omega) (by have := HB1.out.size; simp; omega) ?_)))
        intro gg cap3 w2 hown2 hK
        have hb2 : Below w.heap.size w w2 := (HB1.out.alloc HB1.out.size _).trans ⟨hK.grown.os, hK.grown.tape, hK.grown.output, hK.grown.size, fun j hj => hK.grown.block j (by have := HB1.out.size; simp; omega) (fun e => by
          have := (HO1.out.lt j (by rw [ownBlock_slice]; exact e.symm)).1; omega)⟩
        have hown3 : w2.ownsRow w.heap.size 5 1 (.slice (some ⟨gg, 0, none⟩) (n.toNat + (k + 1)) cap3) (n.toNat + (k + 1)) (bl (le s.size n.toNat ++ (sb s).take (k + 1))) := by
          rw [HX.out, ← List.append_assoc, bl_app (le s.size n.toNat ++ (sb s).take k)]
          exact hown2
        have HC := hid (And.intro hown3 hb2)
        clear hown2 hK hb2 hown3 HO1 HB1 HX
        go_wp2_with fail
        go_roundw
        case rel => exact ⟨k + 1, some ⟨gg, 0, none⟩, cap3, by omega, by go_num, rfl, HC.out.1, HC.out.2⟩
        case measure => simp [intOf]; omega
      · obtain rfl : k = s.size := by omega
        have hm : (ifOk 0 (le s.size n.toNat ++ sb s)).length = n.toNat + s.size := by unfold ifOk; rw [if_pos rfl, List.length_append, HL.out, HS.out]
        have hm2 : (sb s).take s.size = sb s := List.take_of_length_le (by rw [HS.out]; exact Nat.le_refl _)
        have HM := hid hm
        have HM2 := hid hm2
        clear hm hm2
        go_wp2_with fail
        go_ret2
        refine ⟨lo, lcap, ?_, ?_, HB1.out⟩
        · rw [HM.out]; rfl
        · rw [HM.out]
          have := HO1.out
          rw [HM2.out] at this
          exact this
  · have HE := hid he
    clear he
    go_enter Tryd.func52, Tryd.ntmps52
    go_wp2_with fail
    refine (ru_any s.size n (by omega) _).mono ?_
    rintro e w1 ⟨ao, cap, rfl, hown, hb⟩
    have hne : ((uErr s.size n : Int) != 0) = true := by rw [bne_iff_ne]; have := HE.out; omega
    have HB := hid hb
    clear hown hb
    go_wp2_with fail
    go_ret2
    unfold ifOk
    rw [if_neg HE.out]
    exact ⟨none, 0, rfl, World.ownsRow_nil _ _ _ _, HB.out⟩

/-! ### Calls of a maker, in memory -/
/-- A slice of calls. -/
structure Acts (w : World) (a : Option Addr) (len : Nat) (K : Nat → Int) (V : Nat → Nat) (N : Nat → Int) (S : Nat → ByteArray) : Prop where
  at_ : ∀ j, j < len → ∃ b off, a = some ⟨b, off, none⟩ ∧ w.cell? ⟨b, off + j * 4, none⟩ = some (.int .i64 (K j)) ∧ w.cell? ⟨b, off + j * 4 + 1, none⟩ = some (.int .u64 (V j : Int)) ∧
    w.cell? ⟨b, off + j * 4 + 2, none⟩ = some (.int .i64 (N j)) ∧ w.cell? ⟨b, off + j * 4 + 3, none⟩ = some (.string (S j))
  vlt : ∀ j, V j < 18446744073709551616
theorem Acts.keep {w w' : World} {a : Option Addr} {len : Nat} {K : Nat → Int} {V : Nat → Nat} {N : Nat → Int} {S : Nat → ByteArray} (h : Acts w a len K V N S) (e : Below w.heap.size w w') : Acts w' a len K V N S :=
  ⟨fun j hj => by
    obtain ⟨b, off, ha, h0, h1, h2, h3⟩ := h.at_ j hj
    have hl := World.block_lt_of_cell? w _ h0
    exact ⟨b, off, ha, (e.cell (p := ⟨b, off + j * 4, none⟩) hl).trans h0, (e.cell (p := ⟨b, off + j * 4 + 1, none⟩) hl).trans h1, (e.cell (p := ⟨b, off + j * 4 + 2, none⟩) hl).trans h2, (e.cell (p := ⟨b, off + j * 4 + 3, none⟩) hl).trans h3⟩, h.vlt⟩

end Go.Proofs.YtfkklmklbmdlhaaDoor.Fld
