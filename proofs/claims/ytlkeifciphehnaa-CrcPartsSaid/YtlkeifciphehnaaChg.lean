/- The walk of CrcChanges: bytes are copied by an append, one is changed, and the sums are held against each other. Conditions: none beyond the form's own. -/
import Derived.Test.YtlkeifciphehnaaSum
import Derived.Test.YtlkeifciphehnaaGen
import Derived.Laws.OwnMore
namespace Go.Proofs.Ytlkeifciphehnaa.Crc
open Go.RowKit Gen

theorem Try.info5 : (Try.prog.info? 5).map (fun i => (i.zero, i.size, i.bytes)) = some (some (.int .u8 0), 1, 1) := by kernel_rfl

/-- Bytes as values. -/
def bytl (f : Nat → Nat) (n : Nat) : List Value := (List.range n).map fun i => .int .u8 (f i : Int)
theorem bytl_len (f : Nat → Nat) (n : Nat) : (bytl f n).length = n := by simp [bytl]
theorem bytl_at (f : Nat → Nat) (n i : Nat) (h : i < n) : (bytl f n)[i]? = some (.int .u8 (f i : Int)) := by simp [bytl, h]
theorem bytl_one (f : Nat → Nat) (n : Nat) : ∀ u ∈ bytl f n, u.oneCell' = true := by
  intro u hu
  obtain ⟨i, _, rfl⟩ := List.mem_map.1 hu
  rfl
theorem bytl_app (f g : Nat → Nat) (m n : Nat) : bytl f m ++ bytl g n = bytl (fun i => if i < m then f i else g (i - m)) (m + n) := by
  apply List.ext_getElem?
  intro j
  by_cases h1 : j < m
  · rw [List.getElem?_append_left (by rw [bytl_len]; exact h1), bytl_at _ _ _ h1, bytl_at _ _ _ (by omega), if_pos h1]
  · rw [List.getElem?_append_right (by rw [bytl_len]; omega), bytl_len]
    by_cases h2 : j < m + n
    · rw [bytl_at _ _ _ (by omega), bytl_at _ _ _ h2, if_neg h1]
    · rw [List.getElem?_eq_none (by rw [bytl_len]; omega), List.getElem?_eq_none (by rw [bytl_len]; omega)]
theorem Byts.cells {w : World} {a : Option Addr} {len : Nat} {f : Nat → Nat} (h : Byts w a len f) : ∀ ad, a = some ad → ∀ j u, (bytl f len)[j]? = some u → w.cell? (ad.add j) = some u := by
  rintro ad rfl j u hj
  have hjl : j < len := by rw [← bytl_len f len]; exact (List.getElem?_eq_some_iff.1 hj).1
  rw [bytl_at f len j hjl] at hj
  obtain ⟨b, off, e, hc⟩ := h.at_ j hjl
  cases e
  rw [Addr.add_lit]
  exact hc.trans hj
theorem Byts.of_row {w : World} {base : Nat} {ao : Option Addr} {n cap : Nat} {f : Nat → Nat} (hf : ∀ i, f i < 256) (h : w.ownsRow base 5 1 (.slice ao n cap) n (bytl f n)) : Byts w ao n f := by
  refine ⟨hf, fun j hj => ?_⟩
  rcases ownsRow_at h with ⟨_, h1, _, _⟩ | ⟨g, rfl⟩
  · omega
  · exact ⟨g, 0, rfl, by rw [Nat.zero_add]; exact ownsRow_cell h j _ (bytl_at f n j hj)⟩

theorem Byts.nil {w : World} {a : Option Addr} {len : Nat} {f : Nat → Nat} (h : Byts w a len f) (e : a = none) : len = 0 := by
  rcases Nat.eq_zero_or_pos len with h0 | h0
  · exact h0
  · obtain ⟨b, off, e', _⟩ := h.at_ 0 h0
    rw [e] at e'; cases e'

theorem grown_below {w w' : World} {B : Nat} (h : w.grownBy w' (blk none)) (hB : B ≤ w.heap.size) : Below B w w' := ⟨h.os, h.tape, h.output, h.size, fun k hk => h.block k (by omega) (by simp [blk])⟩

theorem chg_byts {w : World} {g len k c : Nat} {f : Nat → Nat} (h : Byts w (some ⟨g, 0, none⟩) len f) (hk : k < len) (hc : c < 256) :
    Byts (w.setCell ⟨g, k, none⟩ (.int .u8 (c : Int))) (some ⟨g, 0, none⟩) len (fun i => if i = k then c else f i) := by
  refine ⟨fun i => ?_, fun j hj => ⟨g, 0, rfl, ?_⟩⟩
  · show (if i = k then c else f i) < 256
    split
    · exact hc
    · exact h.lt i
  · obtain ⟨b, off, e, hcell⟩ := h.at_ j hj
    cases e
    rw [Nat.zero_add] at *
    by_cases hjk : j = k
    · subst hjk
      rw [if_pos rfl]
      exact World.cell?_setCell_same _ _ _ (by rw [hcell])
    · rw [if_neg hjk, World.cell?_setCell_other _ _ _ _ (by intro e; cases e; exact hjk rfl)]
      exact hcell

set_option maxHeartbeats 1000000 in
set_option maxRecDepth 100000 in
theorem changes_walk (w : World) (a : Option Addr) (len cap : Nat) (f : Nat → Nat) (hb : Byts w a len f) (at_ : Int) (by_ : Nat) (hby : by_ < 256) :
    Calls Try.prog 7 #[.slice a len cap, .int .i64 at_, .int .u8 (by_ : Int)] w fun e w' => e = .returned (.bool true) ∧ Below w.heap.size w w' := by
  by_cases hbad : 3000 < len ∨ at_ < 0 ∨ (len : Int) ≤ at_ ∨ by_ = 0
  · have hk := known_true w
    by_cases h1 : 3000 < len
    · have h1' : (3000 : Int) < (len : Int) := by omega
      go_enter Try.func7, Try.ntmps7
      go_wp2_with fail
      refine hk.mono ?_
      rintro e w3 ⟨rfl, hb3⟩
      have hf := hid hb3
      clear hb3
      go_wp2_with fail
      go_ret
      exact ⟨rfl, hf.out⟩
    have h1' : ¬ (3000 : Int) < (len : Int) := by omega
    by_cases h2 : at_ < 0
    · go_enter Try.func7, Try.ntmps7
      go_wp2_with fail
      refine hk.mono ?_
      rintro e w3 ⟨rfl, hb3⟩
      have hf := hid hb3
      clear hb3
      go_wp2_with fail
      go_ret
      exact ⟨rfl, hf.out⟩
    by_cases h3 : (len : Int) ≤ at_
    · go_enter Try.func7, Try.ntmps7
      go_wp2_with fail
      refine hk.mono ?_
      rintro e w3 ⟨rfl, hb3⟩
      have hf := hid hb3
      clear hb3
      go_wp2_with fail
      go_ret
      exact ⟨rfl, hf.out⟩
    obtain rfl : by_ = 0 := by omega
    go_enter Try.func7, Try.ntmps7
    go_wp2_with fail
    refine hk.mono ?_
    rintro e w3 ⟨rfl, hb3⟩
    have hf := hid hb3
    clear hb3
    go_wp2_with fail
    go_ret
    exact ⟨rfl, hf.out⟩
  · have h1' : ¬ (3000 : Int) < (len : Int) := by omega
    have hlen : len ≤ 3000 := by omega
    obtain ⟨k, rfl⟩ : ∃ k : Nat, at_ = k := ⟨at_.toNat, by omega⟩
    have hk : k < len := by omega
    have hk1 : (k : Int) < (len : Int) := by omega
    have h2 : ((by_ : Int) == 0) = false := by rw [beq_eq_false_iff_ne]; omega
    have hb0 : by_ ≠ 0 := by omega
    clear hbad
    obtain ⟨i0, hi, hz0, hz1, hz2⟩ := info_parts Try.info5
    go_enter Try.func7, Try.ntmps7
    go_wp2_with fail
    refine (make_any _).mono ?_
    rintro e w1 ⟨rfl, ht, hb1⟩
    have hB := hb.keep hb1
    have HB := hid hb1
    clear hb1 hb
    go_wp2_with (at_builtin; (refine (wpList_append_list w1 (by rfl) _ _ _ (by rfl) w1.heap.size 5 i0 _ 1 Try.underlying28 hi hz0 hz1 hz2 rfl none 0 0 [] (by rfl) (World.ownsRow_nil _ _ _ _) a len cap (bytl f len) (by rfl) (bytl_len _ _) ?c1 hB.cells (bytl_one _ _) ?c2 ?c3 (Nat.le_refl _) ?_)))
    case c1 => exact fun e => absurd (hB.nil e) (by omega)
    case c2 => unfold maxLen; omega
    case c3 => omega
    intro ao' cap' w2 hown0 hg _
    have hown : w2.ownsRow w1.heap.size 5 1 (.slice ao' len cap') len (bytl f len) := by simpa using hown0
    clear hown0
    obtain ⟨g2, rfl⟩ : ∃ g2, ao' = some ⟨g2, 0, none⟩ := by
      rcases ownsRow_at hown with ⟨_, h1, _, _⟩ | ⟨g, rfl⟩
      · omega
      · exact ⟨g, rfl⟩
    have hg2 := hown.lt g2 rfl
    have hc2 := ownsRow_cell hown k _ (bytl_at f len k hk)
    have hf2 := World.ownsRow.frozenAt hown k
    have hB2 := Byts.of_row hB.lt hown
    have hBo := hB.keep (grown_below hg (Nat.le_refl _))
    have ht2 := ht.keep (hg.block _ ht.lt (by simp [blk]))
    have hbel : Below w.heap.size w w2 := HB.out.trans (grown_below hg HB.out.size)
    have hx : bits .xor .u8 (f k : Int) (by_ : Int) = ((f k ^^^ by_ : Nat) : Int) := xor8 _ _ (hB.lt k) hby
    have hxl : f k ^^^ by_ < 256 := Nat.xor_lt_two_pow (n := 8) (hB.lt k) hby
    have H3 := hid (chg_byts hB2 hk hxl)
    have hz := HB.out.size
    have hne : g2 ≠ w.heap.size := by have := ht.lt; omega
    have H4 : RowKit.Hid (Byts (w2.setCell ⟨g2, k, none⟩ (.int .u8 ((f k ^^^ by_ : Nat) : Int))) a len f) := hid (hB.keep ((grown_below hg (Nat.le_refl _)).setCell (p := ⟨g2, k, none⟩) hg2.1 _))
    have H5 : RowKit.Hid (Tab (w2.setCell ⟨g2, k, none⟩ (.int .u8 ((f k ^^^ by_ : Nat) : Int))) w.heap.size) := hid (World.rowIs.setOther ht2 (fun e => hne e.symm) _)
    have H6 : RowKit.Hid (Below w.heap.size w (w2.setCell ⟨g2, k, none⟩ (.int .u8 ((f k ^^^ by_ : Nat) : Int)))) := hid (hbel.setCell (p := ⟨g2, k, none⟩) (by show _ ≤ g2; omega) _)
    have hneq : ((sm f len 0 : Int) != (sm (fun i => if i = k then f k ^^^ by_ else f i) len 0 : Int)) = true := by
      rw [bne_iff_ne]
      intro e
      have e1 : sm f len 0 = sm (fun i => if i = k then f k ^^^ by_ else f i) len 0 := by omega
      have e2 : run f len (nt 0) = run (fun i => if i = k then f k ^^^ by_ else f i) len (nt 0) := by
        have := congrArg nt e1
        unfold sm at this
        rwa [nt_nt, nt_nt] at this
      refine run_ne (f := f) (g := fun i => if i = k then f k ^^^ by_ else f i) hB.lt H3.out.lt len (nt 0) k hk ?_ ?_ e2
      · show f k ≠ if k = k then f k ^^^ by_ else f k
        rw [if_pos rfl]
        intro e3
        refine hb0 ?_
        have e4 : f k ^^^ (f k ^^^ by_) = f k ^^^ f k := by rw [← e3]
        rw [← Nat.xor_assoc, Nat.xor_self, Nat.zero_xor] at e4
        exact e4
      · intro i hi
        show f i = if i = k then _ else f i
        rw [if_neg hi]
    have HN := hid hneq
    have H7 := hid hx
    clear hown hg hg2 hB2 hBo ht2 hbel hxl hneq ht hB HB hne hb0 hx
    have hx := H7.out
    go_wp2_with fail
    clear hc2 hf2 hx
    generalize w2.setCell ⟨g2, k, none⟩ (.int .u8 ((f k ^^^ by_ : Nat) : Int)) = w3 at H3 H4 H5 H6 ⊢
    refine (sum_any H5.out H4.out (by omega)).mono ?_
    rintro e w4 ⟨rfl, rfl⟩
    go_wp2_with fail
    refine (sum_any H5.out H3.out (by omega)).mono ?_
    rintro e w4 ⟨rfl, rfl⟩
    have hneq := HN.out
    go_wp2_with fail
    refine (known_true _).mono ?_
    rintro e w5 ⟨rfl, hb5⟩
    have hfin := hid (H6.out.trans (hb5.mono H6.out.size))
    clear hb5 H6 H5 H4 H3
    go_wp2_with fail
    go_ret
    exact ⟨rfl, hfin.out⟩
end Go.Proofs.Ytlkeifciphehnaa.Crc
