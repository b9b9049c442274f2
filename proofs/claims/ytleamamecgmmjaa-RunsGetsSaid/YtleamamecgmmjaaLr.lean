/- The document's own Put, Many and Align over a list of bits: what they answer, over the number that the bits are, and that nothing that was there has turned. Conditions: fewer than 2^40 bits; Many at most 2^20. -/
import Derived.Test.YtleamamecgmmjaaLst
namespace Go.Proofs.Ytleamamecgmmjaa.Bit
open Go.RowKit

/-- A list of bits in memory that a call has left: the one that was there, or a new one; nothing else has turned. -/
def Ls (w : World) (B : Nat) (lo : Option Addr) (N L : Nat) (v : Value) (w' : World) : Prop :=
  ∃ (lo' : Option Addr) (lcap' : Nat), v = .slice lo' L lcap' ∧ Lst w' B lo' lcap' N L ∧ Below w.heap.size w w' ∧ (blk lo' = blk lo ∨ ∀ g, blk lo' = some g → w.heap.size ≤ g)

theorem Lst.fr {w w' : World} {B : Nat} {lo : Option Addr} {lcap N L : Nat} (h : Lst w B lo lcap N L) {X : Nat → Prop} (hf : Fr X w w') (hx : ∀ g, blk lo = some g → ¬ X g) : Lst w' B lo lcap N L := ownsRow_block h fun g hg => hf.block g (h.lt g hg).2 (hx g hg)

theorem Lst.copied {w1 : World} {B : Nat} {lo : Option Addr} {lcap N L : Nat} (h : w1.ownsRow B 3 1 (.slice lo (0 + L) lcap) (0 + L) ([] ++ bitl N L)) : Lst w1 B lo lcap N L := by
  rw [Nat.zero_add, List.nil_append] at h; exact h

/-- A list that is new since w. -/
structure Nw (w : World) (B : Nat) (lo : Option Addr) (lcap N L : Nat) (w' : World) : Prop where
  lst : Lst w' B lo lcap N L
  below : Below w.heap.size w w'
  new : ∀ g, blk lo = some g → w.heap.size ≤ g

theorem Nw.start {w w1 : World} {B : Nat} {lo : Option Addr} {lcap N L : Nat} (h : w1.ownsRow B 3 1 (.slice lo L lcap) L (bitl N L)) (hg : (w.alloc (.cells #[] 3)).grownBy w1 (blk (some ⟨w.heap.size, 0, none⟩)))
    (hat : blk lo = blk (some ⟨w.heap.size, 0, none⟩) ∨ ∀ g, blk lo = some g → w.heap.size + 1 ≤ g) : Nw w B lo lcap N L w1 :=
  ⟨h, ((Below.refl _ _).alloc (Nat.le_refl _) _).grown hg (by simp) (fun k hk => by simp [blk] at hk; omega), fun g hg => by
    rcases hat with e | e
    · rw [e] at hg; simp [blk] at hg; omega
    · have := e g hg; omega⟩
theorem Nw.below' {w w1 w2 : World} {B : Nat} {lo : Option Addr} {lcap N L : Nat} (h : Nw w B lo lcap N L w1) (hb : Below w1.heap.size w1 w2) : Nw w B lo lcap N L w2 :=
  ⟨h.lst.upto hb, h.below.trans (hb.mono h.below.size), h.new⟩
theorem Nw.app {w w1 w2 w3 : World} {B : Nat} {lo lo' : Option Addr} {lcap lcap' N L v n : Nat} (h : Nw w B lo lcap N L w1) (hb : Below w1.heap.size w1 w2) (hv : v < 2 ^ n)
    (ho : w3.ownsRow B 3 1 (.slice lo' (L + n) lcap') (L + n) (bitl N L ++ bitl v n)) (hg : w2.grownBy w3 (blk lo)) (hat : blk lo' = blk lo ∨ ∀ g, blk lo' = some g → w2.heap.size ≤ g) : Nw w B lo' lcap' (N * 2 ^ n + v) (L + n) w3 := by
  have h2 := h.below' hb
  refine ⟨by unfold Lst; rw [bitl_app N L v n hv]; exact ho, h2.below.grown hg h2.below.size h2.new, fun g hg => ?_⟩
  rcases hat with e | e
  · exact h.new g (by rw [← e]; exact hg)
  · exact Nat.le_trans h2.below.size (e g hg)
theorem Nw.ls {w w' : World} {B : Nat} {lo lo' : Option Addr} {lcap N L : Nat} (h : Nw w B lo' lcap N L w') : Ls w B lo N L (.slice lo' L lcap) w' := ⟨lo', lcap, rfl, h.lst, h.below, .inr h.new⟩

/-- n bits that are like one bit, behind N. -/
def many (N b n : Nat) : Nat := N * 2 ^ n + b * (2 ^ n - 1)
theorem many_next (N b j : Nat) : many N b j * 2 ^ 1 + b = many N b (j + 1) := by
  unfold many
  have := Nat.two_pow_pos j
  obtain ⟨q, hq⟩ : ∃ q, 2 ^ j = q + 1 := ⟨2 ^ j - 1, by omega⟩
  rw [Nat.pow_succ 2 j, hq, show (q + 1) * 2 - 1 = q + q + 1 from by omega, show q + 1 - 1 = q from rfl]
  rw [show (2 : Nat) ^ 1 = 2 from rfl, Nat.mul_add b, Nat.mul_add b, Nat.mul_one, Nat.add_mul, Nat.mul_assoc]
  omega
theorem bitl1 (b : Nat) (hb : b < 2) : bitl b 1 = [.int .i64 (b : Int)] := by
  simp [bitl, bitOf, Nat.mod_eq_of_lt hb]

def manyS (N L b : Nat) (n : Int) : Nat × Nat × Int := if n < 0 then (N, L, 1) else if 1048576 < n then (N, L, 4) else (many N b n.toNat, L + n.toNat, 0)

theorem many_zero (N b : Nat) : many N b 0 = N := by simp [many]
theorem many_bit0 (N j : Nat) : many N 0 j = N * 2 ^ j := by simp [many]

set_option maxHeartbeats 800000 in
theorem ralign_list (w : World) (B : Nat) (lo : Option Addr) (lcap N L : Nat) (h : Lst w B lo lcap N L) (hB : B ≤ w.heap.size) (hL : L ≤ 1099511627776) :
    Calls Try.prog 39 #[.slice lo L lcap] w fun e w' => ∃ x, e = .returned x ∧ Ls w B lo (pad N L) (8 * ((L + 7) / 8)) x w' := by
  obtain ⟨i0, hi, hz0, hz1, hz2⟩ := info_parts Try.info3
  have hown0 : ∀ ob, ob = Obj.cells #[] 3 → (w.alloc ob).ownsRow B 3 1 (.slice (some ⟨w.heap.size, 0, none⟩) 0 0) 0 [] := by
    rintro _ rfl; exact World.ownsRow_made w #[] 0 hB (by decide) rfl
  have h1' := Lst.fr h ((Fr.refl (fun _ => False) w).alloc (.cells #[] 3)) (fun _ _ x => x)
  have HB := hid hB
  clear h
  go_enter Try.func39, Try.ntmps39
  go_wp2_with (at_builtin; go_must (refine wpList_append_list _ rfl (.tmp 5) (.tmp 6) 29 rfl B 3 i0 (.int .i64 0) 8 Try.underlying29 hi hz0 hz1 hz2 rfl (some ⟨w.heap.size, 0, none⟩) 0 0 [] rfl (hown0 _ rfl) lo L lcap (bitl N L) rfl (bitl_len N L) h1'.none' h1'.cells (bitl_one N L) (by unfold maxLen; omega) (by omega) (by simp; omega) ?_))
  intro lo1 lcap1 w1 hown1 hg1 hat1
  have hn1 := Nw.start hown1 hg1 hat1
  clear hown1 hg1 hat1 h1' hown0 hB
  go_wp2_with fail
  go_loopg [3, 4] 8 (fun g v i wr => ∃ (j : Nat) (lo1 : Option Addr) (lcap1 : Nat), (j = 0 ∨ (L % 8 ≠ 0 ∧ j ≤ 8 - L % 8)) ∧ g = 8 - j ∧ i = .int .i64 j ∧ v = .slice lo1 (L + j) lcap1 ∧ Nw w B lo1 lcap1 (many N 0 j) (L + j) wr)
  case atStart => exact ⟨0, lo1, lcap1, .inl rfl, rfl, rfl, rfl, by simpa [many] using hn1⟩
  case round =>
    obtain ⟨j, lo2, lcap2, hj, hg, rfl, rfl, hn2⟩ := hrel
    have HG := hid hg
    clear hg hn1
    by_cases h8 : (L + j) % 8 = 0
    · have hfin : Ls w B lo (pad N L) (8 * ((L + 7) / 8)) (.slice lo2 (L + j) lcap2) wr := by
        obtain rfl : j = 8 * ((L + 7) / 8) - L := by omega
        have := hn2.ls (lo := lo)
        rw [many_bit0, show L + (8 * ((L + 7) / 8) - L) = 8 * ((L + 7) / 8) from by omega] at this
        rw [show L + (8 * ((L + 7) / 8) - L) = 8 * ((L + 7) / 8) from by omega]
        exact this
      have h9 : (((L + j : Nat) : Int) % 8 != 0) = false := by rw [bne_eq_false_iff_eq]; omega
      have h10 : (((L : Int) + j) % 8 != 0) = false := by rw [bne_eq_false_iff_eq]; omega
      clear hn2 h8
      by_cases hj8 : j < 8
      · have hj9 : (j : Int) < 8 := by omega
        go_wp2_with fail
        go_ret
        exact ⟨_, rfl, hfin⟩
      · have hj9 : ¬ (j : Int) < 8 := by omega
        go_wp2_with fail
        go_ret
        exact ⟨_, rfl, hfin⟩
    · have hj9 : (j : Int) < 8 := by omega
      have h9 : (((L + j : Nat) : Int) % 8 != 0) = true := by rw [bne_iff_ne]; omega
      have h10 : (((L : Int) + j) % 8 != 0) = true := by rw [bne_iff_ne]; omega
      have hb2 : Below wr.heap.size wr (wr.alloc (.cells #[.int .i64 0] 3)) := (Below.refl _ _).alloc (Nat.le_refl _) _
      have hn3 := hn2.below' hb2
      have hsz : B ≤ (wr.alloc (.cells #[.int .i64 0] 3)).heap.size := Nat.le_trans HB.out hn3.below.size
      have hcell : (wr.alloc (.cells #[.int .i64 0] 3)).cell? ⟨wr.heap.size, 0, none⟩ = some (.int .i64 0) := by simp
      go_wp2_with (at_builtin; go_must (refine wpList_append_list _ rfl (.tmp 18) (.tmp 19) 29 rfl B 3 i0 (.int .i64 0) 8 Try.underlying29 hi hz0 hz1 hz2 rfl lo2 (L + j) lcap2 (bitl (many N 0 j) (L + j)) rfl hn3.lst (some ⟨wr.heap.size, 0, none⟩) 1 1 (bitl 0 1) rfl (bitl_len 0 1) (by simp) (fun ad had => by
        cases had
        rw [bitl1 0 (by decide)]; exact news_one hcell) (bitl_one 0 1) (by unfold maxLen; omega) (by omega) hsz ?_))
      intro lo4 lcap4 w4 hown4 hg4 hat4
      have hn4 := hn2.app hb2 (v := 0) (n := 1) (by decide) hown4 hg4 (by simpa using hat4)
      rw [many_next] at hn4
      clear hown4 hg4 hat4 hn2 hn3 hb2 hcell hsz
      go_wp2_with fail
      go_roundg (8 - (j + 1))
      case measure => rw [HG.out]; omega
      case rel => exact ⟨j + 1, lo4, lcap4, .inr (by omega), rfl, by go_num, rfl, hn4⟩
end Go.Proofs.Ytleamamecgmmjaa.Bit
