/- The method push of a writer of bits: whatever at most 56 bits of a number that has no more are pushed, the writer has them behind what it had, and nothing else has turned. Conditions: the writer has fewer than 2^43 bits. -/
import Derived.Test.YtjimamjhakainaaProg
import Derived.Test.YtjimamjhakainaaSLaw
import Derived.WalkKit
import Derived.WalkLawsBesides
import Derived.WalkSpells
import Derived.Outline
import Derived.Handy
import Derived.Deep.LoopGhost
import Derived.Deep.RegionHeld3
import Derived.Deep.RegionLaw
import Derived.Deep.DeepCutAuto
namespace Go.Proofs.Ytjimamjhakainaa
open Go.RowKit Bit

theorem Try.info5 : (Try.prog.info? 5).map (fun i => (i.zero, i.size, i.bytes)) = some (some (.int .u8 0), 1, 1) := by kernel_rfl

theorem cell_new_drew (W : World) (u : Value) (t : TypeId) : ((W.alloc (.cells #[u] t)).drew).cell? ⟨W.heap.size, 0, none⟩ = some u := by simp

theorem after_app {W w1 : World} {u : Value} {t : TypeId} {row : Option Nat} {n gg : Nat} (hk : Kept ((W.alloc (.cells #[u] t)).drew) w1 row n gg) {p : Nat} (off : Nat) (lp : p < W.heap.size) (far : row ≠ some p) :
    w1.cell? ⟨p, off, none⟩ = W.cell? ⟨p, off, none⟩ ∧ w1.frozen? ⟨p, off, none⟩ = W.frozen? ⟨p, off, none⟩ := by
  have hb : w1.heap[p]? = W.heap[p]? := by
    rw [hk.grown.block p (by show p < (W.alloc _).heap.size; simp; omega) (Ne.symm far)]
    exact RowKit.Below.heap_alloc _ _ _ lp
  exact ⟨World.cell?_of_block (a := ⟨p, off, none⟩) hb, World.frozen?_of_block (a := ⟨p, off, none⟩) hb⟩

theorem hid {p : Prop} (h : p) : Hid p := h
theorem num_cast (a b : Nat) : ((a : Int) + (b : Int)) = ((a + b : Nat) : Int) := by omega

set_option maxRecDepth 100000 in
set_option maxHeartbeats 3200000 in
theorem push_any (B p o : Nat) (v n : Nat) (ao : Option Addr) (cap k R E : Nat) (f : Nat → Nat) (w : World) (hw : Wr w B p o ao cap k R E f)
    (hv : v < 2 ^ n) (hn : n ≤ 56) (hE : E ≤ 7) (hR : R < 2 ^ E) (hk : k + 8 ≤ 1099511627776)
    (hf : ∀ i, k ≤ i → 8 * (i + 1) ≤ 8 * k + E + n → f i = (R * 2 ^ n + v) / 2 ^ (8 * k + E + n - 8 * (i + 1)) % 256) :
    Calls Try.prog 74 #[.pointer (some ⟨p, o, none⟩), .int .u64 v, .int .i64 n] w fun e w' => e = .returned (.tuple #[]) ∧
      ∃ ao' cap', Wr w' B p o ao' cap' ((8 * k + E + n) / 8) ((R * 2 ^ n + v) % 2 ^ ((8 * k + E + n) % 8)) ((8 * k + E + n) % 8) f ∧ Pushed w w' p ao ao' k := by
  obtain ⟨i0, hi, hz0, hz1, hz2⟩ := info_parts Try.info5
  have hfit : R * 2 ^ n + v < 18446744073709551616 := by
    have h1 : R * 2 ^ n + v < 2 ^ (E + n) := by
      rw [Nat.pow_add]
      have : (R + 1) * 2 ^ n ≤ 2 ^ E * 2 ^ n := Nat.mul_le_mul_right _ hR
      rw [Nat.add_mul] at this; omega
    exact Nat.lt_of_lt_of_le h1 (Nat.le_trans (pow_le_64 (E + n) (by omega)) (by decide))
  have hsh := shl_or R v n hv hfit
  have hlt0 : ∀ g, blk ao = some g → g < w.heap.size ∧ g ≠ p := fun g hg => ⟨(hw.rlt g hg).2, fun e => hw.far (e ▸ hg)⟩
  generalize R * 2 ^ n + v = M at *
  have HF := hid hf
  have HSH := hid hsh
  have HLT := hid hlt0
  have HFIT := hid hfit
  clear hf hsh hlt0 hfit hR
  have c0 := hw.c0; have c1 := hw.c1; have c2 := hw.c2; have f0 := hw.f0; have f1 := hw.f1; have f2 := hw.f2
  go_enter Try.func74, Try.ntmps74
  go_wp2_with fail
  go_loopg [] ((E + n) / 8) (fun g wr => ∃ (ao' : Option Addr) (cap' k' E' : Nat), Wr wr B p o ao' cap' k' M E' f ∧ g = E' / 8 ∧ 8 * k' + E' = 8 * k + E + n ∧ k ≤ k' ∧ Pushed w wr p ao ao' k)
  case atStart =>
    have h1 := (hw.setR M).setE (E + n)
    refine ⟨ao, cap, k, E + n, ?_, rfl, by omega, Nat.le_refl _, ?_⟩
    · rw [HSH.out, num_cast]; exact h1
    · exact (Pushed.setCell hw.far _ _ k).trans (Pushed.setCell hw.far _ _ k) (Nat.le_refl _) HLT.out
  case round =>
    obtain ⟨ao', cap', k', E', hw', hg, hL, hkk, hP⟩ := hrel
    by_cases h8 : 8 ≤ E'
    · obtain ⟨E1, rfl⟩ : ∃ E1, E' = E1 + 8 := ⟨E' - 8, by omega⟩
      have HG := hid hg
      have HL := hid hL
      have hE1 : E1 ≤ 55 := by omega
      have hk1 : k' + 1 ≤ 1099511627776 := by omega
      have d2 := hw'.c2
      have e2 := hw'.f2
      have HS := hw'.setE E1
      have HP1 := hP.trans (Pushed.setCell hw'.far (o + 2) (.int .i64 (E1 : Int)) k') hkk HLT.out
      clear hg hL c0 c1 c2 f0 f1 f2 hw hP
      go_wp2_with fail
      clear d2 e2 hw'
      generalize (wr.setCell ⟨p, o + 2, none⟩ (.int .i64 (E1 : Int))) = W at HS HP1 ⊢
      have hW := HS
      obtain ⟨d0, d1, d2, e0, e1, e2, own, far, base⟩ := HS
      have lp : p < W.heap.size := World.block_lt_of_cell? _ _ d0
      have hE2 : (0 : Int) ≤ E1 := by omega
      have hE3 : (E1 : Int) ≤ 64 := by omega
      go_region_law
        ((refine step_append_one (by rfl) _ _ _ (by rfl) B 5 i0 _ 1 Try.underlying41 hi hz0 hz1 hz2 rfl ao' k' cap' _ (by rfl) ((own.alloc _).drew)
            ⟨W.heap.size, 0, none⟩ 1 (.int .u8 (IntKind.u8.wrap ((M : Int) / 2 ^ E1))) (by rfl) (cell_new_drew _ _ _) rfl (by unfold maxLen; omega) (by omega) (by simp; omega) ?_
          intro gg cap1 w1 hown1 hgrow
          have e0' := (after_app hgrow o lp far).2.trans e0
          have d0' := (after_app hgrow o lp far).1.trans d0))
      all_goals
        go_wp2_with fail
        go_roundg (E1 / 8)
        case measure => rw [HG.out]; omega
        case rel =>
          have hx := HL.out
          have hb : ((M / 2 ^ E1 % 256 : Nat)) = f k' := by
            rw [HF.out k' hkk (by omega)]
            congr 3
            omega
          rw [shr_nat, wrap_u8] at hown1
          exact ⟨_, cap1, k' + 1, E1, ((hW.alloc _).drew).app hown1 hgrow hb, rfl, by omega, by omega,
            (HP1.trans (((Pushed.alloc p (fun g hg => (hW.rlt g hg).2) k' _).trans (Pushed.drew _ p ao' k') (Nat.le_refl _) (fun g hg => ⟨(hW.rlt g hg).2, fun e => hW.far (e ▸ hg)⟩)).trans (Pushed.app hgrow) (Nat.le_refl _) (fun g hg => ⟨(hW.rlt g hg).2, fun e => hW.far (e ▸ hg)⟩)) hkk HLT.out).trans
              (Pushed.setCell (((hW.alloc _).drew).app hown1 hgrow hb).far _ _ (k' + 1)) (by omega) HLT.out⟩
    · have HG := hid hg
      have HL := hid hL
      clear hg hL c0 c1 c2 f0 f1 f2 hw
      have d1 := hw'.c1
      have d2 := hw'.c2
      have e1 := hw'.f1
      have hE2 : (E' : Int) ≤ 64 := by omega
      go_wp2_with fail
      go_region
      all_goals
        go_end0
        have hx := HL.out
        obtain rfl : k' = (8 * k + E + n) / 8 := by omega
        obtain rfl : E' = (8 * k + E + n) % 8 := by omega
        refine ⟨rfl, ao', cap', ?_, ?_⟩
        · rw [and_mask _ _ HFIT.out (by omega)]
          exact (hw'.setR _).drew
        · exact (hP.trans (Pushed.setCell hw'.far _ _ _) hkk HLT.out).trans (Pushed.drew _ p ao' _) hkk HLT.out
end Go.Proofs.Ytjimamjhakainaa
