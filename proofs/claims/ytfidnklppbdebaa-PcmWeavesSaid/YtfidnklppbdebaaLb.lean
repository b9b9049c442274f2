/- The function that Part hands on: each n-th number of a list. Conditions: n from 1 to 8, a list of n K numbers, from a place below n. -/
import Derived.Test.YtfidnklppbdebaaKb
import Derived.Test.YtfidnklppbdebaaWe
namespace Go.Proofs.Ytfidnklppbdebaa.Pcm
open Go.RowKit Gen

theorem place_lt {n K m c : Nat} (hm : m < K) (hc : c < n) : n * m + c < n * K := by
  have h1 : n * (m + 1) ≤ n * K := Nat.mul_le_mul_left _ hm
  have h2 : n * (m + 1) = n * m + n := Nat.mul_succ n m
  omega

set_option maxHeartbeats 1600000 in
set_option maxRecDepth 100000 in
theorem part1_any (w : World) (c n K L p q : Nat) (a : Option Addr) (cap b o : Nat) (X : Nat → Int) (h8 : n ≤ 8) (hc : c < n) (hK : K ≤ 4294967296) (hL : L = n * K) (hp : w.cell? ⟨p, 0, none⟩ = some (.slice a L cap)) (hq : w.cell? ⟨q, 0, none⟩ = some (.int .i64 (n : Int))) (hl : Isb w a L b o X) :
    Calls Try.prog 45 (#[.int .i64 (c : Int)] ++ #[.pointer (some ⟨p, 0, none⟩), .pointer (some ⟨q, 0, none⟩)]) w (NewPost w K (fun m => X (n * m + c))) := by
  show Calls Try.prog 45 #[.int .i64 (c : Int), .pointer (some ⟨p, 0, none⟩), .pointer (some ⟨q, 0, none⟩)] w _
  obtain ⟨i0, hi, hz0, hz1, hz2⟩ := info_parts Try.info3
  have hmk : ∀ W : World, (Instr.makeSlice 42 (.int .i64 0) (.int .i64 (K : Int))).run Try.prog W = .ok (.slice (some ⟨W.heap.size, 0, none⟩) 0 K) (W.alloc (.cells (madeCells #[.int .i64 0] K) 3)) := fun W => by
    have hm := run_make (P := Try.prog) W 42 3 i0 (.int .i64 0) Try.underlying42 hi hz0 .i64 .i64 0 (K : Int) (by decide) (by omega) (by rw [hz2]; omega) (by omega)
    rw [hz1, Int.toNat_natCast, Nat.mul_one] at hm
    exact hm
  have hn0 : ¬ (n : Int) = 0 := by omega
  have hquo : Int.tdiv (L : Int) (n : Int) = (K : Int) := by
    rw [hL]
    push_cast
    exact Int.mul_tdiv_cancel_left _ hn0
  have hpos : (0 : Int) < (n : Int) := by omega
  have HL := hid hL
  have HLB : Hid (L ≤ 8 * 4294967296) := hid (by rw [hL]; exact Nat.mul_le_mul h8 hK)
  have HI := hid hl
  have HC2 := hid fun w' (hb : Below w.heap.size w w') => And.intro ((hb.cell (p := ⟨p, 0, none⟩) (World.block_lt_of_cell? _ _ hp)).trans hp) ((hb.cell (p := ⟨q, 0, none⟩) (World.block_lt_of_cell? _ _ hq)).trans hq)
  have HR0 : Hid (Row (w.alloc (.cells (madeCells #[.int .i64 0] K) 3)) w.heap.size (some ⟨w.heap.size, 0, none⟩) K (fun m => X (n * m + c)) 0) := hid (World.ownsRow_made w _ K (Nat.le_refl _) (by unfold maxLen; omega) (by rw [size_madeCells, Nat.mul_one]))
  have HB0 := hid (below_new w (.cells (madeCells #[.int .i64 0] K) 3))
  clear hl hL
  go_enter Try.func45, Try.ntmps45
  go_wp2_with fail
  clear hp hq hquo hmk
  go_loopg [5, 6] K (fun g v i wr => ∃ (m : Nat) (lo : Option Addr) (lcap T : Nat), m ≤ K ∧ g = K - m ∧ i = .int .i64 (T : Int) ∧ Hid (T = n * m + c) ∧ v = .slice lo m lcap ∧ Row wr w.heap.size lo lcap (fun m => X (n * m + c)) m ∧ Below w.heap.size w wr)
  case atStart => exact ⟨0, _, _, c, Nat.zero_le _, rfl, rfl, hid (by simp), rfl, HR0.out, HB0.out⟩
  case round =>
    obtain ⟨m, lo, lcap, T, hm, hg, rfl, HT, rfl, hr, hb⟩ := hrel
    have HG := hid hg
    have HB := hid hb
    have hp := (HC2.out wr hb).1
    have hq := (HC2.out wr hb).2
    have hlb := HLB.out
    clear hg hb
    by_cases hlt : m < K
    · have hTL : T < L := by rw [HT.out, HL.out]; exact place_lt hlt hc
      have hTi : (T : Int) < (L : Int) := by omega
      have hI := HI.out.below HB.out HI.out.lt
      have ha := hI.addr (by omega)
      have bx := hI.c T hTL
      rw [ha] at hp
      have hsz : w.heap.size ≤ (wr.alloc (.cells #[.int .i64 (X T)] 3)).heap.size := by have := HB.out.size; simp; omega
      have hrow := Row.upto hr (below_new wr (.cells #[.int .i64 (X T)] 3))
      have hcell : (wr.alloc (.cells #[.int .i64 (X T)] 3)).cell? ⟨wr.heap.size, 0, none⟩ = some (.int .i64 (X T)) := by simp
      have HRW := hid hrow
      have HBW := hid (HB.out.trans ((below_new wr (.cells #[.int .i64 (X T)] 3)).mono HB.out.size))
      unfold Row at hrow
      clear hI ha hr
      go_wp2_with (at_builtin; go_must (refine wpList_append_one rfl (.tmp 22) (.tmp 27) 42 rfl w.heap.size 3 i0 (.int .i64 0) 8 Try.underlying42 hi hz0 hz1 hz2 rfl lo m lcap (ivs (fun m => X (n * m + c)) m) rfl hrow ⟨wr.heap.size, 0, none⟩ 1 (.int .i64 (X T)) rfl hcell rfl (by unfold maxLen; omega) (by omega) hsz ?_))
      intro gg cap' w4 hown4 hkept
      have hst : Row w4 w.heap.size (some ⟨gg, 0, none⟩) cap' (fun m => X (n * m + c)) (m + 1) := by
        unfold Row
        rw [ivs_succ, ← HT.out]
        exact hown4
      have HST := hid hst
      have HB4 := hid (HBW.out.grown hkept.grown HBW.out.size (fun b hb => (HRW.out.lt b hb).1))
      have hq4 := (HC2.out w4 HB4.out).2
      clear hst hown4 hkept hrow hcell hsz bx hp hq
      go_wp2_with fail
      go_roundg (K - (m + 1))
      case measure => rw [HG.out]; omega
      case rel => exact ⟨m + 1, _, _, T + n, by omega, rfl, by go_num, hid (by have h1 : n * (m + 1) = n * m + n := Nat.mul_succ n m; have h2 := HT.out; omega), rfl, HST.out, HB4.out⟩
    · have hTL : ¬ T < L := by
        have h1 := HT.out
        have h2 := HL.out
        obtain rfl : m = K := by omega
        omega
      have hTi : ¬ (T : Int) < (L : Int) := by omega
      obtain rfl : m = K := by omega
      have HN : Hid (NewIs w.heap.size wr lo m (fun j => X (n * j + c))) := hid (own_new hr (fun j hj => by simp [ivs, hj]) (by omega))
      clear hr
      go_wp2_with fail
      go_ret
      exact ⟨_, _, rfl, HN.out, HB.out⟩
end Go.Proofs.Ytfidnklppbdebaa.Pcm
