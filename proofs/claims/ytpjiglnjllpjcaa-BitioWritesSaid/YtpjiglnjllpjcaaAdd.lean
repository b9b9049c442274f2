/- The method Add of a writer of bits: the bits of the other one, be it another or itself, stand behind its own; nothing else has turned. Conditions: fewer than 2^42 bits in each; the other one's bits are a number below 2 to their number. -/
import Derived.Test.YtpjiglnjllpjcaaPut
namespace Go.Proofs.Ytpjiglnjllpjcaa.Bit
open Go.RowKit

/-- Two writers that share nothing. -/
structure Sep (p : Nat) (ao : Option Addr) (q : Nat) (bo : Option Addr) : Prop where
  ne : p ≠ q
  aq : blk ao ≠ some q
  bp : blk bo ≠ some p
  rows : ∀ g, blk ao = some g → blk bo ≠ some g

theorem Sep.symm {p q : Nat} {ao bo : Option Addr} (h : Sep p ao q bo) : Sep q bo p ao := ⟨h.ne.symm, h.bp, h.aq, fun g hg e => h.rows g e hg⟩

/-- What pushing bits into one writer leaves of another. -/
theorem Pushed.other {w w' : World} {p : Nat} {ao ao' : Option Addr} {k : Nat} (h : Pushed w w' p ao ao' k) {B q o : Nat} {bo : Option Addr} {cap N L : Nat} (hq : WrN w B q o bo cap N L) (hs : Sep p ao q bo) :
    WrN w' B q o bo cap N L ∧ Sep p ao' q bo := by
  have h1 : ¬ (q = p ∨ blk ao = some q) := fun e => e.elim (fun e => hs.ne e.symm) hs.aq
  have h2 : ∀ g, blk bo = some g → ¬ (g = p ∨ blk ao = some g) := fun g hg e => e.elim (fun e => hs.bp (by rw [hg, e])) (fun e => hs.rows g e hg)
  refine ⟨Wr.keep hq h.fr h1 h2, hs.ne, ?_, hs.bp, ?_⟩
  · rcases h.at_ with e | e
    · rw [e]; exact hs.aq
    · intro e2; have := e q e2; have := Wr.plt hq; omega
  · intro g hg e2
    rcases h.at_ with e | e
    · exact hs.rows g (e ▸ hg) e2
    · have := e g hg; have := (Wr.rlt hq g e2).2; omega

theorem add_step (N M K i : Nat) (hi : 8 * (i + 1) ≤ K) : (N * 2 ^ (8 * i) + M / 2 ^ (K - 8 * i)) * 2 ^ 8 + byt M K i = N * 2 ^ (8 * (i + 1)) + M / 2 ^ (K - 8 * (i + 1)) := by
  unfold byt
  have e1 : K - 8 * i = (K - 8 * (i + 1)) + 8 := by omega
  rw [e1, Nat.pow_add, ← Nat.div_div_eq_div_mul, show 8 * (i + 1) = 8 * i + 8 from by omega, Nat.pow_add, ← Nat.mul_assoc, Nat.add_mul]
  have := Nat.div_add_mod (M / 2 ^ (K - (8 * i + 8))) 256
  rw [show (2 : Nat) ^ 8 = 256 from rfl]
  omega
theorem add_last (N M K : Nat) : (N * 2 ^ (8 * (K / 8)) + M / 2 ^ (K - 8 * (K / 8))) * 2 ^ (K % 8) + M % 2 ^ (K % 8) = N * 2 ^ K + M := by
  have e1 : K - 8 * (K / 8) = K % 8 := by omega
  have e2 : 2 ^ K = 2 ^ (8 * (K / 8)) * 2 ^ (K % 8) := by rw [← Nat.pow_add, Nat.div_add_mod]
  rw [e1, e2, Nat.add_mul, Nat.mul_assoc, Nat.add_assoc]
  have := Nat.div_add_mod M (2 ^ (K % 8))
  rw [Nat.mul_comm (M / 2 ^ (K % 8))]
  omega

set_option maxHeartbeats 800000 in
theorem add_gen (B p o q o' : Nat) (ao bo : Option Addr) (cap cap' N L M K : Nat) (w : World) (hw : WrN w B p o ao cap N L) (hq : WrN w B q o' bo cap' M K)
    (hM : M < 2 ^ K) (hL : L ≤ 3000000000000) (hK : K ≤ 3000000000000)
    (hc : ∀ w' ao', Pushed w w' p ao ao' (L / 8) → ∀ j, j < K / 8 → ∃ g, bo = some ⟨g, 0, none⟩ ∧ w'.cell? ⟨g, j, none⟩ = some (.int .u8 (byt M K j : Int))) :
    Calls Try.prog 26 #[.pointer (some ⟨p, o, none⟩), .pointer (some ⟨q, o', none⟩)] w (PutOk w B p o ao L (N * 2 ^ K + M) (L + K)) := by
  have hlt0 : ∀ g, blk ao = some g → g < w.heap.size ∧ g ≠ p := fun g hg => ⟨(Wr.rlt hw g hg).2, fun e => Wr.far hw (e ▸ hg)⟩
  have HLT := hid hlt0
  have HC := hid hc
  have HM := hid hM
  have d0 := Wr.c0 hq; have d1 := Wr.c1 hq; have d2 := Wr.c2 hq
  clear hlt0 hc hM hq
  go_enter Try.func26, Try.ntmps26
  go_wp2_with fail
  go_quiet (fail)
  rename_i nq
  go_wp2_with fail
  clear d0 d1 d2
  have hw1 := hw.drewN nq
  have hP0 := Pushed.drewN w p ao (L / 8) nq
  go_loopg [30] (K / 8) (fun g i wr => ∃ (j : Nat) (ao' : Option Addr) (cap2 : Nat), j ≤ K / 8 ∧ g = K / 8 - j ∧ i = .int .i64 j ∧ WrN wr B p o ao' cap2 (N * 2 ^ (8 * j) + M / 2 ^ (K - 8 * j)) (L + 8 * j) ∧ Pushed w wr p ao ao' (L / 8))
  case atStart => exact ⟨0, ao, cap, Nat.zero_le _, rfl, rfl, by simpa [Nat.div_eq_of_lt HM.out] using hw1, hP0⟩
  case round =>
    obtain ⟨j, ao', cap2, hj, hg, rfl, hw', hP⟩ := hrel
    have HG := hid hg
    clear hg hw1 hP0
    by_cases hlt : j < K / 8
    · obtain ⟨g, rfl, hcell⟩ := HC.out _ _ hP j hlt
      have hlt2 : (j : Int) < (K : Int) / 8 := by omega
      have hb : byt M K j < 256 := byt_lt _ _ _
      go_wp2_with fail
      refine (push_N B p o _ _ (byt M K j) 8 ao' cap2 _ _ _ rfl rfl hw' hb (by omega) (by omega)).mono ?_
      rintro e w1 ⟨rfl, ao1, cap1, h4, h5⟩
      rw [add_step N M K j (by omega)] at h4
      have hP1 := hP.trans h5 (by omega) HLT.out
      clear h5 hP hw' hcell
      go_wp2_with fail
      go_roundg (K / 8 - (j + 1))
      case measure => rw [HG.out]; omega
      case rel => exact ⟨j + 1, ao1, cap1, by omega, rfl, by go_num, h4, hP1⟩
    · have hge : ¬ (j : Int) < (K : Int) / 8 := by omega
      obtain rfl : j = K / 8 := by omega
      go_wp2_with fail
      refine (push_N B p o _ _ (M % 2 ^ (K % 8)) (K % 8) ao' cap2 _ _ _ (by push_cast; rfl) (by omega) hw' (Nat.mod_lt _ (Nat.two_pow_pos _)) (by omega) (by omega)).mono ?_
      rintro e w1 ⟨rfl, ao1, cap1, h4, h5⟩
      rw [add_last N M K, show L + 8 * (K / 8) + K % 8 = L + K from by omega] at h4
      have hfin : PutOk w B p o ao L (N * 2 ^ K + M) (L + K) (.returned (.int .i64 0)) w1 := ⟨rfl, ao1, cap1, h4, hP.trans h5 (by omega) HLT.out⟩
      clear h4 h5 hP hw'
      go_wp2_with fail
      go_ret
      exact hfin

theorem WrN.cell {w : World} {B q o : Nat} {bo : Option Addr} {cap M K : Nat} (h : WrN w B q o bo cap M K) (j : Nat) (hj : j < K / 8) : ∃ g, bo = some ⟨g, 0, none⟩ ∧ w.cell? ⟨g, j, none⟩ = some (.int .u8 (byt M K j : Int)) := by
  rcases ownsRow_at (Wr.own h) with ⟨_, h1, _, _⟩ | ⟨g, rfl⟩
  · omega
  · exact ⟨g, rfl, ownsRow_cell (Wr.own h) j _ (by simp [hj])⟩

/-- Another writer's bits. -/
theorem add_other (B p o q o' : Nat) (ao bo : Option Addr) (cap cap' N L M K : Nat) (w : World) (hw : WrN w B p o ao cap N L) (hq : WrN w B q o' bo cap' M K) (hs : Sep p ao q bo)
    (hM : M < 2 ^ K) (hL : L ≤ 3000000000000) (hK : K ≤ 3000000000000) :
    Calls Try.prog 26 #[.pointer (some ⟨p, o, none⟩), .pointer (some ⟨q, o', none⟩)] w (PutOk w B p o ao L (N * 2 ^ K + M) (L + K)) :=
  add_gen B p o q o' ao bo cap cap' N L M K w hw hq hM hL hK fun _ _ hP j hj => (hP.other hq hs).1.cell j hj

/-- Its own. -/
theorem add_self (B p o : Nat) (ao : Option Addr) (cap N L : Nat) (w : World) (hw : WrN w B p o ao cap N L) (hN : N < 2 ^ L) (hL : L ≤ 3000000000000) :
    Calls Try.prog 26 #[.pointer (some ⟨p, o, none⟩), .pointer (some ⟨p, o, none⟩)] w (PutOk w B p o ao L (N * 2 ^ L + N) (L + L)) :=
  add_gen B p o p o ao ao cap cap N L N L w hw hw hN hL hL fun w' _ hP j hj => by
    obtain ⟨g, hg, hc⟩ := hw.cell j hj
    exact ⟨g, hg, (hP.pre g j (by rw [hg]; rfl) hj).trans hc⟩
end Go.Proofs.Ytpjiglnjllpjcaa.Bit
