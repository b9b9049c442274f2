/- The methods Put, Ones, Zeros and Len of a writer of bits, over the number that its bits are: what they answer, what the writer has behind them, and that nothing else has turned. Conditions: the writer has fewer than 2^43 bits. -/
import Derived.Test.YtjimamjhakainaaPush
import Derived.Deep.QuietTactic
import Derived.BigQuiet
namespace Go.Proofs.Ytjimamjhakainaa.Bit
open Go.RowKit

/-- A writer that has the L bits of N, the first one highest. -/
def WrN (w : World) (B p o : Nat) (ao : Option Addr) (cap N L : Nat) : Prop := Wr w B p o ao cap (L / 8) (N % 2 ^ (L % 8)) (L % 8) (byt N L)

theorem Wr.congr {w : World} {B p o : Nat} {ao : Option Addr} {cap k R E : Nat} {f f' : Nat → Nat} (h : Wr w B p o ao cap k R E f) (hf : ∀ i, i < k → f i = f' i) : Wr w B p o ao cap k R E f' := by
  obtain ⟨c0, c1, c2, f0, f1, f2, own, far, base⟩ := h
  refine ⟨c0, c1, c2, f0, f1, f2, ?_, far, base⟩
  have : (List.range k).map (fun i => (Value.int .u8 (f i : Int))) = (List.range k).map fun i => .int .u8 (f' i : Int) := List.map_congr_left fun i hi => by rw [hf i (List.mem_range.1 hi)]
  rw [← this]; exact own

theorem byt_new (N v n L i : Nat) (hv : v < 2 ^ n) (hi : L / 8 ≤ i) (hi2 : 8 * (i + 1) ≤ L + n) : byt (N * 2 ^ n + v) (L + n) i = (N % 2 ^ (L % 8) * 2 ^ n + v) / 2 ^ (L + n - 8 * (i + 1)) % 256 := by
  rw [rest_put N v n (L % 8) hv, rest_byte _ _ _ (by omega)]; rfl

theorem rest_new (N v n L : Nat) (hv : v < 2 ^ n) : (N % 2 ^ (L % 8) * 2 ^ n + v) % 2 ^ ((L + n) % 8) = (N * 2 ^ n + v) % 2 ^ ((L + n) % 8) := by
  rw [rest_put N v n (L % 8) hv, rest_mask _ _ _ (by omega)]

theorem push_N (B p o : Nat) (vi ni : Int) (v n : Nat) (ao : Option Addr) (cap N L : Nat) (w : World) (hvi : vi = v) (hni : ni = n) (hw : WrN w B p o ao cap N L)
    (hv : v < 2 ^ n) (hn : n ≤ 56) (hL : L ≤ 8000000000000) :
    Calls Try.prog 74 #[.pointer (some ⟨p, o, none⟩), .int .u64 vi, .int .i64 ni] w fun e w' => e = .returned (.tuple #[]) ∧
      ∃ ao' cap', WrN w' B p o ao' cap' (N * 2 ^ n + v) (L + n) ∧ Pushed w w' p ao ao' (L / 8) := by
  subst hvi hni
  have hw1 : Wr w B p o ao cap (L / 8) (N % 2 ^ (L % 8)) (L % 8) (byt (N * 2 ^ n + v) (L + n)) := Wr.congr hw fun i hi => (byt_put N L v n i hv hi).symm
  refine (push_any B p o v n ao cap (L / 8) (N % 2 ^ (L % 8)) (L % 8) _ w hw1 hv hn (by omega) (Nat.mod_lt _ (Nat.two_pow_pos _)) (by omega) ?_).mono ?_
  · intro i h1 h2
    rw [show 8 * (L / 8) + L % 8 + n = L + n from by omega] at h2 ⊢
    exact byt_new N v n L i hv h1 h2
  · rintro e w' ⟨rfl, ao', cap', h1, h2⟩
    rw [show 8 * (L / 8) + L % 8 + n = L + n from by omega, rest_new N v n L hv] at h1
    exact ⟨rfl, ao', cap', h1, h2⟩

theorem put_nil (v n : Int) (w : World) : Calls Try.prog 50 #[.pointer none, .int .u64 v, .int .i64 n] w fun e w' => e = .returned (.int .i64 2) ∧ w = w' := by
  go_enter Try.func50, Try.ntmps50
  go_wp2
  go_ret
  exact ⟨rfl, rfl⟩

theorem put_arg (p : Addr) (v n : Int) (w : World) (hn : n < 0 ∨ 64 < n) : Calls Try.prog 50 #[.pointer (some p), .int .u64 v, .int .i64 n] w fun e w' => e = .returned (.int .i64 1) ∧ w = w' := by
  rcases hn with hn | hn
  · go_enter Try.func50, Try.ntmps50
    go_wp2
    go_ret
    exact ⟨rfl, rfl⟩
  · have h0 : ¬ n < 0 := by omega
    go_enter Try.func50, Try.ntmps50
    go_wp2
    go_ret
    exact ⟨rfl, rfl⟩

theorem put_range (p : Addr) (v n : Nat) (w : World) (hn : n ≤ 64) (hv : 2 ^ n ≤ v) : Calls Try.prog 50 #[.pointer (some p), .int .u64 v, .int .i64 n] w fun e w' => e = .returned (.int .i64 3) ∧ w = w' := by
  have h0 : ¬ (n : Int) < 0 := by omega
  have h1 : ¬ (64 : Int) < n := by omega
  have h2 : (((v : Int) / 2 ^ n) != 0) = true := by
    rw [shr_nat, bne_iff_ne]
    have : 1 ≤ v / 2 ^ n := (Nat.le_div_iff_mul_le (Nat.two_pow_pos n)).2 (by omega)
    omega
  go_enter Try.func50, Try.ntmps50
  go_wp2
  go_ret
  exact ⟨rfl, rfl⟩

def PutOk (w : World) (B p o : Nat) (ao : Option Addr) (L N' L' : Nat) (e : Ending) (w' : World) : Prop :=
  e = .returned (.int .i64 0) ∧ ∃ ao' cap', WrN w' B p o ao' cap' N' L' ∧ Pushed w w' p ao ao' (L / 8)

theorem and_low (v : Nat) (hv : v < 18446744073709551616) : bits .and .u64 (v : Int) 4294967295 = ((v % 4294967296 : Nat) : Int) := by
  have h := bits_and_u64_nat v 4294967295 hv (by omega)
  rw [show v &&& 4294967295 = v % 4294967296 from Nat.and_two_pow_sub_one_eq_mod v 32] at h
  exact h
theorem split32 (N v n : Nat) (hn : 32 ≤ n) : (N * 2 ^ (n - 32) + v / 4294967296) * 2 ^ 32 + v % 4294967296 = N * 2 ^ n + v := by
  have e : 2 ^ n = 2 ^ (n - 32) * 4294967296 := by
    rw [show n = (n - 32) + 32 from by omega, Nat.pow_add, show n - 32 + 32 - 32 = n - 32 from by omega]
  rw [e, Nat.add_mul, Nat.mul_assoc, show (2 : Nat) ^ 32 = 4294967296 from rfl]; omega

theorem put_ok (B p o : Nat) (v n : Nat) (ao : Option Addr) (cap N L : Nat) (w : World) (hw : WrN w B p o ao cap N L)
    (hv : v < 2 ^ n) (hn : n ≤ 64) (hL : L ≤ 7000000000000) :
    Calls Try.prog 50 #[.pointer (some ⟨p, o, none⟩), .int .u64 v, .int .i64 n] w (PutOk w B p o ao L (N * 2 ^ n + v) (L + n)) := by
  have h0 : ¬ (n : Int) < 0 := by omega
  have h1 : ¬ (64 : Int) < n := by omega
  have h2 : (((v : Int) / 2 ^ n) != 0) = false := by
    rw [shr_nat, Nat.div_eq_of_lt hv]; rfl
  by_cases h32 : n ≤ 32
  · have h3 : ¬ (32 : Int) < n := by omega
    go_enter Try.func50, Try.ntmps50
    go_wp2_with fail
    refine (push_N B p o _ _ v n ao cap N L _ rfl rfl hw hv (by omega) (by omega)).mono ?_
    rintro e w' ⟨rfl, ao', cap', h4, h5⟩
    go_wp2_with fail
    go_ret
    exact ⟨rfl, ao', cap', h4, h5⟩
  · have h3 : (32 : Int) < n := by omega
    go_enter Try.func50, Try.ntmps50
    go_wp2_with fail
    refine (push_N B p o _ _ (v / 4294967296) (n - 32) ao cap N L _ (by omega) (by omega) hw ?_ (by omega) (by omega)).mono ?_
    · refine Nat.div_lt_of_lt_mul ?_
      have e : 2 ^ n = 4294967296 * 2 ^ (n - 32) := by
        rw [show n = 32 + (n - 32) from by omega, Nat.pow_add, show 32 + (n - 32) - 32 = n - 32 from by omega]
      rw [← e]; exact hv
    rintro e w1 ⟨rfl, ao1, cap1, h4, h5⟩
    go_wp2_with fail
    refine (push_N B p o _ _ (v % 4294967296) 32 ao1 cap1 _ _ _ (and_low v (Nat.lt_of_lt_of_le hv (Nat.le_trans (Nat.pow_le_pow_right (by decide) hn) (by decide)))) rfl h4 (Nat.mod_lt _ (by decide)) (by omega) (by omega)).mono ?_
    rintro e w2 ⟨rfl, ao2, cap2, h6, h7⟩
    have HL := (hw.rlt)
    have hfin : PutOk w B p o ao L (N * 2 ^ n + v) (L + n) (.returned (.int .i64 0)) w2 := by
      refine ⟨rfl, ao2, cap2, ?_, h5.trans h7 (by omega) (fun g hg => ⟨(HL g hg).2, fun e => hw.far (e ▸ hg)⟩)⟩
      rw [split32 N v n (by omega), show L + (n - 32) + 32 = L + n from by omega] at h6
      exact h6
    clear h4 h5 h6 h7
    go_wp2_with fail
    go_ret
    exact hfin

theorem len_nil (w : World) : Calls Try.prog 22 #[.pointer none] w fun e w' => e = .returned (.int .i64 0) ∧ w = w' := by
  go_enter Try.func22, Try.ntmps22
  go_wp2
  go_ret
  exact ⟨rfl, rfl⟩

theorem Fr.drewN {X : Nat → Prop} {a w : World} (h : Fr X a w) (n : Nat) : Fr X a (w.drewN n) := ⟨h.os, h.tape, h.output, h.size, h.block⟩
theorem WrN.drewN {w : World} {B p o : Nat} {ao : Option Addr} {cap N L : Nat} (h : WrN w B p o ao cap N L) (n : Nat) : WrN (w.drewN n) B p o ao cap N L := Wr.keep h (X := fun _ => False) ((Fr.refl _ _).drewN n) (fun x => x) (fun _ _ x => x)
theorem Pushed.drewN (w : World) (p : Nat) (ao : Option Addr) (k n : Nat) : Pushed w (w.drewN n) p ao ao k := ⟨(Fr.refl _ _).drewN n, fun _ _ _ _ => rfl, .inl rfl⟩

theorem len_any {B p o : Nat} {ao : Option Addr} {cap N L : Nat} {w : World} (hw : WrN w B p o ao cap N L) (hL : L ≤ 8000000000000) :
    Calls Try.prog 22 #[.pointer (some ⟨p, o, none⟩)] w fun e w' => e = .returned (.int .i64 L) ∧ ∃ nq, w' = w.drewN nq := by
  have c0 := hw.c0; have c2 := hw.c2
  go_enter Try.func22, Try.ntmps22
  go_wp2
  go_quiet (fail)
  go_wp2
  go_ret
  exact ⟨congrArg (fun x => Ending.returned (.int .i64 x)) (by omega), _, rfl⟩

/-- The number of n bits that are like those of b, b being 0 or 255. -/
def alike (b n : Nat) : Nat := b / 255 * (2 ^ n - 1)
theorem alike_add (b m r : Nat) : alike b m * 2 ^ r + alike b r = alike b (m + r) := by
  unfold alike
  have h1 := Nat.two_pow_pos m
  have h2 := Nat.two_pow_pos r
  rw [Nat.mul_assoc, ← Nat.mul_add, Nat.pow_add, Nat.sub_mul, Nat.one_mul]
  congr 1
  have : 2 ^ r ≤ 2 ^ m * 2 ^ r := Nat.le_mul_of_pos_left _ h1
  omega
theorem alike_lt (b r : Nat) (hb : b ≤ 255) : alike b r < 2 ^ r := by
  unfold alike
  have h2 := Nat.two_pow_pos r
  have : b / 255 ≤ 1 := by omega
  have h3 : b / 255 * (2 ^ r - 1) ≤ 1 * (2 ^ r - 1) := Nat.mul_le_mul_right _ this
  omega
theorem alike_next (b N m r : Nat) : (N * 2 ^ m + alike b m) * 2 ^ r + alike b r = N * 2 ^ (m + r) + alike b (m + r) := by
  rw [Nat.add_mul, Nat.mul_assoc, ← Nat.pow_add, Nat.add_assoc, alike_add]
theorem alike_8 (b : Nat) (hb : b = 0 ∨ b = 255) : b = alike b 8 := by rcases hb with rfl | rfl <;> rfl
theorem alike_shr (b r : Nat) (hb : b = 0 ∨ b = 255) (hr : r < 8) : b / 2 ^ (8 - r) = alike b r := by
  rcases hb with rfl | rfl
  · simp [alike]
  · match r, hr with
    | 0, _ => rfl
    | 1, _ => rfl
    | 2, _ => rfl
    | 3, _ => rfl
    | 4, _ => rfl
    | 5, _ => rfl
    | 6, _ => rfl
    | 7, _ => rfl

theorem repeat_nil (b n : Int) (w : World) : Calls Try.prog 126 #[.pointer none, .int .u8 b, .int .i64 n] w fun e w' => e = .returned (.int .i64 2) ∧ w = w' := by
  go_enter Try.func126, Try.ntmps126
  go_wp2
  go_ret
  exact ⟨rfl, rfl⟩
theorem repeat_arg (p : Addr) (b n : Int) (w : World) (hn : n < 0) : Calls Try.prog 126 #[.pointer (some p), .int .u8 b, .int .i64 n] w fun e w' => e = .returned (.int .i64 1) ∧ w = w' := by
  go_enter Try.func126, Try.ntmps126
  go_wp2
  go_ret
  exact ⟨rfl, rfl⟩
theorem repeat_long (p : Addr) (b n : Int) (w : World) (hn : 1048576 < n) : Calls Try.prog 126 #[.pointer (some p), .int .u8 b, .int .i64 n] w fun e w' => e = .returned (.int .i64 4) ∧ w = w' := by
  have h0 : ¬ n < 0 := by omega
  go_enter Try.func126, Try.ntmps126
  go_wp2
  go_ret
  exact ⟨rfl, rfl⟩

set_option maxHeartbeats 800000 in
theorem repeat_ok (B p o : Nat) (b n : Nat) (ao : Option Addr) (cap N L : Nat) (w : World) (hw : WrN w B p o ao cap N L)
    (hb : b = 0 ∨ b = 255) (hn : n ≤ 1048576) (hL : L ≤ 7000000000000) :
    Calls Try.prog 126 #[.pointer (some ⟨p, o, none⟩), .int .u8 b, .int .i64 n] w (PutOk w B p o ao L (N * 2 ^ n + alike b n) (L + n)) := by
  have h0 : ¬ (n : Int) < 0 := by omega
  have h1 : ¬ (1048576 : Int) < n := by omega
  have hb2 : b ≤ 255 := by omega
  have HB := hid hb
  have hlt0 : ∀ g, blk ao = some g → g < w.heap.size ∧ g ≠ p := fun g hg => ⟨(hw.rlt g hg).2, fun e => hw.far (e ▸ hg)⟩
  have HLT := hid hlt0
  clear hb hlt0
  go_enter Try.func126, Try.ntmps126
  go_wp2_with fail
  go_loopg [18] (n / 8) (fun g i wr => ∃ (j : Nat) (ao' : Option Addr) (cap' : Nat), j ≤ n / 8 ∧ g = n / 8 - j ∧ i = .int .i64 j ∧ WrN wr B p o ao' cap' (N * 2 ^ (8 * j) + alike b (8 * j)) (L + 8 * j) ∧ Pushed w wr p ao ao' (L / 8))
  case atStart => exact ⟨0, ao, cap, Nat.zero_le _, rfl, rfl, by simpa [alike] using hw, Pushed.refl _ _ _ _⟩
  case round =>
    obtain ⟨j, ao', cap', hj, hg, rfl, hw', hP⟩ := hrel
    have HG := hid hg
    clear hg
    by_cases hlt : j < n / 8
    · have hlt2 : (j : Int) < (n : Int) / 8 := by omega
      go_wp2_with fail
      refine (push_N B p o _ _ b 8 ao' cap' _ _ _ rfl rfl hw' (by omega) (by omega) (by omega)).mono ?_
      rintro e w1 ⟨rfl, ao1, cap1, h4, h5⟩
      go_wp2_with fail
      go_roundg (n / 8 - (j + 1))
      case measure => rw [HG.out]; omega
      case rel =>
        refine ⟨j + 1, ao1, cap1, by omega, rfl, by go_num, ?_, hP.trans h5 (by omega) HLT.out⟩
        have e := alike_next b N (8 * j) 8
        rw [← alike_8 b HB.out] at e
        rw [e] at h4
        exact h4
    · have hge : ¬ (j : Int) < (n : Int) / 8 := by omega
      go_wp2_with fail
      obtain rfl : j = n / 8 := by omega
      have hsm : IntKind.u64.wrap ((b : Int) / 2 ^ (8 - n % 8)) = (alike b (n % 8) : Nat) := by
        have e := alike_shr b (n % 8) HB.out (Nat.mod_lt _ (by decide))
        rw [shr_nat, e]
        have := alike_lt b (n % 8) hb2
        have h8 : 2 ^ (n % 8) ≤ 2 ^ 8 := Nat.pow_le_pow_right (by decide) (by omega)
        exact IntWalk.u64_in _ (by omega)
      refine (push_N B p o _ _ (alike b (n % 8)) (n % 8) ao' cap' _ _ _ hsm (by omega) hw' (alike_lt _ _ hb2) (by omega) (by omega)).mono ?_
      rintro e w1 ⟨rfl, ao1, cap1, h4, h5⟩
      have hfin : PutOk w B p o ao L (N * 2 ^ n + alike b n) (L + n) (.returned (.int .i64 0)) w1 := by
        refine ⟨rfl, ao1, cap1, ?_, hP.trans h5 (by omega) HLT.out⟩
        have e := alike_next b N (8 * (n / 8)) (n % 8)
        rw [show 8 * (n / 8) + n % 8 = n from by omega] at e
        rw [e, show L + 8 * (n / 8) + n % 8 = L + n from by omega] at h4
        exact h4
      clear h4 h5 hP hw' hsm
      go_wp2_with fail
      go_ret
      exact hfin

theorem ones_nil (n : Int) (w : World) : Calls Try.prog 120 #[.pointer none, .int .i64 n] w fun e w' => e = .returned (.int .i64 2) ∧ w = w' := by
  go_enter Try.func120, Try.ntmps120
  go_wp2_with fail
  refine (repeat_nil _ _ _).mono ?_
  rintro e w1 ⟨rfl, rfl⟩
  go_wp2_with fail
  go_ret
  exact ⟨rfl, rfl⟩
theorem ones_arg (p : Addr) (n : Int) (w : World) (hn : n < 0) : Calls Try.prog 120 #[.pointer (some p), .int .i64 n] w fun e w' => e = .returned (.int .i64 1) ∧ w = w' := by
  go_enter Try.func120, Try.ntmps120
  go_wp2_with fail
  refine (repeat_arg _ _ _ _ hn).mono ?_
  rintro e w1 ⟨rfl, rfl⟩
  go_wp2_with fail
  go_ret
  exact ⟨rfl, rfl⟩
theorem ones_long (p : Addr) (n : Int) (w : World) (hn : 1048576 < n) : Calls Try.prog 120 #[.pointer (some p), .int .i64 n] w fun e w' => e = .returned (.int .i64 4) ∧ w = w' := by
  go_enter Try.func120, Try.ntmps120
  go_wp2_with fail
  refine (repeat_long _ _ _ _ hn).mono ?_
  rintro e w1 ⟨rfl, rfl⟩
  go_wp2_with fail
  go_ret
  exact ⟨rfl, rfl⟩
theorem ones_ok (B p o : Nat) (n : Nat) (ao : Option Addr) (cap N L : Nat) (w : World) (hw : WrN w B p o ao cap N L) (hn : n ≤ 1048576) (hL : L ≤ 7000000000000) :
    Calls Try.prog 120 #[.pointer (some ⟨p, o, none⟩), .int .i64 n] w (PutOk w B p o ao L (N * 2 ^ n + (2 ^ n - 1)) (L + n)) := by
  have hk := repeat_ok B p o 255 n ao cap N L w hw (.inr rfl) hn hL
  rw [show alike 255 n = 2 ^ n - 1 from by simp [alike]] at hk
  go_enter Try.func120, Try.ntmps120
  go_wp2_with fail
  refine hk.mono ?_
  rintro e w1 h1
  have h2 := h1.1
  subst h2
  clear hk
  go_wp2_with fail
  go_ret
  exact h1
end Go.Proofs.Ytjimamjhakainaa.Bit
