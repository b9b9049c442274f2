/- The methods Put, Ones, Zeros and Len of a writer of bits, over the number that its bits are: what they answer, what the writer has behind them, and that nothing else has turned. Conditions: the writer has fewer than 2^43 bits. -/
import Derived.Test.YtjimamjhakainaaSPush
import Derived.Deep.QuietTactic
import Derived.BigQuiet
namespace Go.Proofs.Ytjimamjhakainaa.Bit
open Go.RowKit

/-- A writer that has the L bits of N, the first one highest. -/
def WrN (w : World) (B p o : Nat) (ao : Option Addr) (cap N L : Nat) : Prop := Wr w B p o ao cap (L / 8) (N % 2 ^ (L % 8)) (L % 8) (byt N L)

theorem Wr.congr {w : World} {B p o : Nat} {ao : Option Addr} {cap k R E : Nat} {f f' : Nat → Nat} (h : Wr w B p o ao cap k R E f) (hf : ∀ i, i < k → f i = f' i) : Wr w B p o ao cap k R E f' := by
  obtain ⟨c0, c1, c2, f0, f1, f2, own, far, base⟩ := h
  refine ⟨c0, c1, c2, f0, f1, f2, ?_, far, base⟩
  have : (List.range k).map (fun i => (Value.int .u8 (f i : Int))) = (List.range k).map fun i => .int .u8 (f' i : Int) := List.map_congr_left fun i hi => by rw [hf i (List.mem_range.1 hi)]
  rw [← this]; exact own

theorem byt_new (N v n L i : Nat) (hv : v < 2 ^ n) (hi : L / 8 ≤ i) (hi2 : 8 * (i + 1) ≤ L + n) : byt (N * 2 ^ n + v) (L + n) i = (N % 2 ^ (L % 8) * 2 ^ n + v) / 2 ^ (L + n - 8 * (i + 1)) % 256 := by
  rw [rest_put N v n (L % 8) hv, rest_byte _ _ _ (by omega)]; rfl

theorem rest_new (N v n L : Nat) (hv : v < 2 ^ n) : (N % 2 ^ (L % 8) * 2 ^ n + v) % 2 ^ ((L + n) % 8) = (N * 2 ^ n + v) % 2 ^ ((L + n) % 8) := by
  rw [rest_put N v n (L % 8) hv, rest_mask _ _ _ (by omega)]

theorem push_N (B p o : Nat) (vi ni : Int) (v n : Nat) (ao : Option Addr) (cap N L : Nat) (w : World) (hvi : vi = v) (hni : ni = n) (hw : WrN w B p o ao cap N L)
    (hv : v < 2 ^ n) (hn : n ≤ 56) (hL : L ≤ 8000000000000) :
    Calls Try.prog 74 #[.pointer (some ⟨p, o, none⟩), .int .u64 vi, .int .i64 ni] w fun e w' => e = .returned (.tuple #[]) ∧
      ∃ ao' cap', WrN w' B p o ao' cap' (N * 2 ^ n + v) (L + n) ∧ Pushed w w' p ao ao' (L / 8) := by
  subst hvi hni
  have hw1 : Wr w B p o ao cap (L / 8) (N % 2 ^ (L % 8)) (L % 8) (byt (N * 2 ^ n + v) (L + n)) := Wr.congr hw fun i hi => (byt_put N L v n i hv hi).symm
  refine (push_any B p o v n ao cap (L / 8) (N % 2 ^ (L % 8)) (L % 8) _ w hw1 hv hn (by omega) (Nat.mod_lt _ (Nat.two_pow_pos _)) (by omega) ?_).mono ?_
  · intro i h1 h2
    rw [show 8 * (L / 8) + L % 8 + n = L + n from by omega] at h2 ⊢
    exact byt_new N v n L i hv h1 h2
  · rintro e w' ⟨rfl, ao', cap', h1, h2⟩
    rw [show 8 * (L / 8) + L % 8 + n = L + n from by omega, rest_new N v n L hv] at h1
    exact ⟨rfl, ao', cap', h1, h2⟩

theorem put_nil (v n : Int) (w : World) : Calls Try.prog 50 #[.pointer none, .int .u64 v, .int .i64 n] w fun e w' => e = .returned (.int .i64 2) ∧ w = w' := by
  go_enter Try.func50, Try.ntmps50
  go_wp2
  go_ret
  exact ⟨rfl, rfl⟩

theorem put_arg (p : Addr) (v n : Int) (w : World) (hn : n < 0 ∨ 64 < n) : Calls Try.prog 50 #[.pointer (some p), .int .u64 v, .int .i64 n] w fun e w' => e = .returned (.int .i64 1) ∧ w = w' := by
  rcases hn with hn | hn
  · go_enter Try.func50, Try.ntmps50
    go_wp2
    go_ret
    exact ⟨rfl, rfl⟩
  · have h0 : ¬ n < 0 := by omega
    go_enter Try.func50, Try.ntmps50
    go_wp2
    go_ret
    exact ⟨rfl, rfl⟩

theorem put_range (p : Addr) (v n : Nat) (w : World) (hn : n ≤ 64) (hv : 2 ^ n ≤ v) : Calls Try.prog 50 #[.pointer (some p), .int .u64 v, .int .i64 n] w fun e w' => e = .returned (.int .i64 3) ∧ w = w' := by
  have h0 : ¬ (n : Int) < 0 := by omega
  have h1 : ¬ (64 : Int) < n := by omega
  have h2 : (((v : Int) / 2 ^ n) != 0) = true := by
    rw [shr_nat, bne_iff_ne]
    have : 1 ≤ v / 2 ^ n := (Nat.le_div_iff_mul_le (Nat.two_pow_pos n)).2 (by omega)
    omega
  go_enter Try.func50, Try.ntmps50
  go_wp2
  go_ret
  exact ⟨rfl, rfl⟩

def PutOk (w : World) (B p o : Nat) (ao : Option Addr) (L N' L' : Nat) (e : Ending) (w' : World) : Prop :=
  e = .returned (.int .i64 0) ∧ ∃ ao' cap', WrN w' B p o ao' cap' N' L' ∧ Pushed w w' p ao ao' (L / 8)

theorem and_low (v : Nat) (hv : v < 18446744073709551616) : bits .and .u64 (v : Int) 4294967295 = ((v % 4294967296 : Nat) : Int) := by
  have h := bits_and_u64_nat v 4294967295 hv (by omega)
  rw [show v &&& 4294967295 = v % 4294967296 from Nat.and_two_pow_sub_one_eq_mod v 32] at h
  exact h
theorem split32 (N v n : Nat) (hn : 32 ≤ n) : (N * 2 ^ (n - 32) + v / 4294967296) * 2 ^ 32 + v % 4294967296 = N * 2 ^ n + v := by
  have e : 2 ^ n = 2 ^ (n - 32) * 4294967296 := by
    rw [show n = (n - 32) + 32 from by omega, Nat.pow_add, show n - 32 + 32 - 32 = n - 32 from by omega]
  rw [e, Nat.add_mul, Nat.mul_assoc, show (2 : Nat) ^ 32 = 4294967296 from rfl]; omega

theorem put_ok (B p o : Nat) (v n : Nat) (ao : Option Addr) (cap N L : Nat) (w : World) (hw : WrN w B p o ao cap N L)
    (hv : v < 2 ^ n) (hn : n ≤ 64) (hL : L ≤ 7000000000000) :
    Calls Try.prog 50 #[.pointer (some ⟨p, o, none⟩), .int .u64 v, .int .i64 n] w (PutOk w B p o ao L (N * 2 ^ n + v) (L + n)) := by
  have h0 : ¬ (n : Int) < 0 := by omega
  have h1 : ¬ (64 : Int) < n := by omega
  have h2 : (((v : Int) / 2 ^ n) != 0) = false := by
    rw [shr_nat, Nat.div_eq_of_lt hv]; rfl
  by_cases h32 : n ≤ 32
  · have h3 : ¬ (32 : Int) < n := by omega
    go_enter Try.func50, Try.ntmps50
    go_wp2_with fail
    refine (push_N B p o _ _ v n ao cap N L _ rfl rfl hw hv (by omega) (by omega)).mono ?_
    rintro e w' ⟨rfl, ao', cap', h4, h5⟩
    go_wp2_with fail
    go_ret
    exact ⟨rfl, ao', cap', h4, h5⟩
  · have h3 : (32 : Int) < n := by omega
    go_enter Try.func50, Try.ntmps50
    go_wp2_with fail
    refine (push_N B p o _ _ (v / 4294967296) (n - 32) ao cap N L _ (by omega) (by omega) hw ?_ (by omega) (by omega)).mono ?_
    · refine Nat.div_lt_of_lt_mul ?_
      have e : 2 ^ n = 4294967296 * 2 ^ (n - 32) := by
        rw [show n = 32 + (n - 32) from by omega, Nat.pow_add, show 32 + (n - 32) - 32 = n - 32 from by omega]
      rw [← e]; exact hv
    rintro e w1 ⟨rfl, ao1, cap1, h4, h5⟩
    go_wp2_with fail
    refine (push_N B p o _ _ (v % 4294967296) 32 ao1 cap1 _ _ _ (and_low v (Nat.lt_of_lt_of_le hv (Nat.le_trans (Nat.pow_le_pow_right (by decide) hn) (by decide)))) rfl h4 (Nat.mod_lt _ (by decide)) (by omega) (by omega)).mono ?_
    rintro e w2 ⟨rfl, ao2, cap2, h6, h7⟩
    have HL := (hw.rlt)
    have hfin : PutOk w B p o ao L (N * 2 ^ n + v) (L + n) (.returned (.int .i64 0)) w2 := by
      refine ⟨rfl, ao2, cap2, ?_, h5.trans h7 (by omega) (fun g hg => ⟨(HL g hg).2, fun e => hw.far (e ▸ hg)⟩)⟩
      rw [split32 N v n (by omega), show L + (n - 32) + 32 = L + n from by omega] at h6
      exact h6
    clear h4 h5 h6 h7
    go_wp2_with fail
    go_ret
    exact hfin

theorem len_nil (w : World) : Calls Try.prog 22 #[.pointer none] w fun e w' => e = .returned (.int .i64 0) ∧ w = w' := by
  go_enter Try.func22, Try.ntmps22
  go_wp2
  go_ret
  exact ⟨rfl, rfl⟩

theorem Fr.drewN {X : Nat → Prop} {a w : World} (h : Fr X a w) (n : Nat) : Fr X a (w.drewN n) := ⟨h.os, h.tape, h.output, h.size, h.block⟩
theorem WrN.drewN {w : World} {B p o : Nat} {ao : Option Addr} {cap N L : Nat} (h : WrN w B p o ao cap N L) (n : Nat) : WrN (w.drewN n) B p o ao cap N L := Wr.keep h (X := fun _ => False) ((Fr.refl _ _).drewN n) (fun x => x) (fun _ _ x => x)
theorem Pushed.drewN (w : World) (p : Nat) (ao : Option Addr) (k n : Nat) : Pushed w (w.drewN n) p ao ao k := ⟨(Fr.refl _ _).drewN n, fun _ _ _ _ => rfl, .inl rfl⟩

theorem len_any {B p o : Nat} {ao : Option Addr} {cap N L : Nat} {w : World} (hw : WrN w B p o ao cap N L) (hL : L ≤ 8000000000000) :
    Calls Try.prog 22 #[.pointer (some ⟨p, o, none⟩)] w fun e w' => e = .returned (.int .i64 L) ∧ ∃ nq, w' = w.drewN nq := by
  have c0 := hw.c0; have c2 := hw.c2
  go_enter Try.func22, Try.ntmps22
  go_wp2
  go_quiet (fail)
  go_wp2
  go_ret
  exact ⟨congrArg (fun x => Ending.returned (.int .i64 x)) (by omega), _, rfl⟩

/-- The number of n bits that are like those of b, b being 0 or 255. -/
def alike (b n : Nat) : Nat := b / 255 * (2 ^ n - 1)
theorem alike_add (b m r : Nat) : alike b m * 2 ^ r + alike b r = alike b (m + r) := by
  unfold alike
  have h1 := Nat.two_pow_pos m
  have h2 := Nat.two_pow_pos r
  rw [Nat.mul_assoc, ← Nat.mul_add, Nat.pow_add, Nat.sub_mul, Nat.one_mul]
  congr 1
  have : 2 ^ r ≤ 2 ^ m * 2 ^ r := Nat.le_mul_of_pos_left _ h1
  omega
theorem alike_lt (b r : Nat) (hb : b ≤ 255) : alike b r < 2 ^ r := by
  unfold alike
  have h2 := Nat.two_pow_pos r
  have : b / 255 ≤ 1 := by omega
  have h3 : b / 255 * (2 ^ r - 1) ≤ 1 * (2 ^ r - 1) := Nat.mul_le_mul_right _ this
  omega
theorem alike_next (b N m r : Nat) : (N * 2 ^ m + alike b m) * 2 ^ r + alike b r = N * 2 ^ (m + r) + alike b (m + r) := by
  rw [Nat.add_mul, Nat.mul_assoc, ← Nat.pow_add, Nat.add_assoc, alike_add]
theorem alike_8 (b : Nat) (hb : b = 0 ∨ b = 255) : b = alike b 8 := by rcases hb with rfl | rfl <;> rfl
theorem alike_shr (b r : Nat) (hb : b = 0 ∨ b = 255) (hr : r < 8) : b / 2 ^ (8 - r) = alike b r := by
  rcases hb with rfl | rfl
  · simp [alike]
  · match r, hr with
    | 0, _ => rfl
    | 1, _ => rfl
    | 2, _ => rfl
    | 3, _ => rfl
    | 4, _ => rfl
    | 5, _ => rfl
    | 6, _ => rfl
    | 7, _ => rfl

theorem repeat_nil (b n : Int) (w : World) : Calls Try.prog 126 #[.pointer none, .int .u8 b, .int .i64 n] w fun e w' => e = .returned (.int .i64 2) ∧ w = w' := by
  go_enter Try.func126, Try.ntmps126
  go_wp2
  go_ret
  exact ⟨rfl, rfl⟩
theorem repeat_arg (p : Addr) (b n : Int) (w : World) (hn : n < 0) : Calls Try.prog 126 #[.pointer (some p), .int .u8 b, .int .i64 n] w fun e w' => e = .returned (.int .i64 1) ∧ w = w' := by
  go_enter Try.func126, Try.ntmps126
  go_wp2
  go_ret
  exact ⟨rfl, rfl⟩
theorem repeat_long (p : Addr) (b n : Int) (w : World) (hn : 1048576 < n) : Calls Try.prog 126 #[.pointer (some p), .int .u8 b, .int .i64 n] w fun e w' => e = .returned (.int .i64 4) ∧ w = w' := by
  have h0 : ¬ n < 0 := by omega
  go_enter Try.func126, Try.ntmps126
  go_wp2
  go_ret
  exact ⟨rfl, rfl⟩

set_option maxHeartbeats 800000 in
theorem repeat_ok (B p o : Nat) (b n : Nat) (ao : Option Addr) (cap N L : Nat) (w : World) (hw : WrN w B p o ao cap N L)
    (hb : b = 0 ∨ b = 255) (hn : n ≤ 1048576) (hL : L ≤ 7000000000000) :
    Calls Try.prog 126 #[.pointer (some ⟨p, o, none⟩), .int .u8 b, .int .i64 n] w (PutOk w B p o ao L (N * 2 ^ n + alike b n) (L + n)) := by
  have h0 : ¬ (n : Int) < 0 := by omega
  have h1 : ¬ (1048576 : Int) < n := by omega
  have hb2 : b ≤ 255 := by omega
  have HB := hid hb
  have hlt0 : ∀ g, blk ao = some g → g < w.heap.size ∧ g ≠ p := fun g hg => ⟨(hw.rlt g hg).2, fun e => hw.far (e ▸ hg)⟩
  have HLT := hid hlt0
  clear hb hlt0
  go_enter Try.func126, Try.ntmps126
  go_wp2_with fail
  go_loopg [18] (n / 8) (fun g i wr => ∃ (j : Nat) (ao' : Option Addr) (cap' : Nat), j ≤ n / 8 ∧ g = n / 8 - j ∧ i = .int .i64 j ∧ WrN wr B p o ao' cap' (N * 2 ^ (8 * j) + alike b (8 * j)) (L + 8 * j) ∧ Pushed w wr p ao ao' (L / 8))
  case atStart => exact ⟨0, ao, cap, Nat.zero_le _, rfl, rfl, by simpa [alike] using hw, Pushed.refl _ _ _ _⟩
  case round =>
    obtain ⟨j, ao', cap', hj, hg, rfl, hw', hP⟩ := hrel
    have HG := hid hg
    clear hg
    by_cases hlt : j < n / 8
    · have hlt2 : (j : Int) < (n : Int) / 8 := by omega
      go_wp2_with fail
      refine (push_N B p o _ _ b 8 ao' cap' _ _ _ rfl rfl hw' (by omega) (by omega) (by omega)).mono ?_
      rintro e w1 ⟨rfl, ao1, cap1, h4, h5⟩
      go_wp2_with fail
      go_roundg (n / 8 - (j + 1))
      case measure => rw [HG.out]; omega
      case rel =>
        refine ⟨j + 1, ao1, cap1, by omega, rfl, by go_num, ?_, hP.trans h5 (by omega) HLT.out⟩
        have e := alike_next b N (8 * j) 8
        rw [← alike_8 b HB.out] at e
        rw [e] at h4
        exact h4
    · have hge : ¬ (j : Int) < (n : Int) / 8 := by omega
      go_wp2_with fail
      obtain rfl : j = n / 8 := by omega
      have hsm : IntKind.u64.wrap ((b : Int) / 2 ^ (8 - n % 8)) = (alike b (n % 8) : Nat) := by
        have e := alike_shr b (n % 8) HB.out (Nat.mod_lt _ (by decide))
        rw [shr_nat, e]
        have := alike_lt b (n % 8) hb2
        have h8 : 2 ^ (n % 8) ≤ 2 ^ 8 := Nat.pow_le_pow_right (by decide) (by omega)
        exact IntWalk.u64_in _ (by omega)
      refine (push_N B p o _ _ (alike b (n % 8)) (n % 8) ao' cap' _ _ _ hsm (by omega) hw' (alike_lt _ _ hb2) (by omega) (by omega)).mono ?_
      rintro e w1 ⟨rfl, ao1, cap1, h4, h5⟩
      have hfin : PutOk w B p o ao L (N * 2 ^ n + alike b n) (L + n) (.returned (.int .i64 0)) w1 := by
        refine ⟨rfl, ao1, cap1, ?_, hP.trans h5 (by omega) HLT.out⟩
        have e := alike_next b N (8 * (n / 8)) (n % 8)
        rw [show 8 * (n / 8) + n % 8 = n from by omega] at e
        rw [e, show L + 8 * (n / 8) + n % 8 = L + n from by omega] at h4
        exact h4
      clear h4 h5 hP hw' hsm
      go_wp2_with fail
      go_ret
      exact hfin

theorem ones_nil (n : Int) (w : World) : Calls Try.prog 120 #[.pointer none, .int .i64 n] w fun e w' => e = .returned (.int .i64 2) ∧ w = w' := by
  go_enter Try.func120, Try.ntmps120
  go_wp2_with fail
  refine (repeat_nil _ _ _).mono ?_
  rintro e w1 ⟨rfl, rfl⟩
  go_wp2_with fail
  go_ret
  exact ⟨rfl, rfl⟩
theorem ones_arg (p : Addr) (n : Int) (w : World) (hn : n < 0) : Calls Try.prog 120 #[.pointer (some p), .int .i64 n] w fun e w' => e = .returned (.int .i64 1) ∧ w = w' := by
  go_enter Try.func120, Try.ntmps120
  go_wp2_with fail
  refine (repeat_arg _ _ _ _ hn).mono ?_
  rintro e w1 ⟨rfl, rfl⟩
  go_wp2_with fail
  go_ret
  exact ⟨rfl, rfl⟩
theorem ones_long (p : Addr) (n : Int) (w : World) (hn : 1048576 < n) : Calls Try.prog 120 #[.pointer (some p), .int .i64 n] w fun e w' => e = .returned (.int .i64 4) ∧ w = w' := by
  go_enter Try.func120, Try.ntmps120
  go_wp2_with fail
  refine (repeat_long _ _ _ _ hn).mono ?_
  rintro e w1 ⟨rfl, rfl⟩
  go_wp2_with fail
  go_ret
  exact ⟨rfl, rfl⟩
theorem ones_ok (B p o : Nat) (n : Nat) (ao : Option Addr) (cap N L : Nat) (w : World) (hw : WrN w B p o ao cap N L) (hn : n ≤ 1048576) (hL : L ≤ 7000000000000) :
    Calls Try.prog 120 #[.pointer (some ⟨p, o, none⟩), .int .i64 n] w (PutOk w B p o ao L (N * 2 ^ n + (2 ^ n - 1)) (L + n)) := by
  have hk := repeat_ok B p o 255 n ao cap N L w hw (.inr rfl) hn hL
  rw [show alike 255 n = 2 ^ n - 1 from by simp [alike]] at hk
  go_enter Try.func120, Try.ntmps120
  go_wp2_with fail
  refine hk.mono ?_
  rintro e w1 h1
  have h2 := h1.1
  subst h2
  clear hk
  go_wp2_with fail
  go_ret
  exact h1
end Go.Proofs.Ytjimamjhakainaa.Bit
/- What a number costs by a parameter, in the program and in the document: the same number, and nothing has turned. No condition. -/
namespace Go.Proofs.Ytjimamjhakainaa.Rice
open Go.RowKit Bit

/-- A parameter. -/
def okK (k : Int) : Prop := 0 ≤ k ∧ k ≤ 30
instance (k : Int) : Decidable (okK k) := by unfold okK; exact inferInstance
def coded (u : Nat) : Prop := u < 1099511627776
instance (u : Nat) : Decidable (coded u) := by unfold coded; exact inferInstance
/-- What a number costs. -/
def cost (u : Nat) (k : Int) : Nat := if okK k ∧ coded u then (if u / 2 ^ k.toNat < 24 then u / 2 ^ k.toNat + 1 + k.toNat else 64) else 0
theorem cost_le (u : Nat) (k : Int) : cost u k ≤ 64 := by
  unfold cost okK
  split
  · split <;> omega
  · omega
theorem cost_no {u : Nat} {k : Int} (h : ¬ (okK k ∧ coded u)) : cost u k = 0 := if_neg h

theorem isparam (k : Int) (w : World) : Calls Try.prog 88 #[.int .i64 k] w fun e w' => e = .returned (.bool (decide (okK k))) ∧ w = w' := by
  by_cases h0 : 0 ≤ k
  · by_cases h1 : k ≤ 30
    · have e : decide (okK k) = true := decide_eq_true ⟨h0, h1⟩
      rw [e]
      go_enter Try.func88, Try.ntmps88
      go_wp2_with fail
      go_ret
      exact ⟨rfl, rfl⟩
    · have e : decide (okK k) = false := decide_eq_false fun h => h1 h.2
      rw [e]
      go_enter Try.func88, Try.ntmps88
      go_wp2_with fail
      go_ret
      exact ⟨rfl, rfl⟩
  · have e : decide (okK k) = false := decide_eq_false fun h => h0 h.1
    rw [e]
    go_enter Try.func88, Try.ntmps88
    go_wp2_with fail
    go_ret
    exact ⟨rfl, rfl⟩
theorem rparam (k : Int) (w : World) : Calls Try.prog 97 #[.int .i64 k] w fun e w' => e = .returned (.bool (decide (okK k))) ∧ w = w' := by
  by_cases h0 : 0 ≤ k
  · by_cases h1 : k ≤ 30
    · have e : decide (okK k) = true := decide_eq_true ⟨h0, h1⟩
      rw [e]
      go_enter Try.func97, Try.ntmps97
      go_wp2_with fail
      go_ret
      exact ⟨rfl, rfl⟩
    · have e : decide (okK k) = false := decide_eq_false fun h => h1 h.2
      rw [e]
      go_enter Try.func97, Try.ntmps97
      go_wp2_with fail
      go_ret
      exact ⟨rfl, rfl⟩
  · have e : decide (okK k) = false := decide_eq_false fun h => h0 h.1
    rw [e]
    go_enter Try.func97, Try.ntmps97
    go_wp2_with fail
    go_ret
    exact ⟨rfl, rfl⟩

theorem coded_eq (u : Nat) : ((((u : Int) / 2 ^ 40) == 0) : Bool) = decide (coded u) := by
  unfold coded
  by_cases h : u < 1099511627776
  · rw [decide_eq_true h, beq_iff_eq]; omega
  · rw [decide_eq_false h, beq_eq_false_iff_ne]; omega
theorem iscoded (u : Nat) (w : World) : Calls Try.prog 89 #[.int .u64 (u : Int)] w fun e w' => e = .returned (.bool (decide (coded u))) ∧ w = w' := by
  have HE := hid (coded_eq u)
  go_enter Try.func89, Try.ntmps89
  go_wp2_with fail
  go_ret
  exact ⟨by rw [← HE.out]; rfl, rfl⟩
theorem rmay (u : Nat) (w : World) : Calls Try.prog 99 #[.int .u64 (u : Int)] w fun e w' => e = .returned (.bool (decide (coded u))) ∧ w = w' := by
  by_cases h : u < 1099511627776
  · have e : decide (coded u) = true := decide_eq_true h
    rw [e]
    have h1 : (u : Int) < 1099511627776 := by omega
    go_enter Try.func99, Try.ntmps99
    go_wp2_with fail
    go_ret
    exact ⟨rfl, rfl⟩
  · have e : decide (coded u) = false := decide_eq_false h
    rw [e]
    have h1 : ¬ (u : Int) < 1099511627776 := by omega
    go_enter Try.func99, Try.ntmps99
    go_wp2_with fail
    go_ret
    exact ⟨rfl, rfl⟩
theorem iswhole (u k : Nat) (hk : k ≤ 30) (w : World) : Calls Try.prog 90 #[.int .u64 (u : Int), .int .i64 (k : Int)] w fun e w' => e = .returned (.bool (decide (24 ≤ u / 2 ^ k))) ∧ w = w' := by
  have hsh := shr_nat u k
  by_cases h : 24 ≤ u / 2 ^ k
  · rw [decide_eq_true h]
    have h1 : (24 : Int) ≤ (u : Int) / 2 ^ k := by rw [hsh]; omega
    clear hsh
    go_enter Try.func90, Try.ntmps90
    go_wp2_with fail
    go_ret
    exact ⟨rfl, rfl⟩
  · rw [decide_eq_false h]
    have h1 : ¬ (24 : Int) ≤ (u : Int) / 2 ^ k := by rw [hsh]; omega
    clear hsh
    go_enter Try.func90, Try.ntmps90
    go_wp2_with fail
    go_ret
    exact ⟨rfl, rfl⟩
theorem rquot (u k : Nat) (hk : k ≤ 30) (w : World) : Calls Try.prog 100 #[.int .u64 (u : Int), .int .i64 (k : Int)] w fun e w' => e = .returned (.int .u64 ((u / 2 ^ k : Nat) : Int)) ∧ w = w' := by
  go_enter Try.func100, Try.ntmps100
  go_wp2_with fail
  go_ret
  exact ⟨rfl, rfl⟩

theorem cost_any (u : Nat) (k : Int) (hu : u < 18446744073709551616) (w : World) : Calls Try.prog 62 #[.int .u64 (u : Int), .int .i64 k] w fun e w' => e = .returned (.int .i64 (cost u k : Int)) ∧ w = w' := by
  by_cases h0 : okK k
  · obtain ⟨n, rfl⟩ := Int.eq_ofNat_of_zero_le h0.1
    have hn : n ≤ 30 := by have := h0.2; omega
    have HU := hid hu
    clear hu
    by_cases h1 : coded u
    · by_cases h2 : 24 ≤ u / 2 ^ n
      · have e : cost u (n : Int) = 64 := by unfold cost; rw [if_pos ⟨h0, h1⟩, if_neg (by rw [Int.toNat_natCast]; omega)]
        rw [e]
        clear e
        go_enter Try.func62, Try.ntmps62
        go_wp2_with fail
        refine (isparam _ _).mono ?_
        rintro e w' ⟨rfl, rfl⟩
        rw [decide_eq_true h0]
        go_wp2_with fail
        refine (iscoded _ _).mono ?_
        rintro e w' ⟨rfl, rfl⟩
        rw [decide_eq_true h1]
        go_wp2_with fail
        refine (iswhole u n hn _).mono ?_
        rintro e w' ⟨rfl, rfl⟩
        rw [decide_eq_true h2]
        go_wp2_with fail
        go_ret
        exact ⟨rfl, rfl⟩
      · have e : cost u (n : Int) = u / 2 ^ n + 1 + n := by unfold cost; rw [if_pos ⟨h0, h1⟩, if_pos (by rw [Int.toNat_natCast]; omega), Int.toNat_natCast]
        rw [e]
        clear e
        have h3 : (u : Int) / 2 ^ n ≤ 24 := by rw [shr_nat]; omega
        have h4 : (0 : Int) ≤ (u : Int) / 2 ^ n := by rw [shr_nat]; exact Int.natCast_nonneg _
        go_enter Try.func62, Try.ntmps62
        go_wp2_with fail
        refine (isparam _ _).mono ?_
        rintro e w' ⟨rfl, rfl⟩
        rw [decide_eq_true h0]
        go_wp2_with fail
        refine (iscoded _ _).mono ?_
        rintro e w' ⟨rfl, rfl⟩
        rw [decide_eq_true h1]
        go_wp2_with fail
        refine (iswhole u n hn _).mono ?_
        rintro e w' ⟨rfl, rfl⟩
        rw [decide_eq_false h2]
        go_wp2_with fail
        go_ret
        exact ⟨rfl, rfl⟩
    · have e : cost u (n : Int) = 0 := cost_no fun h => h1 h.2
      rw [e]
      clear e
      go_enter Try.func62, Try.ntmps62
      go_wp2_with fail
      refine (isparam _ _).mono ?_
      rintro e w' ⟨rfl, rfl⟩
      rw [decide_eq_true h0]
      go_wp2_with fail
      refine (iscoded _ _).mono ?_
      rintro e w' ⟨rfl, rfl⟩
      rw [decide_eq_false h1]
      go_wp2_with fail
      go_ret
      exact ⟨rfl, rfl⟩
  · have e : cost u k = 0 := cost_no fun h => h0 h.1
    rw [e]
    clear e
    go_enter Try.func62, Try.ntmps62
    go_wp2_with fail
    refine (isparam _ _).mono ?_
    rintro e w' ⟨rfl, rfl⟩
    rw [decide_eq_false h0]
    go_wp2_with fail
    go_ret
    exact ⟨rfl, rfl⟩
theorem rcost_any (u : Nat) (k : Int) (hu : u < 18446744073709551616) (w : World) : Calls Try.prog 96 #[.int .u64 (u : Int), .int .i64 k] w fun e w' => e = .returned (.int .i64 (cost u k : Int)) ∧ w = w' := by
  by_cases h0 : okK k
  · obtain ⟨n, rfl⟩ := Int.eq_ofNat_of_zero_le h0.1
    have hn : n ≤ 30 := by have := h0.2; omega
    have HU := hid hu
    clear hu
    by_cases h1 : coded u
    · by_cases h2 : u / 2 ^ n < 24
      · have e : cost u (n : Int) = u / 2 ^ n + 1 + n := by unfold cost; rw [if_pos ⟨h0, h1⟩, if_pos (by rw [Int.toNat_natCast]; omega), Int.toNat_natCast]
        rw [e]
        clear e
        have hq := rquot u n hn
        generalize u / 2 ^ n = x at *
        have h3 : (x : Int) < 24 := by omega
        go_enter Try.func96, Try.ntmps96
        go_wp2_with fail
        refine (rparam _ _).mono ?_
        rintro e w' ⟨rfl, rfl⟩
        rw [decide_eq_true h0]
        go_wp2_with fail
        refine (rmay _ _).mono ?_
        rintro e w' ⟨rfl, rfl⟩
        rw [decide_eq_true h1]
        go_wp2_with fail
        refine (hq _).mono ?_
        rintro e w' ⟨rfl, rfl⟩
        go_wp2_with fail
        go_ret
        exact ⟨rfl, rfl⟩
      · have e : cost u (n : Int) = 64 := by unfold cost; rw [if_pos ⟨h0, h1⟩, if_neg (by rw [Int.toNat_natCast]; omega)]
        rw [e]
        clear e
        have hq := rquot u n hn
        generalize u / 2 ^ n = x at *
        have h3 : ¬ (x : Int) < 24 := by omega
        go_enter Try.func96, Try.ntmps96
        go_wp2_with fail
        refine (rparam _ _).mono ?_
        rintro e w' ⟨rfl, rfl⟩
        rw [decide_eq_true h0]
        go_wp2_with fail
        refine (rmay _ _).mono ?_
        rintro e w' ⟨rfl, rfl⟩
        rw [decide_eq_true h1]
        go_wp2_with fail
        refine (hq _).mono ?_
        rintro e w' ⟨rfl, rfl⟩
        go_wp2_with fail
        go_ret
        exact ⟨rfl, rfl⟩
    · have e : cost u (n : Int) = 0 := cost_no fun h => h1 h.2
      rw [e]
      clear e
      go_enter Try.func96, Try.ntmps96
      go_wp2_with fail
      refine (rparam _ _).mono ?_
      rintro e w' ⟨rfl, rfl⟩
      rw [decide_eq_true h0]
      go_wp2_with fail
      refine (rmay _ _).mono ?_
      rintro e w' ⟨rfl, rfl⟩
      rw [decide_eq_false h1]
      go_wp2_with fail
      go_ret
      exact ⟨rfl, rfl⟩
  · have e : cost u k = 0 := cost_no fun h => h0 h.1
    rw [e]
    clear e
    go_enter Try.func96, Try.ntmps96
    go_wp2_with fail
    refine (rparam _ _).mono ?_
    rintro e w' ⟨rfl, rfl⟩
    rw [decide_eq_false h0]
    go_wp2_with fail
    go_ret
    exact ⟨rfl, rfl⟩
end Go.Proofs.Ytjimamjhakainaa.Rice
/- Put and PutAll of rice: what they answer, what the writer has behind them, and that nothing else has turned. Conditions: a list lies in memory as its numbers; the writer has fewer than 2^42 bits. -/
namespace Go.Proofs.Ytjimamjhakainaa.Rice
open Go.RowKit Bit

/-- A slice of numbers in memory. -/
structure Us (W : World) (a : Option Addr) (len b off : Nat) (U : Nat → Nat) : Prop where
  addr : 0 < len → a = some ⟨b, off, none⟩
  c : ∀ i, i < len → W.cell? ⟨b, off + i, none⟩ = some (.int .u64 (U i : Int))
  ub : ∀ i, i < len → U i < 18446744073709551616
  lt : 0 < len → b < W.heap.size
  hl : len ≤ 9223372036854775807
theorem Us.below {W W' : World} {a : Option Addr} {len b off : Nat} {U : Nat → Nat} (h : Us W a len b off U) {B : Nat} (hb : Below B W W') (hB : 0 < len → b < B) : Us W' a len b off U :=
  ⟨h.addr, fun i hi => (hb.cell (p := ⟨b, _, none⟩) (hB (by omega))).trans (h.c i hi), h.ub, fun hl => Nat.lt_of_lt_of_le (h.lt hl) hb.size, h.hl⟩
theorem Us.fr {W W' : World} {a : Option Addr} {len b off : Nat} {U : Nat → Nat} (h : Us W a len b off U) {X : Nat → Prop} (hf : Fr X W W') (hX : 0 < len → ¬ X b) : Us W' a len b off U :=
  ⟨h.addr, fun i hi => (hf.cell (p := ⟨b, _, none⟩) (h.lt (by omega)) (hX (by omega))).trans (h.c i hi), h.ub, fun hl => Nat.lt_of_lt_of_le (h.lt hl) hf.size, h.hl⟩

def allC (U : Nat → Nat) (len : Nat) : Prop := ∀ i, i < len → coded (U i)

theorem notcoded (u : Nat) (w : World) : Calls Try.prog 102 #[.int .u64 (u : Int)] w fun e w' => e = .returned (.bool (!decide (coded u))) ∧ w = w' := by
  have hi := iscoded u w
  generalize decide (coded u) = x at *
  go_enter Try.func102, Try.ntmps102
  go_wp2_with fail
  refine hi.mono ?_
  rintro e w' ⟨rfl, rfl⟩
  go_wp2_with fail
  go_ret
  exact ⟨rfl, rfl⟩

theorem index_any (w : World) (a : Option Addr) (len cap b off : Nat) (U : Nat → Nat) (h : Us w a len b off U) :
    Calls Try.prog 119 #[.slice a len cap, .func (.func 102) #[] #[]] w fun e w' => ∃ r : Int, e = .returned (.int .i64 r) ∧ w = w' ∧ ((r = -1 ∧ allC U len) ∨ (0 ≤ r ∧ ¬ allC U len)) := by
  have H := hid h
  have hl := h.hl
  clear h
  go_enter Try.func119, Try.ntmps119
  go_wp2_with fail
  go_loopg [8] len (fun g i wr => ∃ k : Nat, k ≤ len ∧ g = len - k ∧ i = .int .i64 k ∧ w = wr ∧ allC U k)
  case atStart => exact ⟨0, Nat.zero_le _, rfl, rfl, rfl, fun j hj => absurd hj (Nat.not_lt_zero _)⟩
  case round =>
    obtain ⟨k, hk, hg, rfl, rfl, hall⟩ := hrel
    have HG := hid hg
    have HA := hid hall
    clear hg hall
    by_cases hlt : k < len
    · have hlt2 : (k : Int) < (len : Int) := by omega
      obtain rfl := H.out.addr (by omega)
      have ck := H.out.c k hlt
      go_wp2_with fail
      refine (notcoded (U k) w).mono ?_
      rintro e w' ⟨rfl, rfl⟩
      by_cases hc : coded (U k)
      · rw [decide_eq_true hc]
        go_wp2_with fail
        go_roundg (len - (k + 1))
        case measure => rw [HG.out]; omega
        case rel => exact ⟨k + 1, by omega, rfl, by go_num, rfl, fun j hj => by
          by_cases e : j = k
          · rw [e]; exact hc
          · exact HA.out j (by omega)⟩
      · rw [decide_eq_false hc]
        go_wp2_with fail
        go_ret
        exact ⟨_, rfl, rfl, .inr ⟨by omega, fun h => hc (h k hlt)⟩⟩
    · have hge : ¬ (k : Int) < (len : Int) := by omega
      obtain rfl : k = len := by omega
      go_wp2_with fail
      go_ret
      exact ⟨_, rfl, rfl, .inl ⟨rfl, HA.out⟩⟩

theorem contains_any (w : World) (a : Option Addr) (len cap b off : Nat) (U : Nat → Nat) (h : Us w a len b off U) :
    Calls Try.prog 101 #[.slice a len cap, .func (.func 102) #[] #[]] w fun e w' => ∃ x : Bool, e = .returned (.bool x) ∧ w = w' ∧ (x = true ↔ ¬ allC U len) := by
  go_enter Try.func101, Try.ntmps101
  go_wp2_with fail
  refine (index_any w a len cap b off U h).mono ?_
  rintro e w' ⟨r, rfl, rfl, hr⟩
  rcases hr with ⟨rfl, hr⟩ | ⟨h0, hr⟩
  · go_wp2_with fail
    go_ret
    exact ⟨_, rfl, rfl, by simp [hr]⟩
  · go_wp2_with fail
    go_ret
    exact ⟨_, rfl, rfl, by simp [hr]⟩

/-- A number's code, as a number of so many bits as it costs. -/
def cod (u k : Nat) : Nat := if u / 2 ^ k < 24 then (2 ^ (u / 2 ^ k) - 1) * 2 ^ (k + 1) + u % 2 ^ k else (2 ^ 24 - 1) * 2 ^ 40 + u
/-- What a writer has behind it. -/
def Wrote (w : World) (B p o : Nat) (ao : Option Addr) (L N' L' : Nat) (w' : World) : Prop := ∃ ao' cap', WrN w' B p o ao' cap' N' L' ∧ Pushed w w' p ao ao' (L / 8)

theorem cost_low {u k : Nat} (hk : k ≤ 30) (hu : coded u) (h : u / 2 ^ k < 24) : cost u (k : Int) = u / 2 ^ k + 1 + k := by
  unfold cost; rw [if_pos ⟨⟨by omega, by omega⟩, hu⟩, if_pos (by rw [Int.toNat_natCast]; exact h), Int.toNat_natCast]
theorem cost_high {u k : Nat} (hk : k ≤ 30) (hu : coded u) (h : ¬ u / 2 ^ k < 24) : cost u (k : Int) = 64 := by
  unfold cost; rw [if_pos ⟨⟨by omega, by omega⟩, hu⟩, if_neg (by rw [Int.toNat_natCast]; exact h)]
theorem join_low (N q k v : Nat) : (N * 2 ^ q + (2 ^ q - 1)) * 2 ^ (k + 1) + v = N * 2 ^ (q + 1 + k) + ((2 ^ q - 1) * 2 ^ (k + 1) + v) := by
  rw [Nat.add_mul, Nat.mul_assoc, ← Nat.pow_add, show q + (k + 1) = q + 1 + k from by omega, Nat.add_assoc]
theorem join_high (N u : Nat) : (N * 2 ^ 24 + (2 ^ 24 - 1)) * 2 ^ 40 + u = N * 2 ^ 64 + ((2 ^ 24 - 1) * 2 ^ 40 + u) := by omega

theorem ones_okI (B p o : Nat) (ni : Int) (n : Nat) (hni : ni = n) (ao : Option Addr) (cap N L : Nat) (w : World) (hw : WrN w B p o ao cap N L) (hn : n ≤ 1048576) (hL : L ≤ 7000000000000) :
    Calls Try.prog 120 #[.pointer (some ⟨p, o, none⟩), .int .i64 ni] w (PutOk w B p o ao L (N * 2 ^ n + (2 ^ n - 1)) (L + n)) := by subst hni; exact ones_ok B p o n ao cap N L w hw hn hL
theorem put_okI (B p o : Nat) (vi ni : Int) (v n : Nat) (hvi : vi = v) (hni : ni = n) (ao : Option Addr) (cap N L : Nat) (w : World) (hw : WrN w B p o ao cap N L)
    (hv : v < 2 ^ n) (hn : n ≤ 64) (hL : L ≤ 7000000000000) :
    Calls Try.prog 50 #[.pointer (some ⟨p, o, none⟩), .int .u64 vi, .int .i64 ni] w (PutOk w B p o ao L (N * 2 ^ n + v) (L + n)) := by subst hvi hni; exact put_ok B p o v n ao cap N L w hw hv hn hL

theorem write_any (B p o : Nat) (u k : Nat) (ao : Option Addr) (cap N L : Nat) (w : World) (hw : WrN w B p o ao cap N L) (hk : k ≤ 30) (hu : coded u) (hL : L ≤ 6000000000000) :
    Calls Try.prog 103 #[.pointer (some ⟨p, o, none⟩), .int .u64 (u : Int), .int .i64 (k : Int)] w fun e w' => e = .returned (.tuple #[]) ∧ Wrote w B p o ao L (N * 2 ^ cost u k + cod u k) (L + cost u k) w' := by
  have HL := hw.rlt
  have hu2 : u < 1099511627776 := hu
  by_cases h : u / 2 ^ k < 24
  · rw [cost_low hk hu h, show cod u k = (2 ^ (u / 2 ^ k) - 1) * 2 ^ (k + 1) + u % 2 ^ k from if_pos h, ← join_low, show L + (u / 2 ^ k + 1 + k) = L + u / 2 ^ k + (k + 1) from by omega]
    have hiw := iswhole u k hk w
    rw [decide_eq_false (by omega : ¬ 24 ≤ u / 2 ^ k)] at hiw
    have hm := and_mask u k (by omega) (by omega)
    have hmb : u % 2 ^ k < 2 ^ (k + 1) := Nat.lt_of_lt_of_le (Nat.mod_lt _ (Nat.two_pow_pos k)) (Nat.pow_le_pow_right (by decide) (by omega))
    have hs := shr_nat u k
    have HM := hid hm
    have HS := hid hs
    generalize u / 2 ^ k = q at *
    generalize u % 2 ^ k = r at *
    have h3 : (u : Int) / 2 ^ k ≤ 24 := by rw [hs]; omega
    have h4 : (0 : Int) ≤ (u : Int) / 2 ^ k := by rw [hs]; omega
    have HU := hid hu
    clear hm hs hu
    go_enter Try.func103, Try.ntmps103
    go_wp2_with fail
    refine hiw.mono ?_
    rintro e w1 ⟨rfl, rfl⟩
    clear hiw
    go_wp2_with fail
    refine (ones_okI B p o _ q HS.out ao cap N L w hw (by omega) (by omega)).mono ?_
    rintro e w1 ⟨rfl, ao1, cap1, hw1, hp1⟩
    clear h3 h4
    go_wp2_with fail
    refine (put_okI B p o _ _ r (k + 1) HM.out (by omega) ao1 cap1 _ _ w1 hw1 hmb (by omega) (by omega)).mono ?_
    rintro e w2 ⟨rfl, ao2, cap2, hw2, hp2⟩
    have hfin : Wrote w B p o ao L ((N * 2 ^ q + (2 ^ q - 1)) * 2 ^ (k + 1) + r) (L + q + (k + 1)) w2 := ⟨ao2, cap2, hw2, hp1.trans hp2 (by omega) (fun g hg => ⟨(HL g hg).2, fun e => hw.far (e ▸ hg)⟩)⟩
    clear hw1 hp1 hw2 hp2
    go_wp2_with fail
    go_end0
    exact ⟨rfl, hfin⟩
  · rw [cost_high hk hu h, show cod u k = (2 ^ 24 - 1) * 2 ^ 40 + u from if_neg h, ← join_high, show L + 64 = L + 24 + 40 from rfl]
    have hiw := iswhole u k hk w
    rw [decide_eq_true (by omega : 24 ≤ u / 2 ^ k)] at hiw
    have HU := hid hu
    clear hu h
    go_enter Try.func103, Try.ntmps103
    go_wp2_with fail
    refine hiw.mono ?_
    rintro e w1 ⟨rfl, rfl⟩
    clear hiw
    go_wp2_with fail
    refine (ones_okI B p o _ 24 rfl ao cap N L w hw (by omega) (by omega)).mono ?_
    rintro e w1 ⟨rfl, ao1, cap1, hw1, hp1⟩
    go_wp2_with fail
    refine (put_okI B p o _ _ u 40 rfl rfl ao1 cap1 _ _ w1 hw1 hu2 (by omega) (by omega)).mono ?_
    rintro e w2 ⟨rfl, ao2, cap2, hw2, hp2⟩
    have hfin : Wrote w B p o ao L ((N * 2 ^ 24 + (2 ^ 24 - 1)) * 2 ^ 40 + u) (L + 24 + 40) w2 := ⟨ao2, cap2, hw2, hp1.trans hp2 (by omega) (fun g hg => ⟨(HL g hg).2, fun e => hw.far (e ▸ hg)⟩)⟩
    clear hw1 hp1 hw2 hp2
    go_wp2_with fail
    refine bodyPost_ret (results_none Try.results103 _ _ _) rfl ?_
    exact ⟨rfl, hfin⟩
end Go.Proofs.Ytjimamjhakainaa.Rice
