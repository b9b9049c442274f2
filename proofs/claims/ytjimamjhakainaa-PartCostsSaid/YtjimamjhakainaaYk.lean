/- A part's code, and its write. Conditions: the list is coded, the writer is there. -/
import Derived.Test.YtjimamjhakainaaYi
namespace Go.Proofs.Ytjimamjhakainaa.Part
open Go.RowKit Bit Rice Runs

/-- Numbers in k bits each, behind some bits. -/
def rawc (I : Nat → Int) (k : Nat) (p : Nat × Nat) : Nat → Nat × Nat
  | 0 => p
  | j + 1 => app (rawc I k p j) (I j % 2 ^ k).toNat k
theorem rawc_len (I : Nat → Int) (k : Nat) (p : Nat × Nat) : ∀ n, (rawc I k p n).2 = p.2 + k * n
  | 0 => rfl
  | n + 1 => by
    have := rawc_len I k p n
    show (rawc I k p n).2 + k = _
    rw [this, Nat.mul_succ]; omega
/-- A part's code in one of the ways, behind some bits. -/
def pcw (x : Nat × Nat × Nat) (I : Nat → Int) (n : Nat) (p : Nat × Nat) : Nat × Nat :=
  if x.1 = 0 then app p 31 6 else if x.1 = 1 then cods (zs I) x.2.1 (app p x.2.1 6).1 (app p x.2.1 6).2 n
  else if x.1 = 2 then cfin I x.2.1 (app (app p 32 6) x.2.1 5) n else rawc I x.2.1 (app (app p 33 6) x.2.1 6) n
/-- Which ways are written. -/
def wok (x : Nat × Nat × Nat) : Prop := (x.1 = 0) ∨ (x.1 = 1 ∧ x.2.1 ≤ 30) ∨ (x.1 = 2 ∧ x.2.1 ≤ 30) ∨ (x.1 = 3 ∧ 1 ≤ x.2.1 ∧ x.2.1 ≤ 41)
theorem wok_1 (q t : Nat) (h : q ≤ 30) : wok (1, q, t) := .inr (.inl ⟨rfl, h⟩)
theorem wok_2 (q t : Nat) (h : q ≤ 30) : wok (2, q, t) := .inr (.inr (.inl ⟨rfl, h⟩))
theorem wok_3 (q t : Nat) (h : 1 ≤ q) (h2 : q ≤ 41) : wok (3, q, t) := .inr (.inr (.inr ⟨rfl, h, h2⟩))
theorem wok_ite (c : Prop) [Decidable c] (x y : Nat × Nat × Nat) (hx : wok x) (hy : wok y) : wok (if c then x else y) := by split <;> assumption
theorem wy_ok (I : Nat → Int) (n : Nat) (h : gr I n < 1099511627776) : wok (wy I n) := by
  have h1 := kr_le I n
  have h2 := rbs_le I n 30
  have h3 := rw_le I n h
  have h4 : 1 ≤ rw_ I n := by unfold rw_ rw1; omega
  have a1 : wok (1, kr I n, 6 + tt I n (kr I n)) := wok_1 _ _ h1
  have a2 : wok (2, rbs I n 30, 11 + cstI I (rbs I n 30 : Nat) n) := wok_2 _ _ h2
  have a3 : wok (3, rw_ I n, 12 + rw_ I n * n) := wok_3 _ _ h4 h3
  have a0 : wok (0, 0, 6) := .inl rfl
  unfold wy
  refine wok_ite _ _ _ a0 ?_
  dsimp only
  generalize (1, kr I n, 6 + tt I n (kr I n)) = z1 at *
  generalize (2, rbs I n 30, 11 + cstI I (rbs I n 30 : Nat) n) = z2 at *
  exact wok_ite _ _ _ a3 (wok_ite _ _ _ a2 a1)
theorem pcw_le (x : Nat × Nat × Nat) (I : Nat → Int) (n : Nat) (p : Nat × Nat) (h : wok x) : p.2 ≤ (pcw x I n p).2 ∧ (pcw x I n p).2 ≤ p.2 + 127 * n + 80 := by
  unfold pcw
  rcases h with h | ⟨h, _⟩ | ⟨h, _⟩ | ⟨h, h1, h2⟩
  · rw [if_pos h]
    show p.2 ≤ p.2 + 6 ∧ _
    show p.2 ≤ p.2 + 6 ∧ p.2 + 6 ≤ _
    omega
  · rw [if_neg (by omega), if_pos h]
    have := cods_le (zs I) x.2.1 (app p x.2.1 6).1 (app p x.2.1 6).2 n
    have e : (app p x.2.1 6).2 = p.2 + 6 := rfl
    omega
  · rw [if_neg (by omega), if_neg (by omega), if_pos h]
    have := cfin_le I x.2.1 (app (app p 32 6) x.2.1 5) n
    have e : (app (app p 32 6) x.2.1 5).2 = p.2 + 6 + 5 := rfl
    omega
  · rw [if_neg (by omega), if_neg (by omega), if_neg (by omega), rawc_len]
    have e : (app (app p 33 6) x.2.1 6).2 = p.2 + 6 + 6 := rfl
    have : x.2.1 * n ≤ 41 * n := Nat.mul_le_mul_right _ h2
    omega

theorem pst_put {W wr : World} {B p o : Nat} {ao : Option Addr} {L : Nat} {r : Nat × Nat} (h : Pst W B p o ao L r wr) (hlt : ∀ g, blk ao = some g → g < W.heap.size ∧ g ≠ p) (hL : L ≤ r.2) (h7 : r.2 ≤ 7000000000000)
    (vi ni : Int) (v n : Nat) (hvi : vi = v) (hni : ni = n) (hv : v < 2 ^ n) (hn : n ≤ 64) :
    Calls Try.prog 50 #[.pointer (some ⟨p, o, none⟩), .int .u64 vi, .int .i64 ni] wr fun e w' => e = .returned (.int .i64 0) ∧ Pst W B p o ao L (app r v n) w' := by
  obtain ⟨ao', cap', hw, hp⟩ := h
  refine (put_okI B p o vi ni v n hvi hni ao' cap' r.1 r.2 wr hw hv hn h7).mono ?_
  rintro e w' ⟨rfl, ao2, cap2, hw2, hp2⟩
  exact ⟨rfl, ao2, cap2, hw2, hp.trans hp2 (by omega) hlt⟩
theorem pst_is {W wr : World} {B p o : Nat} {ao : Option Addr} {L : Nat} {r : Nat × Nat} (h : Pst W B p o ao L r wr) {a : Option Addr} {len cap b off : Nat} {I : Nat → Int} (hi : Is W a len cap b off I) (hsep : 0 < len → b ≠ p ∧ blk ao ≠ some b) :
    Is wr a len cap b off I := by
  obtain ⟨ao', cap', hw, hp⟩ := h
  exact hi.fr hp.fr fun hl hx => by
    rcases hx with e | e
    · exact (hsep hl).1 e
    · exact (hsep hl).2 e
theorem pst_new (W : World) {B p o : Nat} {ao : Option Addr} {cap N L : Nat} (h : WrN W B p o ao cap N L) : Pst W B p o ao L (N, L) W := ⟨ao, cap, h, Pushed.refl _ _ _ _⟩
theorem pst_trans {W w1 w2 : World} {B p o : Nat} {ao ao1 : Option Addr} {L : Nat} {r r2 : Nat × Nat} (h : Pushed W w1 p ao ao1 (L / 8)) (h2 : Pst w1 B p o ao1 r.2 r2 w2) (hL : L ≤ r.2) (hlt : ∀ g, blk ao = some g → g < W.heap.size ∧ g ≠ p) : Pst W B p o ao L r2 w2 := by
  obtain ⟨ao', cap', hw, hp⟩ := h2
  exact ⟨ao', cap', hw, h.trans hp (by omega) hlt⟩
theorem pst_upto {W w1 w2 : World} {B p o : Nat} {ao : Option Addr} {L : Nat} {r : Nat × Nat} (h : Pst W B p o ao L r w1) (hb : Below w1.heap.size w1 w2) (hlt : ∀ g, blk ao = some g → g < W.heap.size ∧ g ≠ p) : Pst W B p o ao L r w2 := by
  obtain ⟨ao', cap', hw, hp⟩ := h
  refine ⟨ao', cap', hw.keep (fr_of_below hb) (fun x => x) (fun _ _ x => x), ⟨hp.fr.trans ((fr_of_below hb).mono fun _ _ x => x.elim), fun g j hg hj => ?_, hp.at_⟩⟩
  exact (hb.cell (p := ⟨g, j, none⟩) (by have := (hlt g hg).1; have := hp.fr.size; show g < _; omega)).trans (hp.pre g j hg hj)

theorem u64_mask (x : Int) (k : Nat) (hk : k ≤ 63) : bits .and .u64 (IntKind.u64.wrap x) (IntKind.u64.wrap (IntKind.u64.wrap (2 ^ k) - 1)) = (((x % 2 ^ k).toNat : Nat) : Int) := by
  obtain ⟨y, hy⟩ : ∃ y : Nat, IntKind.u64.wrap x = (y : Int) := ⟨(x % 18446744073709551616).toNat, by rw [IntKind.wrap_u64]; omega⟩
  have hyl : y < 18446744073709551616 := by rw [IntKind.wrap_u64] at hy; omega
  rw [hy, and_mask y k hyl hk]
  have hp : (0 : Int) < 2 ^ k := by rw [show (2 : Int) ^ k = ((2 ^ k : Nat) : Int) from by push_cast; rfl]; have := Nat.two_pow_pos k; omega
  have h2 : x % 2 ^ k = (y : Int) % 2 ^ k := by
    rw [← hy, IntKind.wrap_u64]
    refine (Int.emod_emod_of_dvd x ?_).symm
    exact ⟨2 ^ (64 - k), by rw [← Int.pow_add, show k + (64 - k) = 64 from by omega]; decide⟩
  rw [h2]
  have h3 : (0 : Int) ≤ (y : Int) % 2 ^ k := Int.emod_nonneg _ (by omega)
  rw [Int.toNat_of_nonneg h3]
  push_cast
  rfl
theorem mask_lt (x : Int) (k : Nat) : (x % 2 ^ k).toNat < 2 ^ k := by
  have hp : (0 : Int) < 2 ^ k := by rw [show (2 : Int) ^ k = ((2 ^ k : Nat) : Int) from by push_cast; rfl]; have := Nat.two_pow_pos k; omega
  have h1 := Int.emod_lt_of_pos x hp
  have h2 : (0 : Int) ≤ x % 2 ^ k := Int.emod_nonneg _ (by omega)
  have h3 : ((x % 2 ^ k).toNat : Int) < ((2 ^ k : Nat) : Int) := by rw [Int.toNat_of_nonneg h2]; push_cast; exact h1
  exact_mod_cast h3
