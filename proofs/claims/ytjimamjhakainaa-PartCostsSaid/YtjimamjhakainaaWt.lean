/- Put and PutAll of rice: what they answer, what the writer has behind them, and that nothing else has turned. Conditions: a list lies in memory as its numbers; the writer has fewer than 2^42 bits. -/
import Derived.Test.YtjimamjhakainaaCo
namespace Go.Proofs.Ytjimamjhakainaa.Rice
open Go.RowKit Bit

/-- A slice of numbers in memory. -/
structure Us (W : World) (a : Option Addr) (len b off : Nat) (U : Nat → Nat) : Prop where
  addr : 0 < len → a = some ⟨b, off, none⟩
  c : ∀ i, i < len → W.cell? ⟨b, off + i, none⟩ = some (.int .u64 (U i : Int))
  ub : ∀ i, i < len → U i < 18446744073709551616
  lt : 0 < len → b < W.heap.size
  hl : len ≤ 9223372036854775807
theorem Us.below {W W' : World} {a : Option Addr} {len b off : Nat} {U : Nat → Nat} (h : Us W a len b off U) {B : Nat} (hb : Below B W W') (hB : 0 < len → b < B) : Us W' a len b off U :=
  ⟨h.addr, fun i hi => (hb.cell (p := ⟨b, _, none⟩) (hB (by omega))).trans (h.c i hi), h.ub, fun hl => Nat.lt_of_lt_of_le (h.lt hl) hb.size, h.hl⟩
theorem Us.fr {W W' : World} {a : Option Addr} {len b off : Nat} {U : Nat → Nat} (h : Us W a len b off U) {X : Nat → Prop} (hf : Fr X W W') (hX : 0 < len → ¬ X b) : Us W' a len b off U :=
  ⟨h.addr, fun i hi => (hf.cell (p := ⟨b, _, none⟩) (h.lt (by omega)) (hX (by omega))).trans (h.c i hi), h.ub, fun hl => Nat.lt_of_lt_of_le (h.lt hl) hf.size, h.hl⟩

def allC (U : Nat → Nat) (len : Nat) : Prop := ∀ i, i < len → coded (U i)

theorem notcoded (u : Nat) (w : World) : Calls Try.prog 102 #[.int .u64 (u : Int)] w fun e w' => e = .returned (.bool (!decide (coded u))) ∧ w = w' := by
  have hi := iscoded u w
  generalize decide (coded u) = x at *
  go_enter Try.func102, Try.ntmps102
  go_wp2_with fail
  refine hi.mono ?_
  rintro e w' ⟨rfl, rfl⟩
  go_wp2_with fail
  go_ret
  exact ⟨rfl, rfl⟩

theorem index_any (w : World) (a : Option Addr) (len cap b off : Nat) (U : Nat → Nat) (h : Us w a len b off U) :
    Calls Try.prog 119 #[.slice a len cap, .func (.func 102) #[] #[]] w fun e w' => ∃ r : Int, e = .returned (.int .i64 r) ∧ w = w' ∧ ((r = -1 ∧ allC U len) ∨ (0 ≤ r ∧ ¬ allC U len)) := by
  have H := hid h
  have hl := h.hl
  clear h
  go_enter Try.func119, Try.ntmps119
  go_wp2_with fail
  go_loopg [8] len (fun g i wr => ∃ k : Nat, k ≤ len ∧ g = len - k ∧ i = .int .i64 k ∧ w = wr ∧ allC U k)
  case atStart => exact ⟨0, Nat.zero_le _, rfl, rfl, rfl, fun j hj => absurd hj (Nat.not_lt_zero _)⟩
  case round =>
    obtain ⟨k, hk, hg, rfl, rfl, hall⟩ := hrel
    have HG := hid hg
    have HA := hid hall
    clear hg hall
    by_cases hlt : k < len
    · have hlt2 : (k : Int) < (len : Int) := by omega
      obtain rfl := H.out.addr (by omega)
      have ck := H.out.c k hlt
      go_wp2_with fail
      refine (notcoded (U k) w).mono ?_
      rintro e w' ⟨rfl, rfl⟩
      by_cases hc : coded (U k)
      · rw [decide_eq_true hc]
        go_wp2_with fail
        go_roundg (len - (k + 1))
        case measure => rw [HG.out]; omega
        case rel => exact ⟨k + 1, by omega, rfl, by go_num, rfl, fun j hj => by
          by_cases e : j = k
          · rw [e]; exact hc
          · exact HA.out j (by omega)⟩
      · rw [decide_eq_false hc]
        go_wp2_with fail
        go_ret
        exact ⟨_, rfl, rfl, .inr ⟨by omega, fun h => hc (h k hlt)⟩⟩
    · have hge : ¬ (k : Int) < (len : Int) := by omega
      obtain rfl : k = len := by omega
      go_wp2_with fail
      go_ret
      exact ⟨_, rfl, rfl, .inl ⟨rfl, HA.out⟩⟩

theorem contains_any (w : World) (a : Option Addr) (len cap b off : Nat) (U : Nat → Nat) (h : Us w a len b off U) :
    Calls Try.prog 101 #[.slice a len cap, .func (.func 102) #[] #[]] w fun e w' => ∃ x : Bool, e = .returned (.bool x) ∧ w = w' ∧ (x = true ↔ ¬ allC U len) := by
  go_enter Try.func101, Try.ntmps101
  go_wp2_with fail
  refine (index_any w a len cap b off U h).mono ?_
  rintro e w' ⟨r, rfl, rfl, hr⟩
  rcases hr with ⟨rfl, hr⟩ | ⟨h0, hr⟩
  · go_wp2_with fail
    go_ret
    exact ⟨_, rfl, rfl, by simp [hr]⟩
  · go_wp2_with fail
    go_ret
    exact ⟨_, rfl, rfl, by simp [hr]⟩

/-- A number's code, as a number of so many bits as it costs. -/
def cod (u k : Nat) : Nat := if u / 2 ^ k < 24 then (2 ^ (u / 2 ^ k) - 1) * 2 ^ (k + 1) + u % 2 ^ k else (2 ^ 24 - 1) * 2 ^ 40 + u
/-- What a writer has behind it. -/
def Wrote (w : World) (B p o : Nat) (ao : Option Addr) (L N' L' : Nat) (w' : World) : Prop := ∃ ao' cap', WrN w' B p o ao' cap' N' L' ∧ Pushed w w' p ao ao' (L / 8)

theorem cost_low {u k : Nat} (hk : k ≤ 30) (hu : coded u) (h : u / 2 ^ k < 24) : cost u (k : Int) = u / 2 ^ k + 1 + k := by
  unfold cost; rw [if_pos ⟨⟨by omega, by omega⟩, hu⟩, if_pos (by rw [Int.toNat_natCast]; exact h), Int.toNat_natCast]
theorem cost_high {u k : Nat} (hk : k ≤ 30) (hu : coded u) (h : ¬ u / 2 ^ k < 24) : cost u (k : Int) = 64 := by
  unfold cost; rw [if_pos ⟨⟨by omega, by omega⟩, hu⟩, if_neg (by rw [Int.toNat_natCast]; exact h)]
theorem join_low (N q k v : Nat) : (N * 2 ^ q + (2 ^ q - 1)) * 2 ^ (k + 1) + v = N * 2 ^ (q + 1 + k) + ((2 ^ q - 1) * 2 ^ (k + 1) + v) := by
  rw [Nat.add_mul, Nat.mul_assoc, ← Nat.pow_add, show q + (k + 1) = q + 1 + k from by omega, Nat.add_assoc]
theorem join_high (N u : Nat) : (N * 2 ^ 24 + (2 ^ 24 - 1)) * 2 ^ 40 + u = N * 2 ^ 64 + ((2 ^ 24 - 1) * 2 ^ 40 + u) := by omega

theorem ones_okI (B p o : Nat) (ni : Int) (n : Nat) (hni : ni = n) (ao : Option Addr) (cap N L : Nat) (w : World) (hw : WrN w B p o ao cap N L) (hn : n ≤ 1048576) (hL : L ≤ 7000000000000) :
    Calls Try.prog 120 #[.pointer (some ⟨p, o, none⟩), .int .i64 ni] w (PutOk w B p o ao L (N * 2 ^ n + (2 ^ n - 1)) (L + n)) := by subst hni; exact ones_ok B p o n ao cap N L w hw hn hL
theorem put_okI (B p o : Nat) (vi ni : Int) (v n : Nat) (hvi : vi = v) (hni : ni = n) (ao : Option Addr) (cap N L : Nat) (w : World) (hw : WrN w B p o ao cap N L)
    (hv : v < 2 ^ n) (hn : n ≤ 64) (hL : L ≤ 7000000000000) :
    Calls Try.prog 50 #[.pointer (some ⟨p, o, none⟩), .int .u64 vi, .int .i64 ni] w (PutOk w B p o ao L (N * 2 ^ n + v) (L + n)) := by subst hvi hni; exact put_ok B p o v n ao cap N L w hw hv hn hL

theorem write_any (B p o : Nat) (u k : Nat) (ao : Option Addr) (cap N L : Nat) (w : World) (hw : WrN w B p o ao cap N L) (hk : k ≤ 30) (hu : coded u) (hL : L ≤ 6000000000000) :
    Calls Try.prog 103 #[.pointer (some ⟨p, o, none⟩), .int .u64 (u : Int), .int .i64 (k : Int)] w fun e w' => e = .returned (.tuple #[]) ∧ Wrote w B p o ao L (N * 2 ^ cost u k + cod u k) (L + cost u k) w' := by
  have HL := hw.rlt
  have hu2 : u < 1099511627776 := hu
  by_cases h : u / 2 ^ k < 24
  · rw [cost_low hk hu h, show cod u k = (2 ^ (u / 2 ^ k) - 1) * 2 ^ (k + 1) + u % 2 ^ k from if_pos h, ← join_low, show L + (u / 2 ^ k + 1 + k) = L + u / 2 ^ k + (k + 1) from by omega]
    have hiw := iswhole u k hk w
    rw [decide_eq_false (by omega : ¬ 24 ≤ u / 2 ^ k)] at hiw
    have hm := and_mask u k (by omega) (by omega)
    have hmb : u % 2 ^ k < 2 ^ (k + 1) := Nat.lt_of_lt_of_le (Nat.mod_lt _ (Nat.two_pow_pos k)) (Nat.pow_le_pow_right (by decide) (by omega))
    have hs := shr_nat u k
    have HM := hid hm
    have HS := hid hs
    generalize u / 2 ^ k = q at *
    generalize u % 2 ^ k = r at *
    have h3 : (u : Int) / 2 ^ k ≤ 24 := by rw [hs]; omega
    have h4 : (0 : Int) ≤ (u : Int) / 2 ^ k := by rw [hs]; omega
    have HU := hid hu
    clear hm hs hu
    go_enter Try.func103, Try.ntmps103
    go_wp2_with fail
    refine hiw.mono ?_
    rintro e w1 ⟨rfl, rfl⟩
    clear hiw
    go_wp2_with fail
    refine (ones_okI B p o _ q HS.out ao cap N L w hw (by omega) (by omega)).mono ?_
    rintro e w1 ⟨rfl, ao1, cap1, hw1, hp1⟩
    clear h3 h4
    go_wp2_with fail
    refine (put_okI B p o _ _ r (k + 1) HM.out (by omega) ao1 cap1 _ _ w1 hw1 hmb (by omega) (by omega)).mono ?_
    rintro e w2 ⟨rfl, ao2, cap2, hw2, hp2⟩
    have hfin : Wrote w B p o ao L ((N * 2 ^ q + (2 ^ q - 1)) * 2 ^ (k + 1) + r) (L + q + (k + 1)) w2 := ⟨ao2, cap2, hw2, hp1.trans hp2 (by omega) (fun g hg => ⟨(HL g hg).2, fun e => hw.far (e ▸ hg)⟩)⟩
    clear hw1 hp1 hw2 hp2
    go_wp2_with fail
    go_end0
    exact ⟨rfl, hfin⟩
  · rw [cost_high hk hu h, show cod u k = (2 ^ 24 - 1) * 2 ^ 40 + u from if_neg h, ← join_high, show L + 64 = L + 24 + 40 from rfl]
    have hiw := iswhole u k hk w
    rw [decide_eq_true (by omega : 24 ≤ u / 2 ^ k)] at hiw
    have HU := hid hu
    clear hu h
    go_enter Try.func103, Try.ntmps103
    go_wp2_with fail
    refine hiw.mono ?_
    rintro e w1 ⟨rfl, rfl⟩
    clear hiw
    go_wp2_with fail
    refine (ones_okI B p o _ 24 rfl ao cap N L w hw (by omega) (by omega)).mono ?_
    rintro e w1 ⟨rfl, ao1, cap1, hw1, hp1⟩
    go_wp2_with fail
    refine (put_okI B p o _ _ u 40 rfl rfl ao1 cap1 _ _ w1 hw1 hu2 (by omega) (by omega)).mono ?_
    rintro e w2 ⟨rfl, ao2, cap2, hw2, hp2⟩
    have hfin : Wrote w B p o ao L ((N * 2 ^ 24 + (2 ^ 24 - 1)) * 2 ^ 40 + u) (L + 24 + 40) w2 := ⟨ao2, cap2, hw2, hp1.trans hp2 (by omega) (fun g hg => ⟨(HL g hg).2, fun e => hw.far (e ▸ hg)⟩)⟩
    clear hw1 hp1 hw2 hp2
    go_wp2_with fail
    refine bodyPost_ret (results_none Try.results103 _ _ _) rfl ?_
    exact ⟨rfl, hfin⟩
end Go.Proofs.Ytjimamjhakainaa.Rice
