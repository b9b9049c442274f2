/- The document's letter at a place of a text. Conditions: texts of at most 2^40 bytes. -/
import Derived.Test.YthjjonbkfkpkmaaGreatDoorY20
namespace Go.Proofs.YthjjonbkfkpkmaaGreatDoor.Tg
open Go.RowKit Gen

/-- A byte behind a letter's first one goes on with it. -/
def Go1 (s : ByteArray) (p i : Nat) : Prop := p + i < s.size ∧ 128 ≤ bt s (p + i) ∧ bt s (p + i) ≤ 191
/-- What a letter's bytes tell, so far. -/
def acc (s : ByteArray) (p x : Nat) : Nat → Nat
  | 0 => x
  | j + 1 => 64 * acc s p x j + (bt s (p + (j + 1)) - 128)
/-- How a letter begins: how many bytes it has, what its first one counts from, the least that it tells. -/
def Kind (c n base least : Nat) : Prop := (194 ≤ c ∧ c < 224 ∧ n = 2 ∧ base = 192 ∧ least = 128) ∨ (224 ≤ c ∧ c < 240 ∧ n = 3 ∧ base = 224 ∧ least = 2048) ∨ (240 ≤ c ∧ c < 245 ∧ n = 4 ∧ base = 240 ∧ least = 65536)
set_option maxRecDepth 100000 in
theorem ltr_bad {s : ByteArray} {p n base least : Nat} (hk : Kind (bt s p) n base least) (i : Nat) (h1 : 1 ≤ i) (h2 : i < n) (hn : ¬ Go1 s p i) : ltr s p = (0, 0) := by
  unfold Go1 at hn
  unfold ltr
  rcases hk with ⟨k1, k2, rfl, rfl, rfl⟩ | ⟨k1, k2, rfl, rfl, rfl⟩ | ⟨k1, k2, rfl, rfl, rfl⟩
  · obtain rfl : i = 1 := by omega
    rw [lN_two _ _ _ _ _ k1 k2, if_neg (by omega)]
  · obtain rfl | rfl : i = 1 ∨ i = 2 := by omega
    all_goals rw [lN_three _ _ _ _ _ k1 k2, if_neg (by omega)]
  · obtain rfl | rfl | rfl : i = 1 ∨ i = 2 ∨ i = 3 := by omega
    all_goals rw [lN_four _ _ _ _ _ k1 k2, if_neg (by omega)]
/-- No letter tells that. -/
def Odd (least x : Nat) : Prop := x < least ∨ 1114111 < x ∨ (55296 ≤ x ∧ x ≤ 57343)
instance (least x : Nat) : Decidable (Odd least x) := by unfold Odd; exact inferInstance
set_option maxRecDepth 100000 in
theorem ltr_good {s : ByteArray} {p n base least : Nat} (hk : Kind (bt s p) n base least) (h : ∀ i, 1 ≤ i → i < n → Go1 s p i) : ltr s p = if Odd least (acc s p (bt s p - base) (n - 1)) then (0, 0) else (n, acc s p (bt s p - base) (n - 1)) := by
  unfold ltr
  rcases hk with ⟨k1, k2, rfl, rfl, rfl⟩ | ⟨k1, k2, rfl, rfl, rfl⟩ | ⟨k1, k2, rfl, rfl, rfl⟩
  · have g1 := h 1 (by omega) (by omega)
    unfold Go1 at g1
    have hx : acc s p (bt s p - 192) (2 - 1) = 64 * (bt s p - 192) + (bt s (p + 1) - 128) := rfl
    rw [lN_two _ _ _ _ _ k1 k2, if_pos (by omega), hx, if_neg (by unfold Odd; omega)]
  · have g1 := h 1 (by omega) (by omega)
    have g2 := h 2 (by omega) (by omega)
    unfold Go1 at g1 g2
    have hx : acc s p (bt s p - 224) (3 - 1) = 64 * (64 * (bt s p - 224) + (bt s (p + 1) - 128)) + (bt s (p + 2) - 128) := rfl
    rw [lN_three _ _ _ _ _ k1 k2, if_pos (by omega), hx]
    generalize 64 * (64 * (bt s p - 224) + (bt s (p + 1) - 128)) + (bt s (p + 2) - 128) = X
    by_cases ho : Odd 2048 X
    · rw [if_pos ho]; exact if_pos ho
    · rw [if_neg ho]; exact if_neg ho
  · have g1 := h 1 (by omega) (by omega)
    have g2 := h 2 (by omega) (by omega)
    have g3 := h 3 (by omega) (by omega)
    unfold Go1 at g1 g2 g3
    have hx : acc s p (bt s p - 240) (4 - 1) = 64 * (64 * (64 * (bt s p - 240) + (bt s (p + 1) - 128)) + (bt s (p + 2) - 128)) + (bt s (p + 3) - 128) := rfl
    rw [lN_four _ _ _ _ _ k1 k2, if_pos (by omega), hx]
    generalize 64 * (64 * (64 * (bt s p - 240) + (bt s (p + 1) - 128)) + (bt s (p + 2) - 128)) + (bt s (p + 3) - 128) = X
    by_cases ho : Odd 65536 X
    · rw [if_pos ho]; exact if_pos ho
    · rw [if_neg ho]; exact if_neg ho
set_option maxRecDepth 100000 in
theorem acc_lt {s : ByteArray} {p x : Nat} (hx : x ≤ 31) : ∀ j, (∀ i, 1 ≤ i → i ≤ j → Go1 s p i) → j ≤ 3 → acc s p x j ≤ 32 * 64 ^ j - 1
  | 0, _, _ => by show x ≤ _; omega
  | j + 1, h, hj => by
    have ih := acc_lt hx j (fun i h1 h2 => h i h1 (by omega)) (by omega)
    have g := h (j + 1) (by omega) (by omega)
    unfold Go1 at g
    show 64 * acc s p x j + (bt s (p + (j + 1)) - 128) ≤ _
    have hp := Nat.two_pow_pos (6 * j)
    rw [show 64 ^ (j + 1) = 64 * 64 ^ j from by rw [Nat.pow_succ, Nat.mul_comm]]
    rw [Nat.pow_mul] at hp
    simp only [Nat.reducePow] at hp
    omega
set_option maxRecDepth 100000 in
set_option maxHeartbeats 4000000 in
theorem letter_any (s : ByteArray) (p : Nat) (hp : p < s.size) (hs : s.size ≤ 1099511627776) (w : World) :
    Calls Tryz.prog 106 #[.string s, .int .i64 (p : Int)] w fun e w' => e = .returned (.tuple #[.int .i64 ((ltr s p).1 : Int), .int .i64 ((ltr s p).2 : Int)]) ∧ Below w.heap.size w w' := by
  have hix := run_at s p hp
  have hc := bt_lt s p
  by_cases h0 : bt s p < 128
  · have hl : ltr s p = (1, bt s p) := lN_one _ _ _ _ _ h0
    rw [hl]
    generalize bt s p = c at *
    have e0 : (c : Int) < 128 := by omega
    clear hl
    go_enter Tryz.func106, Tryz.ntmps106
    go_wp2_with fail
    go_ret2
    exact ⟨rfl, Below.refl _ _⟩
  by_cases h1 : (128 ≤ bt s p ∧ bt s p < 194) ∨ (245 ≤ bt s p ∧ bt s p < 256)
  · have hl : ltr s p = (0, 0) := lN_none _ _ _ _ _ h1
    rw [hl]
    generalize bt s p = c at *
    have e0 : ¬ (c : Int) < 128 := by omega
    clear hl
    rcases h1 with h1 | h1
    · have e1 : ¬ (194 : Int) ≤ (c : Int) := by omega
      have e2 : ¬ (224 : Int) ≤ (c : Int) := by omega
      have e3 : ¬ (240 : Int) ≤ (c : Int) := by omega
      go_enter Tryz.func106, Tryz.ntmps106
      go_wp2_with fail
      go_ret2
      exact ⟨rfl, Below.refl _ _⟩
    · have e1 : (194 : Int) ≤ (c : Int) := by omega
      have e2 : ¬ (c : Int) < 224 := by omega
      have e3 : (224 : Int) ≤ (c : Int) := by omega
      have e4 : ¬ (c : Int) < 240 := by omega
      have e5 : (240 : Int) ≤ (c : Int) := by omega
      have e6 : ¬ (c : Int) < 245 := by omega
      go_enter Tryz.func106, Tryz.ntmps106
      go_wp2_with fail
      go_ret2
      exact ⟨rfl, Below.refl _ _⟩
  have hk : ∃ n base least, Kind (bt s p) n base least := by
    unfold Kind
    by_cases a1 : bt s p < 224
    · exact ⟨2, 192, 128, .inl ⟨by omega, a1, rfl, rfl, rfl⟩⟩
    · by_cases a2 : bt s p < 240
      · exact ⟨3, 224, 2048, .inr (.inl ⟨by omega, a2, rfl, rfl, rfl⟩)⟩
      · exact ⟨4, 240, 65536, .inr (.inr ⟨by omega, by omega, rfl, rfl, rfl⟩)⟩
  obtain ⟨n, base, least, hk⟩ := hk
  have HBAD := hid (fun i h1 h2 hn => ltr_bad hk i h1 h2 hn)
  have HGOOD := hid (fun h => ltr_good hk h)
  have HACC := hid (fun (hx : bt s p - base ≤ 31) j h hj => acc_lt (s := s) (p := p) hx j h hj)
  have hx0 : acc s p (bt s p - base) 0 = bt s p - base := rfl
  have HX0 := hid hx0
  have hstep : ∀ j, acc s p (bt s p - base) (j + 1) = 64 * acc s p (bt s p - base) j + (bt s (p + (j + 1)) - 128) := fun _ => rfl
  have HST := hid hstep
  clear hx0 hstep
  generalize hA : acc s p (bt s p - base) = A at *
  clear hA
  generalize hL : ltr s p = L at *
  clear hL
  have hn4 : 2 ≤ n ∧ n ≤ 4 ∧ bt s p - base ≤ 31 ∧ base ≤ bt s p := by unfold Kind at hk; omega
  obtain ⟨hn2, hn4, hb31, hbc⟩ := hn4
  have HN2 := hid hn2
  have HB31 := hid hb31
  clear hb31
  have HAC2 := hid (HACC.out HB31.out)
  clear HACC
  unfold Kind at hk
  generalize bt s p = c at *
  rcases hk with ⟨k1, k2, rfl, rfl, rfl⟩ | ⟨k1, k2, rfl, rfl, rfl⟩ | ⟨k1, k2, rfl, rfl, rfl⟩
  · have e0 : ¬ (c : Int) < 128 := by omega
    have f0 : (194 : Int) ≤ (c : Int) := by omega
    have f1 : (c : Int) < 224 := by omega
    have hw0 : (c : Int) - 192 = ((A 0 : Nat) : Int) := by rw [HX0.out]; omega
    have hp9 : (p : Int) < 1099511627776 := by omega
    have HGK := hid HGOOD.out
    clear h0 h1 k1 k2 hn2 hn4 HGOOD
    go_enter Tryz.func106, Tryz.ntmps106
    go_wp2_with fail
    clear hix
    go_loopg [8, 10] 4 (fun g x k wr => ∃ j : Nat, j + 1 ≤ 2 ∧ g = 4 - j ∧ x = .int .i64 ((A j : Nat) : Int) ∧ k = .int .i64 ((j : Int) + 1) ∧ (∀ i, 1 ≤ i → i ≤ j → Go1 s p i) ∧ Below w.heap.size w wr)
    case atStart => exact ⟨0, by omega, rfl, by first | rfl | rw [hw0], rfl, fun i h1 h2 => by omega, Below.refl _ _⟩
    case round =>
      obtain ⟨j, hj, rfl, rfl, rfl, hgo, hb⟩ := hrel
      have HB := hid hb
      have HGO := hid hgo
      clear hb hw0 e0 f0 f1
      by_cases hlt : j + 1 < 2
      · have ht : (j : Int) + 1 < 2 := by omega
        have hx9 : A j ≤ 131071 := by
          have h2 := HAC2.out j HGO.out (by omega)
          have h3 : j = 0 ∨ j = 1 ∨ j = 2 := by omega
          rcases h3 with rfl | rfl | rfl <;> simp only [Nat.reducePow, Nat.reduceMul, Nat.reduceSub] at h2 <;> omega
        have HST1 := hid (HST.out j)
        clear hgo
        by_cases hin : p + (j + 1) < s.size
        · have hin1 : ¬ (s.size : Int) ≤ (p : Int) + ((j : Int) + 1) := by omega
          have hix := fun w => run_at s (p + (j + 1)) hin w
          rw [show ((p + (j + 1) : Nat) : Int) = (p : Int) + ((j : Int) + 1) from by omega] at hix
          have hbl := bt_lt s (p + (j + 1))
          have HBT := hid (fun (h1 : 128 ≤ bt s (p + (j + 1))) (h2 : bt s (p + (j + 1)) ≤ 191) => show Go1 s p (j + 1) from ⟨hin, h1, h2⟩)
          have HBN := hid (fun (h : ¬ (128 ≤ bt s (p + (j + 1)) ∧ bt s (p + (j + 1)) ≤ 191)) => HBAD.out (j + 1) (by omega) hlt (fun g => h g.2))
          clear hin
          generalize bt s (p + (j + 1)) = b at *
          by_cases hb1 : b < 128
          · have hb2 : (b : Int) < 128 := by omega
            go_wp2_with fail
            go_ret2
            exact ⟨by rw [HBN.out (by omega)]; rfl, HB.out⟩
          · by_cases hb3 : 191 < b
            · have hb2 : ¬ (b : Int) < 128 := by omega
              have hb4 : (191 : Int) < (b : Int) := by omega
              go_wp2_with fail
              go_ret2
              exact ⟨by rw [HBN.out (by omega)]; rfl, HB.out⟩
            · have hb2 : ¬ (b : Int) < 128 := by omega
              have hb4 : ¬ (191 : Int) < (b : Int) := by omega
              have hb5 : b ≤ 191 := by omega
              have hb6 : 128 ≤ b := by omega
              have HB5 := hid hb5
              have HB6 := hid hb6
              clear hb5 hb6 hb1 hb3
              go_wp2_with fail
              go_roundg (4 - (j + 1))
              case measure => omega
              case rel =>
                refine ⟨j + 1, by omega, rfl, ?_, by go_num, fun i h1 h2 => ?_, HB.out⟩
                · have e9 : ((A (j + 1) : Nat) : Int) = 64 * (A j : Int) + (b : Int) - 128 := by
                    rw [HST1.out]; have := HB6.out; omega
                  rw [e9]
                · by_cases e : i = j + 1
                  · subst e; exact HBT.out HB6.out HB5.out
                  · exact HGO.out i h1 (by omega)
        · have hin1 : (s.size : Int) ≤ (p : Int) + ((j : Int) + 1) := by omega
          have HBN := hid (HBAD.out (j + 1) (by omega) hlt (fun g => hin g.1))
          clear hin
          go_wp2_with fail
          go_ret2
          exact ⟨by rw [HBN.out]; rfl, HB.out⟩
      · obtain rfl : j = 2 - 1 := by omega
        have HL := hid (HGK.out (fun i h1 h2 => HGO.out i h1 (by omega)))
        have hx9 : A (2 - 1) ≤ 8388607 := by
          have h2 := HAC2.out (2 - 1) HGO.out (by omega)
          simp only [Nat.reducePow, Nat.reduceMul, Nat.reduceSub] at h2 ⊢
          omega
        clear hgo hlt hj
        simp only [Nat.reduceSub] at hx9 HL ⊢
        generalize A 1 = x at *
        have HX9 := hid hx9
        by_cases o1 : x < 128
        · have HL2 := hid (show L = (0, 0) from by rw [HL.out]; exact if_pos (.inl o1))
          have o2 : (x : Int) < 128 := by omega
          clear o1
          go_wp2_with fail
          go_ret2
          exact ⟨by rw [HL2.out]; rfl, HB.out⟩
        by_cases o3 : 1114111 < x
        · have HL2 := hid (show L = (0, 0) from by rw [HL.out]; exact if_pos (.inr (.inl o3)))
          have o2 : ¬ (x : Int) < 128 := by omega
          have o4 : (1114111 : Int) < (x : Int) := by omega
          clear o1 o3
          go_wp2_with fail
          go_ret2
          exact ⟨by rw [HL2.out]; rfl, HB.out⟩
        by_cases o5 : 55296 ≤ x
        · by_cases o6 : x ≤ 57343
          · have HL2 := hid (show L = (0, 0) from by rw [HL.out]; exact if_pos (.inr (.inr ⟨o5, o6⟩)))
            have o2 : ¬ (x : Int) < 128 := by omega
            have o4 : ¬ (1114111 : Int) < (x : Int) := by omega
            have o7 : (55296 : Int) ≤ (x : Int) := by omega
            have o8 : (x : Int) ≤ 57343 := by omega
            clear o1 o3 o5 o6
            go_wp2_with fail
            go_ret2
            exact ⟨by rw [HL2.out]; rfl, HB.out⟩
          · have HL2 := hid (show L = (2, x) from by rw [HL.out]; exact if_neg (by unfold Odd; omega))
            have o2 : ¬ (x : Int) < 128 := by omega
            have o4 : ¬ (1114111 : Int) < (x : Int) := by omega
            have o7 : (55296 : Int) ≤ (x : Int) := by omega
            have o8 : ¬ (x : Int) ≤ 57343 := by omega
            clear o1 o3 o5 o6
            go_wp2_with fail
            go_ret2
            exact ⟨by rw [HL2.out]; rfl, HB.out⟩
        · have HL2 := hid (show L = (2, x) from by rw [HL.out]; exact if_neg (by unfold Odd; omega))
          have o2 : ¬ (x : Int) < 128 := by omega
          have o4 : ¬ (1114111 : Int) < (x : Int) := by omega
          have o7 : ¬ (55296 : Int) ≤ (x : Int) := by omega
          clear o1 o3 o5
          go_wp2_with fail
          go_ret2
          exact ⟨by rw [HL2.out]; rfl, HB.out⟩
  · have e0 : ¬ (c : Int) < 128 := by omega
    have f0 : (194 : Int) ≤ (c : Int) := by omega
    have f1 : ¬ (c : Int) < 224 := by omega
    have f2 : (224 : Int) ≤ (c : Int) := by omega
    have f3 : (c : Int) < 240 := by omega
    have hw0 : (c : Int) - 224 = ((A 0 : Nat) : Int) := by rw [HX0.out]; omega
    have hp9 : (p : Int) < 1099511627776 := by omega
    have HGK := hid HGOOD.out
    clear h0 h1 k1 k2 hn2 hn4 HGOOD
    go_enter Tryz.func106, Tryz.ntmps106
    go_wp2_with fail
    clear hix
    go_loopg [8, 10] 4 (fun g x k wr => ∃ j : Nat, j + 1 ≤ 3 ∧ g = 4 - j ∧ x = .int .i64 ((A j : Nat) : Int) ∧ k = .int .i64 ((j : Int) + 1) ∧ (∀ i, 1 ≤ i → i ≤ j → Go1 s p i) ∧ Below w.heap.size w wr)
    case atStart => exact ⟨0, by omega, rfl, by first | rfl | rw [hw0], rfl, fun i h1 h2 => by omega, Below.refl _ _⟩
    case round =>
      obtain ⟨j, hj, rfl, rfl, rfl, hgo, hb⟩ := hrel
      have HB := hid hb
      have HGO := hid hgo
      clear hb hw0 e0 f0 f1 f2 f3
      by_cases hlt : j + 1 < 3
      · have ht : (j : Int) + 1 < 3 := by omega
        have hx9 : A j ≤ 131071 := by
          have h2 := HAC2.out j HGO.out (by omega)
          have h3 : j = 0 ∨ j = 1 ∨ j = 2 := by omega
          rcases h3 with rfl | rfl | rfl <;> simp only [Nat.reducePow, Nat.reduceMul, Nat.reduceSub] at h2 <;> omega
        have HST1 := hid (HST.out j)
        clear hgo
        by_cases hin : p + (j + 1) < s.size
        · have hin1 : ¬ (s.size : Int) ≤ (p : Int) + ((j : Int) + 1) := by omega
          have hix := fun w => run_at s (p + (j + 1)) hin w
          rw [show ((p + (j + 1) : Nat) : Int) = (p : Int) + ((j : Int) + 1) from by omega] at hix
          have hbl := bt_lt s (p + (j + 1))
          have HBT := hid (fun (h1 : 128 ≤ bt s (p + (j + 1))) (h2 : bt s (p + (j + 1)) ≤ 191) => show Go1 s p (j + 1) from ⟨hin, h1, h2⟩)
          have HBN := hid (fun (h : ¬ (128 ≤ bt s (p + (j + 1)) ∧ bt s (p + (j + 1)) ≤ 191)) => HBAD.out (j + 1) (by omega) hlt (fun g => h g.2))
          clear hin
          generalize bt s (p + (j + 1)) = b at *
          by_cases hb1 : b < 128
          · have hb2 : (b : Int) < 128 := by omega
            go_wp2_with fail
            go_ret2
            exact ⟨by rw [HBN.out (by omega)]; rfl, HB.out⟩
          · by_cases hb3 : 191 < b
            · have hb2 : ¬ (b : Int) < 128 := by omega
              have hb4 : (191 : Int) < (b : Int) := by omega
              go_wp2_with fail
              go_ret2
              exact ⟨by rw [HBN.out (by omega)]; rfl, HB.out⟩
            · have hb2 : ¬ (b : Int) < 128 := by omega
              have hb4 : ¬ (191 : Int) < (b : Int) := by omega
              have hb5 : b ≤ 191 := by omega
              have hb6 : 128 ≤ b := by omega
              have HB5 := hid hb5
              have HB6 := hid hb6
              clear hb5 hb6 hb1 hb3
              go_wp2_with fail
              go_roundg (4 - (j + 1))
              case measure => omega
              case rel =>
                refine ⟨j + 1, by omega, rfl, ?_, by go_num, fun i h1 h2 => ?_, HB.out⟩
                · have e9 : ((A (j + 1) : Nat) : Int) = 64 * (A j : Int) + (b : Int) - 128 := by
                    rw [HST1.out]; have := HB6.out; omega
                  rw [e9]
                · by_cases e : i = j + 1
                  · subst e; exact HBT.out HB6.out HB5.out
                  · exact HGO.out i h1 (by omega)
        · have hin1 : (s.size : Int) ≤ (p : Int) + ((j : Int) + 1) := by omega
          have HBN := hid (HBAD.out (j + 1) (by omega) hlt (fun g => hin g.1))
          clear hin
          go_wp2_with fail
          go_ret2
          exact ⟨by rw [HBN.out]; rfl, HB.out⟩
      · obtain rfl : j = 3 - 1 := by omega
        have HL := hid (HGK.out (fun i h1 h2 => HGO.out i h1 (by omega)))
        have hx9 : A (3 - 1) ≤ 8388607 := by
          have h2 := HAC2.out (3 - 1) HGO.out (by omega)
          simp only [Nat.reducePow, Nat.reduceMul, Nat.reduceSub] at h2 ⊢
          omega
        clear hgo hlt hj
        simp only [Nat.reduceSub] at hx9 HL ⊢
        generalize A 2 = x at *
        have HX9 := hid hx9
        by_cases o1 : x < 2048
        · have HL2 := hid (show L = (0, 0) from by rw [HL.out]; exact if_pos (.inl o1))
          have o2 : (x : Int) < 2048 := by omega
          clear o1
          go_wp2_with fail
          go_ret2
          exact ⟨by rw [HL2.out]; rfl, HB.out⟩
        by_cases o3 : 1114111 < x
        · have HL2 := hid (show L = (0, 0) from by rw [HL.out]; exact if_pos (.inr (.inl o3)))
          have o2 : ¬ (x : Int) < 2048 := by omega
          have o4 : (1114111 : Int) < (x : Int) := by omega
          clear o1 o3
          go_wp2_with fail
          go_ret2
          exact ⟨by rw [HL2.out]; rfl, HB.out⟩
        by_cases o5 : 55296 ≤ x
        · by_cases o6 : x ≤ 57343
          · have HL2 := hid (show L = (0, 0) from by rw [HL.out]; exact if_pos (.inr (.inr ⟨o5, o6⟩)))
            have o2 : ¬ (x : Int) < 2048 := by omega
            have o4 : ¬ (1114111 : Int) < (x : Int) := by omega
            have o7 : (55296 : Int) ≤ (x : Int) := by omega
            have o8 : (x : Int) ≤ 57343 := by omega
            clear o1 o3 o5 o6
            go_wp2_with fail
            go_ret2
            exact ⟨by rw [HL2.out]; rfl, HB.out⟩
          · have HL2 := hid (show L = (3, x) from by rw [HL.out]; exact if_neg (by unfold Odd; omega))
            have o2 : ¬ (x : Int) < 2048 := by omega
            have o4 : ¬ (1114111 : Int) < (x : Int) := by omega
            have o7 : (55296 : Int) ≤ (x : Int) := by omega
            have o8 : ¬ (x : Int) ≤ 57343 := by omega
            clear o1 o3 o5 o6
            go_wp2_with fail
            go_ret2
            exact ⟨by rw [HL2.out]; rfl, HB.out⟩
        · have HL2 := hid (show L = (3, x) from by rw [HL.out]; exact if_neg (by unfold Odd; omega))
          have o2 : ¬ (x : Int) < 2048 := by omega
          have o4 : ¬ (1114111 : Int) < (x : Int) := by omega
          have o7 : ¬ (55296 : Int) ≤ (x : Int) := by omega
          clear o1 o3 o5
          go_wp2_with fail
          go_ret2
          exact ⟨by rw [HL2.out]; rfl, HB.out⟩
  · have e0 : ¬ (c : Int) < 128 := by omega
    have f0 : (194 : Int) ≤ (c : Int) := by omega
    have f1 : ¬ (c : Int) < 224 := by omega
    have f2 : (224 : Int) ≤ (c : Int) := by omega
    have f3 : ¬ (c : Int) < 240 := by omega
    have f4 : (240 : Int) ≤ (c : Int) := by omega
    have f5 : (c : Int) < 245 := by omega
    have hw0 : (c : Int) - 240 = ((A 0 : Nat) : Int) := by rw [HX0.out]; omega
    have hp9 : (p : Int) < 1099511627776 := by omega
    have HGK := hid HGOOD.out
    clear h0 h1 k1 k2 hn2 hn4 HGOOD
    go_enter Tryz.func106, Tryz.ntmps106
    go_wp2_with fail
    clear hix
    go_loopg [8, 10] 4 (fun g x k wr => ∃ j : Nat, j + 1 ≤ 4 ∧ g = 4 - j ∧ x = .int .i64 ((A j : Nat) : Int) ∧ k = .int .i64 ((j : Int) + 1) ∧ (∀ i, 1 ≤ i → i ≤ j → Go1 s p i) ∧ Below w.heap.size w wr)
    case atStart => exact ⟨0, by omega, rfl, by first | rfl | rw [hw0], rfl, fun i h1 h2 => by omega, Below.refl _ _⟩
    case round =>
      obtain ⟨j, hj, rfl, rfl, rfl, hgo, hb⟩ := hrel
      have HB := hid hb
      have HGO := hid hgo
      clear hb hw0 e0 f0 f1 f2 f3 f4 f5
      by_cases hlt : j + 1 < 4
      · have ht : (j : Int) + 1 < 4 := by omega
        have hx9 : A j ≤ 131071 := by
          have h2 := HAC2.out j HGO.out (by omega)
          have h3 : j = 0 ∨ j = 1 ∨ j = 2 := by omega
          rcases h3 with rfl | rfl | rfl <;> simp only [Nat.reducePow, Nat.reduceMul, Nat.reduceSub] at h2 <;> omega
        have HST1 := hid (HST.out j)
        clear hgo
        by_cases hin : p + (j + 1) < s.size
        · have hin1 : ¬ (s.size : Int) ≤ (p : Int) + ((j : Int) + 1) := by omega
          have hix := fun w => run_at s (p + (j + 1)) hin w
          rw [show ((p + (j + 1) : Nat) : Int) = (p : Int) + ((j : Int) + 1) from by omega] at hix
          have hbl := bt_lt s (p + (j + 1))
          have HBT := hid (fun (h1 : 128 ≤ bt s (p + (j + 1))) (h2 : bt s (p + (j + 1)) ≤ 191) => show Go1 s p (j + 1) from ⟨hin, h1, h2⟩)
          have HBN := hid (fun (h : ¬ (128 ≤ bt s (p + (j + 1)) ∧ bt s (p + (j + 1)) ≤ 191)) => HBAD.out (j + 1) (by omega) hlt (fun g => h g.2))
          clear hin
          generalize bt s (p + (j + 1)) = b at *
          by_cases hb1 : b < 128
          · have hb2 : (b : Int) < 128 := by omega
            go_wp2_with fail
            go_ret2
            exact ⟨by rw [HBN.out (by omega)]; rfl, HB.out⟩
          · by_cases hb3 : 191 < b
            · have hb2 : ¬ (b : Int) < 128 := by omega
              have hb4 : (191 : Int) < (b : Int) := by omega
              go_wp2_with fail
              go_ret2
              exact ⟨by rw [HBN.out (by omega)]; rfl, HB.out⟩
            · have hb2 : ¬ (b : Int) < 128 := by omega
              have hb4 : ¬ (191 : Int) < (b : Int) := by omega
              have hb5 : b ≤ 191 := by omega
              have hb6 : 128 ≤ b := by omega
              have HB5 := hid hb5
              have HB6 := hid hb6
              clear hb5 hb6 hb1 hb3
              go_wp2_with fail
              go_roundg (4 - (j + 1))
              case measure => omega
              case rel =>
                refine ⟨j + 1, by omega, rfl, ?_, by go_num, fun i h1 h2 => ?_, HB.out⟩
                · have e9 : ((A (j + 1) : Nat) : Int) = 64 * (A j : Int) + (b : Int) - 128 := by
                    rw [HST1.out]; have := HB6.out; omega
                  rw [e9]
                · by_cases e : i = j + 1
                  · subst e; exact HBT.out HB6.out HB5.out
                  · exact HGO.out i h1 (by omega)
        · have hin1 : (s.size : Int) ≤ (p : Int) + ((j : Int) + 1) := by omega
          have HBN := hid (HBAD.out (j + 1) (by omega) hlt (fun g => hin g.1))
          clear hin
          go_wp2_with fail
          go_ret2
          exact ⟨by rw [HBN.out]; rfl, HB.out⟩
      · obtain rfl : j = 4 - 1 := by omega
        have HL := hid (HGK.out (fun i h1 h2 => HGO.out i h1 (by omega)))
        have hx9 : A (4 - 1) ≤ 8388607 := by
          have h2 := HAC2.out (4 - 1) HGO.out (by omega)
          simp only [Nat.reducePow, Nat.reduceMul, Nat.reduceSub] at h2 ⊢
          omega
        clear hgo hlt hj
        simp only [Nat.reduceSub] at hx9 HL ⊢
        generalize A 3 = x at *
        have HX9 := hid hx9
        by_cases o1 : x < 65536
        · have HL2 := hid (show L = (0, 0) from by rw [HL.out]; exact if_pos (.inl o1))
          have o2 : (x : Int) < 65536 := by omega
          clear o1
          go_wp2_with fail
          go_ret2
          exact ⟨by rw [HL2.out]; rfl, HB.out⟩
        by_cases o3 : 1114111 < x
        · have HL2 := hid (show L = (0, 0) from by rw [HL.out]; exact if_pos (.inr (.inl o3)))
          have o2 : ¬ (x : Int) < 65536 := by omega
          have o4 : (1114111 : Int) < (x : Int) := by omega
          clear o1 o3
          go_wp2_with fail
          go_ret2
          exact ⟨by rw [HL2.out]; rfl, HB.out⟩
        by_cases o5 : 55296 ≤ x
        · by_cases o6 : x ≤ 57343
          · have HL2 := hid (show L = (0, 0) from by rw [HL.out]; exact if_pos (.inr (.inr ⟨o5, o6⟩)))
            have o2 : ¬ (x : Int) < 65536 := by omega
            have o4 : ¬ (1114111 : Int) < (x : Int) := by omega
            have o7 : (55296 : Int) ≤ (x : Int) := by omega
            have o8 : (x : Int) ≤ 57343 := by omega
            clear o1 o3 o5 o6
            go_wp2_with fail
            go_ret2
            exact ⟨by rw [HL2.out]; rfl, HB.out⟩
          · have HL2 := hid (show L = (4, x) from by rw [HL.out]; exact if_neg (by unfold Odd; omega))
            have o2 : ¬ (x : Int) < 65536 := by omega
            have o4 : ¬ (1114111 : Int) < (x : Int) := by omega
            have o7 : (55296 : Int) ≤ (x : Int) := by omega
            have o8 : ¬ (x : Int) ≤ 57343 := by omega
            clear o1 o3 o5 o6
            go_wp2_with fail
            go_ret2
            exact ⟨by rw [HL2.out]; rfl, HB.out⟩
        · have HL2 := hid (show L = (4, x) from by rw [HL.out]; exact if_neg (by unfold Odd; omega))
          have o2 : ¬ (x : Int) < 65536 := by omega
          have o4 : ¬ (1114111 : Int) < (x : Int) := by omega
          have o7 : ¬ (55296 : Int) ≤ (x : Int) := by omega
          clear o1 o3 o5
          go_wp2_with fail
          go_ret2
          exact ⟨by rw [HL2.out]; rfl, HB.out⟩
end Go.Proofs.YthjjonbkfkpkmaaGreatDoor.Tg
namespace Go.Proofs.YthjjonbkfkpkmaaGreatDoor.Tg
open Go.RowKit Gen

/-- A byte of a key. -/
def Kb (x : Nat) : Prop := 32 ≤ x ∧ x ≤ 125 ∧ x ≠ 61
instance (x : Nat) : Decidable (Kb x) := by unfold Kb; exact inferInstance
/-- A text is a key. -/
def Ky (s : ByteArray) : Prop := (∀ i, i < s.size → Kb (bt s i)) ∧ 1 ≤ s.size ∧ s.size ≤ 32
instance (s : ByteArray) : Decidable (Ky s) := by unfold Ky; exact inferInstance

set_option maxRecDepth 100000 in
theorem rkey_any (s : ByteArray) (hs : s.size ≤ 1099511627776) (w : World) : Calls Tryz.prog 62 #[.string s] w fun e w' => e = .returned (.bool (decide (Ky s))) ∧ Below w.heap.size w w' := by
  obtain ⟨D, hD⟩ : ∃ D, D = decide (Ky s) := ⟨_, rfl⟩
  rw [← hD]
  have HD0 := hid hD
  clear hD
  go_enter Tryz.func62, Tryz.ntmps62
  go_wp2_with fail
  go_loopg [3] s.size (fun g i wr => ∃ k : Nat, k ≤ s.size ∧ g = s.size - k ∧ i = .int .i64 k ∧ (∀ i, i < k → Kb (bt s i)) ∧ Below w.heap.size w wr)
  case atStart => exact ⟨0, Nat.zero_le _, rfl, rfl, fun i hi => absurd hi (Nat.not_lt_zero _), Below.refl _ _⟩
  case round =>
    obtain ⟨k, hk, rfl, rfl, hall, hb⟩ := hrel
    have HA := hid hall
    have HB := hid hb
    clear hall hb
    by_cases hlt : k < s.size
    · have hlt2 : (k : Int) < (s.size : Int) := by omega
      have hix := run_at s k hlt
      have HNO := hid fun (h : ¬ Kb (bt s k)) => HD0.out.trans (decide_eq_false (fun hK : Ky s => h (hK.1 k hlt)))
      have HYES := hid fun (h : Kb (bt s k)) => (fun i hi => by
        by_cases e : i = k
        · exact e ▸ h
        · exact HA.out i (by omega) : ∀ i, i < k + 1 → Kb (bt s i))
      have hx := bt_lt s k
      generalize bt s k = x at *
      by_cases h1 : x < 32
      · have e1 : (x : Int) < 32 := by omega
        have HD := hid (HNO.out (by unfold Kb; omega))
        clear h1
        go_wp2_with fail
        go_ret
        exact ⟨by rw [HD.out]; rfl, HB.out⟩
      have e1 : ¬ (x : Int) < 32 := by omega
      by_cases h2 : 125 < x
      · have e2 : (125 : Int) < (x : Int) := by omega
        have HD := hid (HNO.out (by unfold Kb; omega))
        clear h1 h2
        go_wp2_with fail
        go_ret
        exact ⟨by rw [HD.out]; rfl, HB.out⟩
      have e2 : ¬ (125 : Int) < (x : Int) := by omega
      by_cases h3 : x = 61
      · have HD := hid (HNO.out (by unfold Kb; omega))
        have e3 : ((x : Int) == 61) = true := by rw [h3]; rfl
        clear h1 h2 h3
        go_wp2_with fail
        go_ret
        exact ⟨by rw [HD.out]; rfl, HB.out⟩
      have e3 : ((x : Int) == 61) = false := by rw [beq_eq_false_iff_ne]; omega
      have HD := hid (HYES.out (by unfold Kb; omega))
      clear h1 h2 h3
      go_wp2_with fail
      go_roundg (s.size - (k + 1))
      case measure => omega
      case rel => exact ⟨k + 1, by omega, rfl, by go_num, HD.out, HB.out⟩
    · have hge : ¬ (k : Int) < (s.size : Int) := by omega
      obtain rfl : k = s.size := by omega
      by_cases h1 : 1 ≤ s.size
      · by_cases h2 : s.size ≤ 32
        · have HD := hid (HD0.out.trans (decide_eq_true (⟨HA.out, h1, h2⟩ : Ky s)))
          have e1 : (1 : Int) ≤ (s.size : Int) := by omega
          have e2 : (s.size : Int) ≤ 32 := by omega
          go_wp2_with fail
          go_ret
          exact ⟨by rw [HD.out]; rfl, HB.out⟩
        · have HD := hid (HD0.out.trans (decide_eq_false (fun h : Ky s => h2 h.2.2)))
          have e1 : (1 : Int) ≤ (s.size : Int) := by omega
          have e2 : ¬ (s.size : Int) ≤ 32 := by omega
          go_wp2_with fail
          go_ret
          exact ⟨by rw [HD.out]; rfl, HB.out⟩
      · have HD := hid (HD0.out.trans (decide_eq_false (fun h : Ky s => h1 h.2.1)))
        have e1 : ¬ (1 : Int) ≤ (s.size : Int) := by omega
        go_wp2_with fail
        go_ret
        exact ⟨by rw [HD.out]; rfl, HB.out⟩

set_option maxRecDepth 100000 in
theorem ascii_bt (s : ByteArray) (p : Nat) (h : bt s p < 128) : Utf8.decode s p = (bt s p, 1) := by
  unfold bt at h ⊢
  rw [Lib.decode_at]
  unfold Lib.decodeN
  rw [if_pos h]
set_option maxRecDepth 100000 in
theorem high_bt (s : ByteArray) (p : Nat) (hp : p < s.size) (h : ¬ bt s p < 128) : 128 ≤ (Utf8.decode s p).1 := by
  have e : bt s p = (s[p]'hp).toNat := by
    unfold bt
    have := get_at s p hp
    rw [Nat.add_zero] at this
    rw [this]
  exact (decode_high s p hp (by omega)).1

set_option maxRecDepth 100000 in
theorem key_any (s : ByteArray) (hs : s.size ≤ 1099511627776) (w : World) : Calls Tryz.prog 94 #[.string s] w fun e w' => e = .returned (.bool (decide (Ky s))) ∧ Below w.heap.size w w' := by
  obtain ⟨D, hD⟩ : ∃ D, D = decide (Ky s) := ⟨_, rfl⟩
  rw [← hD]
  have HD0 := hid hD
  clear hD
  have HBA := fun n => (Below.refl w.heap.size w).alloc (Nat.le_refl _) (.stringIter s n)
  have HB := hid HBA
  clear HBA
  by_cases h1 : s.size < 1
  · have e1 : (s.size : Int) < 1 := by omega
    have HD := hid (HD0.out.trans (decide_eq_false (fun h : Ky s => absurd h.2.1 (by omega))))
    go_enter Tryz.func94, Tryz.ntmps94
    go_wp2_with fail
    go_ret
    exact ⟨by rw [HD.out]; rfl, Below.refl _ _⟩
  have e1 : ¬ (s.size : Int) < 1 := by omega
  by_cases h2 : 32 < s.size
  · have e2 : (32 : Int) < (s.size : Int) := by omega
    have HD := hid (HD0.out.trans (decide_eq_false (fun h : Ky s => absurd h.2.2 (by omega))))
    go_enter Tryz.func94, Tryz.ntmps94
    go_wp2_with fail
    go_ret
    exact ⟨by rw [HD.out]; rfl, Below.refl _ _⟩
  have e2 : ¬ (32 : Int) < (s.size : Int) := by omega
  have HZ := hid (show 1 ≤ s.size ∧ s.size ≤ 32 by omega)
  clear h1 h2
  go_enter Tryz.func94, Tryz.ntmps94
  go_wp2_with fail
  go_loopw [] (fun w' => ∃ p : Nat, w' = w.iter s p ∧ p ≤ s.size ∧ ∀ i, i < p → Kb (bt s i)) (fun w' => s.size - w'.iterPos w.heap.size)
  case atStart => exact ⟨0, rfl, Nat.zero_le _, fun i hi => absurd hi (Nat.not_lt_zero _)⟩
  case round =>
    obtain ⟨p, rfl, hps, hall⟩ := hrel
    have HA := hid hall
    clear hall
    by_cases hp : p < s.size
    · have HNO := hid fun (h : ¬ Kb (bt s p)) => HD0.out.trans (decide_eq_false (fun hK : Ky s => h (hK.1 p hp)))
      have HYES := hid fun (h : Kb (bt s p)) => (fun i hi => by
        by_cases e : i = p
        · exact e ▸ h
        · exact HA.out i (by omega) : ∀ i, i < p + 1 → Kb (bt s i))
      have hnx : ∀ ty, (Instr.next (.pointer (some ⟨w.heap.size, 0, none⟩)) true ty).run Tryz.prog (w.iter s p) = _ := fun ty => run_next_any w s p ty hp
      by_cases h128 : bt s p < 128
      · rw [ascii_bt s p h128] at hnx
        have hx := bt_lt s p
        generalize bt s p = x at *
        by_cases h1 : x < 32
        · have f1 : (x : Int) < 32 := by omega
          have HD := hid (HNO.out (by unfold Kb; omega))
          clear h1
          go_wp2_with fail
          go_ret
          exact ⟨by rw [HD.out]; rfl, HB.out _⟩
        have f1 : ¬ (x : Int) < 32 := by omega
        by_cases h2 : 125 < x
        · have f2 : (125 : Int) < (x : Int) := by omega
          have HD := hid (HNO.out (by unfold Kb; omega))
          clear h1 h2
          go_wp2_with fail
          go_ret
          exact ⟨by rw [HD.out]; rfl, HB.out _⟩
        have f2 : ¬ (125 : Int) < (x : Int) := by omega
        by_cases h3 : x = 61
        · have HD := hid (HNO.out (by unfold Kb; omega))
          have f3 : ((x : Int) == 61) = true := by rw [h3]; rfl
          clear h1 h2 h3
          go_wp2_with fail
          go_ret
          exact ⟨by rw [HD.out]; rfl, HB.out _⟩
        have f3 : ((x : Int) == 61) = false := by rw [beq_eq_false_iff_ne]; omega
        have HD := hid (HYES.out (by unfold Kb; omega))
        clear h1 h2 h3
        go_wp2_with fail
        go_roundw
        case rel => exact ⟨p + 1, rfl, by omega, HD.out⟩
        case measure =>
          simp
          omega
      · have hh := high_bt s p hp h128
        have hle := decode_le s p
        have HD := hid (HNO.out (by unfold Kb; omega))
        generalize Utf8.decode s p = d at *
        have f1 : ¬ (d.1 : Int) < 32 := by omega
        have f2 : (125 : Int) < (d.1 : Int) := by omega
        clear h128
        go_wp2_with fail
        go_ret
        exact ⟨by rw [HD.out]; rfl, HB.out _⟩
    · have hnx : ∀ ty, (Instr.next (.pointer (some ⟨w.heap.size, 0, none⟩)) true ty).run Tryz.prog (w.iter s p) = _ := fun ty => run_next_end w s p ty hp
      have HD := hid (HD0.out.trans (decide_eq_true (⟨fun i hi => HA.out i (by omega), HZ.out.1, HZ.out.2⟩ : Ky s)))
      go_wp2_with fail
      go_ret
      exact ⟨by rw [HD.out]; rfl, HB.out _⟩
end Go.Proofs.YthjjonbkfkpkmaaGreatDoor.Tg
namespace Go.Proofs.YthjjonbkfkpkmaaGreatDoor.Tg
open Go.RowKit Gen

/-- How many letters a text has. -/
def cnt (s : ByteArray) : Nat := Lib.runeCount s
set_option maxRecDepth 100000 in
theorem cnt_from (s : ByteArray) : ∀ f k, Has s k → s.size ≤ stp s k + f → Ct s (k + Lib.runeCountFrom s f (stp s k))
  | 0, k, h, hf => by
    show Ct s (k + 0)
    exact ⟨h, by rw [Nat.add_zero]; omega⟩
  | f + 1, k, h, hf => by
    by_cases hp : stp s k < s.size
    · have hw := Lib.decode_width_pos s _ hp
      have e : Lib.runeCountFrom s (f + 1) (stp s k) = 1 + Lib.runeCountFrom s f (stp s (k + 1)) := by
        simp [Lib.runeCountFrom, hp, stp]
      have ih := cnt_from s f (k + 1) (h.next hp) (by show _ ≤ stp s k + _ + f; omega)
      rw [e, show k + (1 + Lib.runeCountFrom s f (stp s (k + 1))) = k + 1 + Lib.runeCountFrom s f (stp s (k + 1)) from by omega]
      exact ih
    · rw [Lib.runeCountFrom_end s _ _ hp, Nat.add_zero]
      exact ⟨h, by omega⟩
set_option maxRecDepth 100000 in
theorem ct_cnt (s : ByteArray) : Ct s (cnt s) := by
  have h := cnt_from s s.size 0 (fun i hi => absurd hi (Nat.not_lt_zero _)) (by omega)
  rw [Nat.zero_add] at h
  exact h
set_option maxRecDepth 100000 in
theorem cnt_le (s : ByteArray) : cnt s ≤ s.size := Lib.runeCount_le s
/-- How many a text's first letters are. -/
def fst (s : ByteArray) (n : Int) : Nat := min (cnt s) n.toNat
set_option maxRecDepth 100000 in
theorem has_fst (s : ByteArray) (n : Int) : Has s (fst s n) := (ct_cnt s).1.le (Nat.min_le_left _ _)
set_option maxRecDepth 100000 in
theorem fst_in {s : ByteArray} {n : Int} {k : Nat} (h : Has s k) (hk : k = n.toNat) : fst s n = k := by
  have h1 : k ≤ cnt s := by
    rcases Nat.lt_or_ge (cnt s) k with e | e
    · have := h _ e; have := (ct_cnt s).2; omega
    · exact e
  unfold fst; omega
set_option maxRecDepth 100000 in
theorem fst_end {s : ByteArray} {n : Int} {k : Nat} (h : Ct s k) (hk : k ≤ n.toNat) : fst s n = k := by
  have := h.eq (ct_cnt s)
  unfold fst; omega
set_option maxRecDepth 100000 in
theorem extract_all (s : ByteArray) : s.extract 0 s.size = s := by
  have h := Lib.extract_eq s 0 s.size
  rw [h, List.drop_zero, Nat.sub_zero, Lib.size_eq, List.take_length]
set_option maxRecDepth 100000 in
theorem ltr_width (s : ByteArray) (p : Nat) (hp : p < s.size) : (if (ltr s p).1 = 0 then 1 else (ltr s p).1) = (Utf8.decode s p).2 := by
  have hw := Lib.decode_width_pos s p hp
  rw [ltr_decode]
  by_cases h : (Utf8.decode s p).1 = 65533 ∧ (Utf8.decode s p).2 = 1
  · rw [if_pos h]; exact h.2.symm
  · rw [if_neg h]; simp only []; rw [if_neg (by omega)]

end Go.Proofs.YthjjonbkfkpkmaaGreatDoor.Tg
