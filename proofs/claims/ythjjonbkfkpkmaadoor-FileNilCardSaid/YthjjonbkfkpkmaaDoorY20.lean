/- The document's letter at a place of a text. Conditions: texts of at most 2^40 bytes. -/
import Derived.Test.YthjjonbkfkpkmaaDoorY19
namespace Go.Proofs.YthjjonbkfkpkmaaDoor.Tg
open Go.RowKit Gen

/-- A byte behind a letter's first one goes on with it. -/
def Go1 (s : ByteArray) (p i : Nat) : Prop := p + i < s.size ∧ 128 ≤ bt s (p + i) ∧ bt s (p + i) ≤ 191
/-- What a letter's bytes tell, so far. -/
def acc (s : ByteArray) (p x : Nat) : Nat → Nat
  | 0 => x
  | j + 1 => 64 * acc s p x j + (bt s (p + (j + 1)) - 128)
/-- How a letter begins: how many bytes it has, what its first one counts from, the least that it tells. -/
def Kind (c n base least : Nat) : Prop := (194 ≤ c ∧ c < 224 ∧ n = 2 ∧ base = 192 ∧ least = 128) ∨ (224 ≤ c ∧ c < 240 ∧ n = 3 ∧ base = 224 ∧ least = 2048) ∨ (240 ≤ c ∧ c < 245 ∧ n = 4 ∧ base = 240 ∧ least = 65536)
set_option maxRecDepth 100000 in
theorem ltr_bad {s : ByteArray} {p n base least : Nat} (hk : Kind (bt s p) n base least) (i : Nat) (h1 : 1 ≤ i) (h2 : i < n) (hn : ¬ Go1 s p i) : ltr s p = (0, 0) := by
  unfold Go1 at hn
  unfold ltr
  rcases hk with ⟨k1, k2, rfl, rfl, rfl⟩ | ⟨k1, k2, rfl, rfl, rfl⟩ | ⟨k1, k2, rfl, rfl, rfl⟩
  · obtain rfl : i = 1 := by omega
    rw [lN_two _ _ _ _ _ k1 k2, if_neg (by omega)]
  · obtain rfl | rfl : i = 1 ∨ i = 2 := by omega
    all_goals rw [lN_three _ _ _ _ _ k1 k2, if_neg (by omega)]
  · obtain rfl | rfl | rfl : i = 1 ∨ i = 2 ∨ i = 3 := by omega
    all_goals rw [lN_four _ _ _ _ _ k1 k2, if_neg (by omega)]
/-- No letter tells that. -/
def Odd (least x : Nat) : Prop := x < least ∨ 1114111 < x ∨ (55296 ≤ x ∧ x ≤ 57343)
instance (least x : Nat) : Decidable (Odd least x) := by unfold Odd; exact inferInstance
set_option maxRecDepth 100000 in
theorem ltr_good {s : ByteArray} {p n base least : Nat} (hk : Kind (bt s p) n base least) (h : ∀ i, 1 ≤ i → i < n → Go1 s p i) : ltr s p = if Odd least (acc s p (bt s p - base) (n - 1)) then (0, 0) else (n, acc s p (bt s p - base) (n - 1)) := by
  unfold ltr
  rcases hk with ⟨k1, k2, rfl, rfl, rfl⟩ | ⟨k1, k2, rfl, rfl, rfl⟩ | ⟨k1, k2, rfl, rfl, rfl⟩
  · have g1 := h 1 (by omega) (by omega)
    unfold Go1 at g1
    have hx : acc s p (bt s p - 192) (2 - 1) = 64 * (bt s p - 192) + (bt s (p + 1) - 128) := rfl
    rw [lN_two _ _ _ _ _ k1 k2, if_pos (by omega), hx, if_neg (by unfold Odd; omega)]
  · have g1 := h 1 (by omega) (by omega)
    have g2 := h 2 (by omega) (by omega)
    unfold Go1 at g1 g2
    have hx : acc s p (bt s p - 224) (3 - 1) = 64 * (64 * (bt s p - 224) + (bt s (p + 1) - 128)) + (bt s (p + 2) - 128) := rfl
    rw [lN_three _ _ _ _ _ k1 k2, if_pos (by omega), hx]
    generalize 64 * (64 * (bt s p - 224) + (bt s (p + 1) - 128)) + (bt s (p + 2) - 128) = X
    by_cases ho : Odd 2048 X
    · rw [if_pos ho]; exact if_pos ho
    · rw [if_neg ho]; exact if_neg ho
  · have g1 := h 1 (by omega) (by omega)
    have g2 := h 2 (by omega) (by omega)
    have g3 := h 3 (by omega) (by omega)
    unfold Go1 at g1 g2 g3
    have hx : acc s p (bt s p - 240) (4 - 1) = 64 * (64 * (64 * (bt s p - 240) + (bt s (p + 1) - 128)) + (bt s (p + 2) - 128)) + (bt s (p + 3) - 128) := rfl
    rw [lN_four _ _ _ _ _ k1 k2, if_pos (by omega), hx]
    generalize 64 * (64 * (64 * (bt s p - 240) + (bt s (p + 1) - 128)) + (bt s (p + 2) - 128)) + (bt s (p + 3) - 128) = X
    by_cases ho : Odd 65536 X
    · rw [if_pos ho]; exact if_pos ho
    · rw [if_neg ho]; exact if_neg ho
set_option maxRecDepth 100000 in
theorem acc_lt {s : ByteArray} {p x : Nat} (hx : x ≤ 31) : ∀ j, (∀ i, 1 ≤ i → i ≤ j → Go1 s p i) → j ≤ 3 → acc s p x j ≤ 32 * 64 ^ j - 1
  | 0, _, _ => by show x ≤ _; omega
  | j + 1, h, hj => by
    have ih := acc_lt hx j (fun i h1 h2 => h i h1 (by omega)) (by omega)
    have g := h (j + 1) (by omega) (by omega)
    unfold Go1 at g
    show 64 * acc s p x j + (bt s (p + (j + 1)) - 128) ≤ _
    have hp := Nat.two_pow_pos (6 * j)
    rw [show 64 ^ (j + 1) = 64 * 64 ^ j from by rw [Nat.pow_succ, Nat.mul_comm]]
    rw [Nat.pow_mul] at hp
    simp only [Nat.reducePow] at hp
    omega
end Go.Proofs.YthjjonbkfkpkmaaDoor.Tg
namespace Go.Proofs.YthjjonbkfkpkmaaDoor.Tg
open Go.RowKit Gen

/-- A byte of a key. -/
def Kb (x : Nat) : Prop := 32 ≤ x ∧ x ≤ 125 ∧ x ≠ 61
instance (x : Nat) : Decidable (Kb x) := by unfold Kb; exact inferInstance
/-- A text is a key. -/
def Ky (s : ByteArray) : Prop := (∀ i, i < s.size → Kb (bt s i)) ∧ 1 ≤ s.size ∧ s.size ≤ 32
instance (s : ByteArray) : Decidable (Ky s) := by unfold Ky; exact inferInstance

set_option maxRecDepth 100000 in
theorem ascii_bt (s : ByteArray) (p : Nat) (h : bt s p < 128) : Utf8.decode s p = (bt s p, 1) := by
  unfold bt at h ⊢
  rw [Lib.decode_at]
  unfold Lib.decodeN
  rw [if_pos h]
set_option maxRecDepth 100000 in
theorem high_bt (s : ByteArray) (p : Nat) (hp : p < s.size) (h : ¬ bt s p < 128) : 128 ≤ (Utf8.decode s p).1 := by
  have e : bt s p = (s[p]'hp).toNat := by
    unfold bt
    have := get_at s p hp
    rw [Nat.add_zero] at this
    rw [this]
  exact (decode_high s p hp (by omega)).1

set_option maxRecDepth 100000 in
theorem key_any (s : ByteArray) (hs : s.size ≤ 1099511627776) (w : World) : Calls Tryd.prog 62 #[.string s] w fun e w' => e = .returned (.bool (decide (Ky s))) ∧ Below w.heap.size w w' := by
  obtain ⟨D, hD⟩ : ∃ D, D = decide (Ky s) := ⟨_, rfl⟩
  rw [← hD]
  have HD0 := hid hD
  clear hD
  have HBA := fun n => (Below.refl w.heap.size w).alloc (Nat.le_refl _) (.stringIter s n)
  have HB := hid HBA
  clear HBA
  by_cases h1 : s.size < 1
  · have e1 : (s.size : Int) < 1 := by omega
    have HD := hid (HD0.out.trans (decide_eq_false (fun h : Ky s => absurd h.2.1 (by omega))))
    go_enter Tryd.func62, Tryd.ntmps62
    go_wp2_with fail
    go_ret
    exact ⟨by rw [HD.out]; rfl, Below.refl _ _⟩
  have e1 : ¬ (s.size : Int) < 1 := by omega
  by_cases h2 : 32 < s.size
  · have e2 : (32 : Int) < (s.size : Int) := by omega
    have HD := hid (HD0.out.trans (decide_eq_false (fun h : Ky s => absurd h.2.2 (by omega))))
    go_enter Tryd.func62, Tryd.ntmps62
    go_wp2_with fail
    go_ret
    exact ⟨by rw [HD.out]; rfl, Below.refl _ _⟩
  have e2 : ¬ (32 : Int) < (s.size : Int) := by omega
  have HZ := hid (show 1 ≤ s.size ∧ s.size ≤ 32 by omega)
  clear h1 h2
  go_enter Tryd.func62, Tryd.ntmps62
  go_wp2_with fail
  go_loopw [] (fun w' => ∃ p : Nat, w' = w.iter s p ∧ p ≤ s.size ∧ ∀ i, i < p → Kb (bt s i)) (fun w' => s.size - w'.iterPos w.heap.size)
  case atStart => exact ⟨0, rfl, Nat.zero_le _, fun i hi => absurd hi (Nat.not_lt_zero _)⟩
  case round =>
    obtain ⟨p, rfl, hps, hall⟩ := hrel
    have HA := hid hall
    clear hall
    by_cases hp : p < s.size
    · have HNO := hid fun (h : ¬ Kb (bt s p)) => HD0.out.trans (decide_eq_false (fun hK : Ky s => h (hK.1 p hp)))
      have HYES := hid fun (h : Kb (bt s p)) => (fun i hi => by
        by_cases e : i = p
        · exact e ▸ h
        · exact HA.out i (by omega) : ∀ i, i < p + 1 → Kb (bt s i))
      have hnx : ∀ ty, (Instr.next (.pointer (some ⟨w.heap.size, 0, none⟩)) true ty).run Tryd.prog (w.iter s p) = _ := fun ty => run_next_any w s p ty hp
      by_cases h128 : bt s p < 128
      · rw [ascii_bt s p h128] at hnx
        have hx := bt_lt s p
        generalize bt s p = x at *
        by_cases h1 : x < 32
        · have f1 : (x : Int) < 32 := by omega
          have HD := hid (HNO.out (by unfold Kb; omega))
          clear h1
          go_wp2_with fail
          go_ret
          exact ⟨by rw [HD.out]; rfl, HB.out _⟩
        have f1 : ¬ (x : Int) < 32 := by omega
        by_cases h2 : 125 < x
        · have f2 : (125 : Int) < (x : Int) := by omega
          have HD := hid (HNO.out (by unfold Kb; omega))
          clear h1 h2
          go_wp2_with fail
          go_ret
          exact ⟨by rw [HD.out]; rfl, HB.out _⟩
        have f2 : ¬ (125 : Int) < (x : Int) := by omega
        by_cases h3 : x = 61
        · have HD := hid (HNO.out (by unfold Kb; omega))
          have f3 : ((x : Int) == 61) = true := by rw [h3]; rfl
          clear h1 h2 h3
          go_wp2_with fail
          go_ret
          exact ⟨by rw [HD.out]; rfl, HB.out _⟩
        have f3 : ((x : Int) == 61) = false := by rw [beq_eq_false_iff_ne]; omega
        have HD := hid (HYES.out (by unfold Kb; omega))
        clear h1 h2 h3
        go_wp2_with fail
        go_roundw
        case rel => exact ⟨p + 1, rfl, by omega, HD.out⟩
        case measure =>
          simp
          omega
      · have hh := high_bt s p hp h128
        have hle := decode_le s p
        have HD := hid (HNO.out (by unfold Kb; omega))
        generalize Utf8.decode s p = d at *
        have f1 : ¬ (d.1 : Int) < 32 := by omega
        have f2 : (125 : Int) < (d.1 : Int) := by omega
        clear h128
        go_wp2_with fail
        go_ret
        exact ⟨by rw [HD.out]; rfl, HB.out _⟩
    · have hnx : ∀ ty, (Instr.next (.pointer (some ⟨w.heap.size, 0, none⟩)) true ty).run Tryd.prog (w.iter s p) = _ := fun ty => run_next_end w s p ty hp
      have HD := hid (HD0.out.trans (decide_eq_true (⟨fun i hi => HA.out i (by omega), HZ.out.1, HZ.out.2⟩ : Ky s)))
      go_wp2_with fail
      go_ret
      exact ⟨by rw [HD.out]; rfl, HB.out _⟩
end Go.Proofs.YthjjonbkfkpkmaaDoor.Tg
namespace Go.Proofs.YthjjonbkfkpkmaaDoor.Tg
open Go.RowKit Gen

/-- How many letters a text has. -/
def cnt (s : ByteArray) : Nat := Lib.runeCount s
set_option maxRecDepth 100000 in
theorem cnt_from (s : ByteArray) : ∀ f k, Has s k → s.size ≤ stp s k + f → Ct s (k + Lib.runeCountFrom s f (stp s k))
  | 0, k, h, hf => by
    show Ct s (k + 0)
    exact ⟨h, by rw [Nat.add_zero]; omega⟩
  | f + 1, k, h, hf => by
    by_cases hp : stp s k < s.size
    · have hw := Lib.decode_width_pos s _ hp
      have e : Lib.runeCountFrom s (f + 1) (stp s k) = 1 + Lib.runeCountFrom s f (stp s (k + 1)) := by
        simp [Lib.runeCountFrom, hp, stp]
      have ih := cnt_from s f (k + 1) (h.next hp) (by show _ ≤ stp s k + _ + f; omega)
      rw [e, show k + (1 + Lib.runeCountFrom s f (stp s (k + 1))) = k + 1 + Lib.runeCountFrom s f (stp s (k + 1)) from by omega]
      exact ih
    · rw [Lib.runeCountFrom_end s _ _ hp, Nat.add_zero]
      exact ⟨h, by omega⟩
set_option maxRecDepth 100000 in
theorem ct_cnt (s : ByteArray) : Ct s (cnt s) := by
  have h := cnt_from s s.size 0 (fun i hi => absurd hi (Nat.not_lt_zero _)) (by omega)
  rw [Nat.zero_add] at h
  exact h
set_option maxRecDepth 100000 in
theorem cnt_le (s : ByteArray) : cnt s ≤ s.size := Lib.runeCount_le s
/-- How many a text's first letters are. -/
def fst (s : ByteArray) (n : Int) : Nat := min (cnt s) n.toNat
set_option maxRecDepth 100000 in
theorem has_fst (s : ByteArray) (n : Int) : Has s (fst s n) := (ct_cnt s).1.le (Nat.min_le_left _ _)
set_option maxRecDepth 100000 in
theorem fst_in {s : ByteArray} {n : Int} {k : Nat} (h : Has s k) (hk : k = n.toNat) : fst s n = k := by
  have h1 : k ≤ cnt s := by
    rcases Nat.lt_or_ge (cnt s) k with e | e
    · have := h _ e; have := (ct_cnt s).2; omega
    · exact e
  unfold fst; omega
set_option maxRecDepth 100000 in
theorem fst_end {s : ByteArray} {n : Int} {k : Nat} (h : Ct s k) (hk : k ≤ n.toNat) : fst s n = k := by
  have := h.eq (ct_cnt s)
  unfold fst; omega
set_option maxRecDepth 100000 in
theorem extract_all (s : ByteArray) : s.extract 0 s.size = s := by
  have h := Lib.extract_eq s 0 s.size
  rw [h, List.drop_zero, Nat.sub_zero, Lib.size_eq, List.take_length]
set_option maxRecDepth 100000 in
theorem ltr_width (s : ByteArray) (p : Nat) (hp : p < s.size) : (if (ltr s p).1 = 0 then 1 else (ltr s p).1) = (Utf8.decode s p).2 := by
  have hw := Lib.decode_width_pos s p hp
  rw [ltr_decode]
  by_cases h : (Utf8.decode s p).1 = 65533 ∧ (Utf8.decode s p).2 = 1
  · rw [if_pos h]; exact h.2.symm
  · rw [if_neg h]; simp only []; rw [if_neg (by omega)]

end Go.Proofs.YthjjonbkfkpkmaaDoor.Tg
namespace Go.Proofs.YthjjonbkfkpkmaaDoor.Tg
open Go.RowKit Gen

set_option maxRecDepth 100000 in
set_option maxHeartbeats 1000000 in
theorem value_any (s : ByteArray) (hs : s.size ≤ 1099511627776) (w : World) (hT : Tabs w) : Calls Tryd.prog 65 #[.string s] w fun e w' => e = .returned (.bool (Vl s)) ∧ Below w.heap.size w w' := by
  obtain ⟨D, hD⟩ : ∃ D, D = Vl s := ⟨_, rfl⟩
  rw [← hD]
  have HD0 := hid (hD.trans (Vl_eq s))
  clear hD
  have HV := hid (valid_any s (by omega) w hT)
  clear hT
  by_cases h1 : 1024 < s.size
  · have e1 : (1024 : Int) < (s.size : Int) := by omega
    have HD := hid (show D = false by rw [HD0.out, decide_eq_false (by omega)]; rfl)
    go_enter Tryd.func65, Tryd.ntmps65
    go_wp2_with fail
    go_ret
    exact ⟨by rw [HD.out]; rfl, Below.refl _ _⟩
  have e1 : ¬ (1024 : Int) < (s.size : Int) := by omega
  have HD1 := hid (show D = (Lib.validD s.data.toList && rl s s.size 0) by rw [HD0.out, decide_eq_true (by omega)]; rfl)
  clear HD0 h1
  generalize Lib.validD s.data.toList = V at *
  go_enter Tryd.func65, Tryd.ntmps65
  go_wp2_with fail
  refine HV.out.mono ?_
  rintro e w1 ⟨rfl, hb1⟩
  have HB1 := hid hb1
  clear hb1
  cases V with
  | false =>
    have HD := hid (show D = false from HD1.out)
    go_wp2_with fail
    go_ret
    exact ⟨by rw [HD.out]; rfl, HB1.out⟩
  | true =>
    have HD2 := hid (show D = rl s s.size 0 from HD1.out)
    have HBA := hid fun n => HB1.out.trans (((Below.refl w1.heap.size w1).alloc (Nat.le_refl _) (.stringIter s n)).mono HB1.out.size)
    clear HD1 HV
    go_wp2_with fail
    go_loopw [] (fun w' => ∃ p f : Nat, w' = w1.iter s p ∧ s.size ≤ p + f ∧ D = rl s f p) (fun w' => s.size - w'.iterPos w1.heap.size)
    case atStart => exact ⟨0, s.size, rfl, by omega, HD2.out⟩
    case round =>
      obtain ⟨p, f, rfl, hf, hd⟩ := hrel
      have HF := hid hd
      clear hd
      by_cases hp : p < s.size
      · have hnx : ∀ ty, (Instr.next (.pointer (some ⟨w1.heap.size, 0, none⟩)) true ty).run Tryd.prog (w1.iter s p) = _ := fun ty => run_next_any w1 s p ty hp
        have hwd := Lib.decode_width_pos s p hp
        have hle := decode_le s p
        obtain ⟨g, rfl⟩ : ∃ g, f = g + 1 := ⟨f - 1, by omega⟩
        have hr : rl s (g + 1) p = if (Utf8.decode s p).1 < 32 then false else rl s g (p + (Utf8.decode s p).2) := by
          show (if p < s.size then _ else _) = _
          rw [if_pos hp]
        have HR := hid hr
        clear hr
        generalize Utf8.decode s p = d at *
        by_cases h32 : d.1 < 32
        · have f1 : (d.1 : Int) < 32 := by omega
          have HD := hid (show D = false by rw [HF.out, HR.out, if_pos h32])
          clear h32
          go_wp2_with fail
          go_ret
          exact ⟨by rw [HD.out]; rfl, HBA.out _⟩
        · have f1 : ¬ (d.1 : Int) < 32 := by omega
          have HD := hid (show D = rl s g (p + d.2) by rw [HF.out, HR.out, if_neg h32])
          clear h32
          go_wp2_with fail
          go_roundw
          case rel => exact ⟨p + d.2, g, rfl, by omega, HD.out⟩
          case measure =>
            simp
            omega
      · have hnx : ∀ ty, (Instr.next (.pointer (some ⟨w1.heap.size, 0, none⟩)) true ty).run Tryd.prog (w1.iter s p) = _ := fun ty => run_next_end w1 s p ty hp
        have HD := hid (show D = true by rw [HF.out, rl_end s f p hp])
        go_wp2_with fail
        go_ret
        exact ⟨by rw [HD.out]; rfl, HBA.out _⟩

end Go.Proofs.YthjjonbkfkpkmaaDoor.Tg
