/- Which texts are values: both sides; the first tag whose key is alike, as the document says it. Conditions: texts of at most 2^40 bytes; for the program's the two tables of unicode/utf8. -/
import Derived.Test.YthjjonbkfkpkmaaGreatDoorY21
import Derived.Test.YthjjonbkfkpkmaaGreatDoorY20
import Derived.Deep.RegionHeld3
namespace Go.Proofs.YthjjonbkfkpkmaaGreatDoor.Tg
open Go.RowKit Gen

set_option maxRecDepth 100000 in
set_option maxHeartbeats 1000000 in
theorem value_any (s : ByteArray) (hs : s.size ≤ 1099511627776) (w : World) (hT : Tabs w) : Calls Tryz.prog 97 #[.string s] w fun e w' => e = .returned (.bool (Vl s)) ∧ Below w.heap.size w w' := by
  obtain ⟨D, hD⟩ : ∃ D, D = Vl s := ⟨_, rfl⟩
  rw [← hD]
  have HD0 := hid (hD.trans (Vl_eq s))
  clear hD
  have HV := hid (valid_any s (by omega) w hT)
  clear hT
  by_cases h1 : 1024 < s.size
  · have e1 : (1024 : Int) < (s.size : Int) := by omega
    have HD := hid (show D = false by rw [HD0.out, decide_eq_false (by omega)]; rfl)
    go_enter Tryz.func97, Tryz.ntmps97
    go_wp2_with fail
    go_ret
    exact ⟨by rw [HD.out]; rfl, Below.refl _ _⟩
  have e1 : ¬ (1024 : Int) < (s.size : Int) := by omega
  have HD1 := hid (show D = (Lib.validD s.data.toList && rl s s.size 0) by rw [HD0.out, decide_eq_true (by omega)]; rfl)
  clear HD0 h1
  generalize Lib.validD s.data.toList = V at *
  go_enter Tryz.func97, Tryz.ntmps97
  go_wp2_with fail
  refine HV.out.mono ?_
  rintro e w1 ⟨rfl, hb1⟩
  have HB1 := hid hb1
  clear hb1
  cases V with
  | false =>
    have HD := hid (show D = false from HD1.out)
    go_wp2_with fail
    go_ret
    exact ⟨by rw [HD.out]; rfl, HB1.out⟩
  | true =>
    have HD2 := hid (show D = rl s s.size 0 from HD1.out)
    have HBA := hid fun n => HB1.out.trans (((Below.refl w1.heap.size w1).alloc (Nat.le_refl _) (.stringIter s n)).mono HB1.out.size)
    clear HD1 HV
    go_wp2_with fail
    go_loopw [] (fun w' => ∃ p f : Nat, w' = w1.iter s p ∧ s.size ≤ p + f ∧ D = rl s f p) (fun w' => s.size - w'.iterPos w1.heap.size)
    case atStart => exact ⟨0, s.size, rfl, by omega, HD2.out⟩
    case round =>
      obtain ⟨p, f, rfl, hf, hd⟩ := hrel
      have HF := hid hd
      clear hd
      by_cases hp : p < s.size
      · have hnx : ∀ ty, (Instr.next (.pointer (some ⟨w1.heap.size, 0, none⟩)) true ty).run Tryz.prog (w1.iter s p) = _ := fun ty => run_next_any w1 s p ty hp
        have hwd := Lib.decode_width_pos s p hp
        have hle := decode_le s p
        obtain ⟨g, rfl⟩ : ∃ g, f = g + 1 := ⟨f - 1, by omega⟩
        have hr : rl s (g + 1) p = if (Utf8.decode s p).1 < 32 then false else rl s g (p + (Utf8.decode s p).2) := by
          show (if p < s.size then _ else _) = _
          rw [if_pos hp]
        have HR := hid hr
        clear hr
        generalize Utf8.decode s p = d at *
        by_cases h32 : d.1 < 32
        · have f1 : (d.1 : Int) < 32 := by omega
          have HD := hid (show D = false by rw [HF.out, HR.out, if_pos h32])
          clear h32
          go_wp2_with fail
          go_ret
          exact ⟨by rw [HD.out]; rfl, HBA.out _⟩
        · have f1 : ¬ (d.1 : Int) < 32 := by omega
          have HD := hid (show D = rl s g (p + d.2) by rw [HF.out, HR.out, if_neg h32])
          clear h32
          go_wp2_with fail
          go_roundw
          case rel => exact ⟨p + d.2, g, rfl, by omega, HD.out⟩
          case measure =>
            simp
            omega
      · have hnx : ∀ ty, (Instr.next (.pointer (some ⟨w1.heap.size, 0, none⟩)) true ty).run Tryz.prog (w1.iter s p) = _ := fun ty => run_next_end w1 s p ty hp
        have HD := hid (show D = true by rw [HF.out, rl_end s f p hp])
        go_wp2_with fail
        go_ret
        exact ⟨by rw [HD.out]; rfl, HBA.out _⟩

set_option maxRecDepth 100000 in
set_option maxHeartbeats 1000000 in
theorem rvalue_any (s : ByteArray) (hs : s.size ≤ 1099511627776) (w : World) : Calls Tryz.prog 64 #[.string s] w fun e w' => e = .returned (.bool (Vl s)) ∧ Below w.heap.size w w' := by
  obtain ⟨D, hD⟩ : ∃ D, D = Vl s := ⟨_, rfl⟩
  rw [← hD]
  have HD0 := hid hD
  clear hD
  by_cases h1 : 1024 < s.size
  · have e1 : (1024 : Int) < (s.size : Int) := by omega
    have HD := hid (show D = false by rw [HD0.out]; unfold Vl; rw [decide_eq_false (by omega)]; rfl)
    go_enter Tryz.func64, Tryz.ntmps64
    go_wp2_with fail
    go_ret
    exact ⟨by rw [HD.out]; rfl, Below.refl _ _⟩
  have e1 : ¬ (1024 : Int) < (s.size : Int) := by omega
  have HD1 := hid (show D = vl s s.size 0 by rw [HD0.out]; unfold Vl; rw [decide_eq_true (by omega)]; rfl)
  clear HD0 h1
  go_enter Tryz.func64, Tryz.ntmps64
  go_wp2_with fail
  go_loopg [3, 4] s.size (fun g i k wr => ∃ p j : Nat, j ≤ s.size ∧ p ≤ s.size ∧ j ≤ p ∧ g = s.size - j ∧ i = .int .i64 (p : Int) ∧ k = .int .i64 (j : Int) ∧ D = vl s (s.size - j) p ∧ Below w.heap.size w wr)
  case atStart => exact ⟨0, 0, Nat.zero_le _, Nat.zero_le _, Nat.le_refl _, rfl, rfl, rfl, HD1.out, Below.refl _ _⟩
  case round =>
    obtain ⟨p, j, hj, hps, hjp, rfl, rfl, rfl, hd, hb⟩ := hrel
    have HF := hid hd
    have HB := hid hb
    clear hd hb HD1
    by_cases hp : p < s.size
    · have e2 : (j : Int) < (s.size : Int) := by omega
      have e3 : (p : Int) < (s.size : Int) := by omega
      have HL := hid fun w => letter_any s p hp hs w
      obtain ⟨g, hg⟩ : ∃ g, s.size - j = g + 1 := ⟨s.size - j - 1, by omega⟩
      have hr : vl s (s.size - j) p = if (ltr s p).1 = 0 ∨ (ltr s p).2 < 32 then false else vl s g (p + (ltr s p).1) := by
        rw [hg]
        show (if p < s.size then _ else _) = _
        rw [if_pos hp]
      have HR := hid (HF.out.trans hr)
      have hwl : (ltr s p).1 ≠ 0 → p + (ltr s p).1 ≤ s.size := by
        intro h0
        have := ltr_width s p hp
        rw [if_neg h0] at this
        rw [this]; exact width_le s p hp
      have hrb : (ltr s p).2 ≤ 2147483647 := by
        rw [ltr_decode]
        have := decode_le s p
        split
        · decide
        · exact this
      have HG := hid hg
      clear hr hg HF
      generalize ltr s p = L at *
      go_wp2_with fail
      refine (HL.out _).mono ?_
      rintro e w1 ⟨rfl, hb1⟩
      have HB1 := hid (HB.out.trans (hb1.mono HB.out.size))
      clear hb1
      by_cases h0 : L.1 = 0
      · have hz : ((L.1 : Int) == 0) = true := by rw [h0]; rfl
        have HD := hid (show D = false by rw [HR.out, if_pos (.inl h0)])
        clear h0
        go_wp2_with fail
        go_ret
        exact ⟨by rw [HD.out]; rfl, HB1.out⟩
      have hz : ((L.1 : Int) == 0) = false := by rw [beq_eq_false_iff_ne]; omega
      by_cases h32 : L.2 < 32
      · have f1 : (L.2 : Int) < 32 := by omega
        have HD := hid (show D = false by rw [HR.out, if_pos (.inr h32)])
        clear h32
        go_wp2_with fail
        go_ret
        exact ⟨by rw [HD.out]; rfl, HB1.out⟩
      have f1 : ¬ (L.2 : Int) < 32 := by omega
      have HD := hid (show D = vl s g (p + L.1) by rw [HR.out, if_neg (by omega)])
      have hpl := hwl h0
      have hl1 : 1 ≤ L.1 := by omega
      clear h32 h0 hwl hrb
      go_wp2_with fail
      go_roundg (s.size - (j + 1))
      case measure => omega
      case rel => exact ⟨p + L.1, j + 1, by omega, hpl, by omega, rfl, by go_num, by go_num, by rw [show s.size - (j + 1) = g from by have := HG.out; omega]; exact HD.out, HB1.out⟩
    · have HD := hid (show D = true by rw [HF.out, vl_end s _ p hp])
      have e3 : ¬ (p : Int) < (s.size : Int) := by omega
      by_cases hj2 : j < s.size
      · have e2 : (j : Int) < (s.size : Int) := by omega
        go_wp2_with fail
        go_ret
        exact ⟨by rw [HD.out]; rfl, HB.out⟩
      · have e2 : ¬ (j : Int) < (s.size : Int) := by omega
        go_wp2_with fail
        go_ret
        exact ⟨by rw [HD.out]; rfl, HB.out⟩

set_option maxRecDepth 100000 in
set_option maxHeartbeats 1000000 in
theorem rat_any (key : ByteArray) (hk : key.size ≤ 1099511627776) (w : World) {a : Option Addr} {len b off : Nat} {T : Nat → Tag} (h : Tb w a len b off T) (hz : Sz T len) (cap : Nat) :
    Calls Tryz.prog 63 #[.slice a len cap, .string key] w fun e w' => e = .returned (.int .i64 (fx (lk T (fold key)) len)) ∧ Below w.heap.size w w' := by
  have H := hid h
  have HC := hid fun (i : Nat) (hi : i < len) (w' : World) => rfold_any (T i).k (hz.k i hi) w'
  have HK := hid fun (w' : World) => rfold_any key hk w'
  have hn := hz.n
  clear h hz
  generalize fold key = kf at *
  go_enter Tryz.func63, Tryz.ntmps63
  go_wp2_with fail
  go_loopg [5] len (fun g i wr => ∃ k : Nat, k ≤ len ∧ g = len - k ∧ i = .int .i64 k ∧ Below w.heap.size w wr ∧ ∀ i, i < k → lk T kf i = false)
  case atStart => exact ⟨0, Nat.zero_le _, rfl, rfl, Below.refl _ _, fun j hj => absurd hj (Nat.not_lt_zero _)⟩
  case round =>
    obtain ⟨k, hk, hg, rfl, hb, hall⟩ := hrel
    have HG := hid hg
    have HA := hid hall
    have HB := hid hb
    clear hg hall hb
    by_cases hlt : k < len
    · have hlt2 : (k : Int) < (len : Int) := by omega
      obtain rfl := H.out.addr (by omega)
      have ck := (H.out.keep HB.out).k k hlt
      go_wp2_with fail
      refine (HC.out k hlt wr).mono ?_
      rintro e w' ⟨rfl, hb'⟩
      have HB2 := hid (HB.out.trans (hb'.mono HB.out.size))
      clear hb' ck
      go_wp2_with fail
      refine (HK.out _).mono ?_
      rintro e w2 ⟨rfl, hb2⟩
      have HB3 := hid (HB2.out.trans (hb2.mono HB2.out.size))
      clear hb2
      have hd := beq_text (fold (T k).k) kf
      have HD := hid (show lk T kf k = decide (fold (T k).k = kf) from rfl)
      generalize decide (fold (T k).k = kf) = D at *
      generalize fold (T k).k = F at *
      cases D with
      | false =>
        go_wp2_with fail
        go_roundg (len - (k + 1))
        case measure => rw [HG.out]; omega
        case rel => exact ⟨k + 1, by omega, rfl, by go_num, HB3.out, fun j hj => by
          by_cases e : j = k
          · rw [e]; exact HD.out
          · exact HA.out j (by omega)⟩
      | true =>
        go_wp2_with fail
        go_ret
        exact ⟨by rw [fx_some HD.out HA.out hlt]; rfl, HB3.out⟩
    · have hge : ¬ (k : Int) < (len : Int) := by omega
      obtain rfl : k = len := by omega
      go_wp2_with fail
      go_ret
      exact ⟨by rw [fx_none HA.out]; rfl, HB.out⟩
end Go.Proofs.YthjjonbkfkpkmaaGreatDoor.Tg
namespace Go.Proofs.YthjjonbkfkpkmaaGreatDoor.Tg
open Go.RowKit Gen

/-- A tag is short. -/
def Sh (t : Tag) : Prop := t.k.size ≤ 100 ∧ t.v.size ≤ 1500
instance (t : Tag) : Decidable (Sh t) := by unfold Sh; exact inferInstance
/-- Tags are few, and short. -/
def Fw (T : Nat → Tag) (len : Nat) : Prop := (∀ i, i < min len 100 → Sh (T i)) ∧ len ≤ 70
instance (T : Nat → Tag) (len : Nat) : Decidable (Fw T len) := by unfold Fw; exact inferInstance
set_option maxRecDepth 100000 in
theorem Fw.sz {T : Nat → Tag} {len : Nat} (h : Fw T len) : Sz T len := ⟨by have := h.2; omega, fun i hi => by have := (h.1 i (by have := h.2; omega)).1; omega, fun i hi => by have := (h.1 i (by have := h.2; omega)).2; omega⟩
set_option maxRecDepth 100000 in
theorem Fw.sh {T : Nat → Tag} {len : Nat} (h : Fw T len) (i : Nat) (hi : i < len) : Sh (T i) := h.1 i (by have := h.2; omega)

set_option maxRecDepth 100000 in
theorem few_any (w : World) {a : Option Addr} {len b off : Nat} {T : Nat → Tag} (h : Tb w a len b off T) (hm : len ≤ 9223372036854775807) (cap : Nat) :
    Calls Tryz.prog 6 #[.slice a len cap] w fun e w' => e = .returned (.bool (decide (Fw T len))) ∧ Below w.heap.size w w' := by
  obtain ⟨D, hD⟩ : ∃ D, D = decide (Fw T len) := ⟨_, rfl⟩
  rw [← hD]
  have HD0 := hid hD
  have H := hid h
  clear h hD
  go_enter Tryz.func6, Tryz.ntmps6
  go_wp2_with fail
  go_loopg [3] 100 (fun g i wr => ∃ k : Nat, k ≤ len ∧ k ≤ 100 ∧ g = 100 - k ∧ i = .int .i64 k ∧ (∀ i, i < k → Sh (T i)) ∧ Below w.heap.size w wr)
  case atStart => exact ⟨0, Nat.zero_le _, Nat.zero_le _, rfl, rfl, fun j hj => absurd hj (Nat.not_lt_zero _), Below.refl _ _⟩
  case round =>
    obtain ⟨k, hk, hk1, hg, rfl, hall, hb⟩ := hrel
    have HG := hid hg
    have HA := hid hall
    have HB := hid hb
    clear hg hall hb
    by_cases hlt : k < len
    · have hlt2 : (k : Int) < (len : Int) := by omega
      by_cases hlh : k < 100
      · have hlh2 : (k : Int) < 100 := by omega
        obtain rfl := H.out.addr (by omega)
        have ck := (H.out.keep HB.out).k k hlt
        have cv := (H.out.keep HB.out).v k hlt
        have HNO := hid fun (h : ¬ Sh (T k)) => HD0.out.trans (decide_eq_false (fun hF : Fw T len => h (hF.1 k (by omega))))
        have HYES := hid fun (h : Sh (T k)) => (fun i hi => by
          by_cases e : i = k
          · exact e ▸ h
          · exact HA.out i (by omega) : ∀ i, i < k + 1 → Sh (T i))
        generalize T k = t at *
        by_cases h1 : 100 < t.k.size
        · have e1 : (100 : Int) < (t.k.size : Int) := by omega
          have HD := hid (HNO.out (by unfold Sh; omega))
          clear h1
          go_wp2_with fail
          go_ret
          exact ⟨by rw [HD.out]; rfl, HB.out⟩
        have e1 : ¬ (100 : Int) < (t.k.size : Int) := by omega
        by_cases h2 : 1500 < t.v.size
        · have e2 : (1500 : Int) < (t.v.size : Int) := by omega
          have HD := hid (HNO.out (by unfold Sh; omega))
          clear h1 h2
          go_wp2_with fail
          go_ret
          exact ⟨by rw [HD.out]; rfl, HB.out⟩
        have e2 : ¬ (1500 : Int) < (t.v.size : Int) := by omega
        have HD := hid (HYES.out (by unfold Sh; omega))
        clear h1 h2
        go_wp2_with fail
        go_roundg (100 - (k + 1))
        case measure => rw [HG.out]; omega
        case rel => exact ⟨k + 1, by omega, by omega, rfl, by go_num, HD.out, HB.out⟩
      · have hlh2 : ¬ (k : Int) < 100 := by omega
        have HD := hid (HD0.out.trans (decide_eq_false (fun h : Fw T len => absurd h.2 (by omega))))
        have e1 : ¬ (len : Int) ≤ 70 := by omega
        go_wp2_with fail
        go_ret
        exact ⟨by rw [HD.out]; rfl, HB.out⟩
    · have hge : ¬ (k : Int) < (len : Int) := by omega
      obtain rfl : k = len := by omega
      by_cases h7 : k ≤ 70
      · have e1 : (k : Int) ≤ 70 := by omega
        have HD := hid (HD0.out.trans (decide_eq_true (⟨fun i hi => HA.out i (by omega), h7⟩ : Fw T k)))
        go_wp2_with fail
        go_ret
        exact ⟨by rw [HD.out]; rfl, HB.out⟩
      · have e1 : ¬ (k : Int) ≤ 70 := by omega
        have HD := hid (HD0.out.trans (decide_eq_false (fun h : Fw T k => h7 h.2)))
        go_wp2_with fail
        go_ret
        exact ⟨by rw [HD.out]; rfl, HB.out⟩

set_option maxRecDepth 100000 in
theorem bel_drew {w W : World} {B : Nat} (h : Below B w W) (n : Nat) : Below B w (W.drewN n) := ⟨h.os, h.tape, h.output, h.size, h.block⟩
/-- The same tags. -/
def Eqs (T U : Nat → Tag) (len lenU : Nat) : Prop := len = lenU ∧ ∀ i, i < len → T i = U i
instance (T U : Nat → Tag) (len lenU : Nat) : Decidable (Eqs T U len lenU) := by unfold Eqs; exact inferInstance
set_option maxRecDepth 100000 in
theorem Eqs.refl (T : Nat → Tag) (len : Nat) : Eqs T T len len := ⟨rfl, fun _ _ => rfl⟩
set_option maxRecDepth 100000 in
set_option maxHeartbeats 1000000 in
theorem rsame_any (w : World) {a : Option Addr} {len b off : Nat} {T : Nat → Tag} (h : Tb w a len b off T) {a' : Option Addr} {len' b' off' : Nat} {U : Nat → Tag} (h' : Tb w a' len' b' off' U) (hm : len ≤ 1099511627776) (cap cap' : Nat) :
    Calls Tryz.prog 17 #[.slice a len cap, .slice a' len' cap'] w fun e w' => e = .returned (.bool (decide (Eqs T U len len'))) ∧ Below w.heap.size w w' := by
  obtain ⟨D, hD⟩ : ∃ D, D = decide (Eqs T U len len') := ⟨_, rfl⟩
  rw [← hD]
  have HD0 := hid hD
  have H := hid h
  have H' := hid h'
  clear h h' hD
  by_cases hl : len = len'
  · subst hl
    have e0 : ((len : Int) != (len : Int)) = false := by simp
    go_enter Tryz.func17, Tryz.ntmps17
    go_wp2_with fail
    go_loopg [5] len (fun g i wr => ∃ k : Nat, k ≤ len ∧ g = len - k ∧ i = .int .i64 k ∧ (∀ i, i < k → T i = U i) ∧ Below w.heap.size w wr)
    case atStart => exact ⟨0, Nat.zero_le _, rfl, rfl, fun j hj => absurd hj (Nat.not_lt_zero _), Below.refl _ _⟩
    case round =>
      obtain ⟨k, hk, hg, rfl, hall, hb⟩ := hrel
      have HG := hid hg
      have HA := hid hall
      have HB := hid hb
      clear hg hall hb
      by_cases hlt : k < len
      · have hlt2 : (k : Int) < (len : Int) := by omega
        obtain rfl := H.out.addr (by omega)
        obtain rfl := H'.out.addr (by omega)
        have ck := (H.out.keep HB.out).k k hlt
        have cv := (H.out.keep HB.out).v k hlt
        have ck' := (H'.out.keep HB.out).k k hlt
        have cv' := (H'.out.keep HB.out).v k hlt
        have HNO := hid fun (h : ¬ T k = U k) => HD0.out.trans (decide_eq_false (fun hF : Eqs T U len len => h (hF.2 k hlt)))
        have HYES := hid fun (h : T k = U k) => (fun i hi => by
          by_cases e : i = k
          · exact e ▸ h
          · exact HA.out i (by omega) : ∀ i, i < k + 1 → T i = U i)
        generalize T k = t at *
        generalize U k = u at *
        obtain ⟨tk, tv⟩ := t
        obtain ⟨uk, uv⟩ := u
        simp only [] at ck cv ck' cv'
        by_cases h1 : tk = uk
        · by_cases h2 : tv = uv
          · subst h1 h2
            have HD := hid (HYES.out rfl)
            have q1 : (tk.toList == tk.toList) = true := beq_self_eq_true _
            have q2 : (tv.toList == tv.toList) = true := beq_self_eq_true _
            go_wp2_with fail
            go_quiet (fail)
            go_wp2_with fail
            go_roundg (len - (k + 1))
            case measure => rw [HG.out]; omega
            case rel => exact ⟨k + 1, by omega, rfl, by go_num, HD.out, bel_drew HB.out _⟩
          · subst h1
            have HD := hid (HNO.out (by intro e; cases e; exact h2 rfl))
            have q1 : (tk.toList == tk.toList) = true := beq_self_eq_true _
            have q2 : (tv.toList == uv.toList) = false := by rw [beq_text, decide_eq_false h2]
            clear h2
            go_wp2_with fail
            go_quiet (fail)
            go_wp2_with fail
            go_ret
            exact ⟨by rw [HD.out]; rfl, bel_drew HB.out _⟩
        · have HD := hid (HNO.out (by intro e; cases e; exact h1 rfl))
          have q1 : (tk.toList == uk.toList) = false := by rw [beq_text, decide_eq_false h1]
          clear h1
          go_wp2_with fail
          go_quiet (fail)
          go_wp2_with fail
          go_ret
          exact ⟨by rw [HD.out]; rfl, bel_drew HB.out _⟩
      · have hge : ¬ (k : Int) < (len : Int) := by omega
        obtain rfl : k = len := by omega
        have HD := hid (HD0.out.trans (decide_eq_true (⟨rfl, HA.out⟩ : Eqs T U k k)))
        go_wp2_with fail
        go_ret
        exact ⟨by rw [HD.out]; rfl, HB.out⟩
  · have e0 : ((len : Int) != (len' : Int)) = true := by rw [bne_iff_ne]; omega
    have HD := hid (HD0.out.trans (decide_eq_false (fun h : Eqs T U len len' => hl h.1)))
    clear hl
    go_enter Tryz.func17, Tryz.ntmps17
    go_wp2_with fail
    go_ret
    exact ⟨by rw [HD.out]; rfl, Below.refl _ _⟩
end Go.Proofs.YthjjonbkfkpkmaaGreatDoor.Tg
namespace Go.Proofs.YthjjonbkfkpkmaaGreatDoor.Tg
open Go.RowKit Gen

/-- What is wrong with a tag. -/
def kd (T : Nat → Tag) (i : Nat) : Int := if Ky (T i).k then (if 0 ≤ fx (lk T (fold (T i).k)) i then 40 else if Vl (T i).v = true then 0 else 41) else 40
def bad (T : Nat → Tag) (i : Nat) : Bool := decide (kd T i ≠ 0)
/-- Where something is wrong with tags, and what. -/
def chk (T : Nat → Tag) (len : Nat) : Int × Int := if 64 < len then (0, 4) else match fi (bad T) len with
  | some i => ((i : Int), kd T i)
  | none => (0, 0)
set_option maxRecDepth 100000 in
theorem chk_long {T : Nat → Tag} {len : Nat} (h : 64 < len) : chk T len = (0, 4) := by unfold chk; rw [if_pos h]
set_option maxRecDepth 100000 in
theorem chk_ok {T : Nat → Tag} {len : Nat} (h : ¬ 64 < len) (hb : ∀ i, i < len → bad T i = false) : chk T len = (0, 0) := by unfold chk; rw [if_neg h, fi_none hb]
set_option maxRecDepth 100000 in
theorem chk_at {T : Nat → Tag} {len k : Nat} {e : Int} (h : ¬ 64 < len) (hb : ∀ i, i < k → bad T i = false) (hk : k < len) (he : kd T k = e) (h0 : e ≠ 0) : chk T len = ((k : Int), e) := by
  unfold chk
  rw [if_neg h, fi_some (by unfold bad; rw [he]; exact decide_eq_true h0) hb hk]
  show (_, kd T k) = _
  rw [he]
set_option maxRecDepth 100000 in
theorem kd_key {T : Nat → Tag} {i : Nat} (h : ¬ Ky (T i).k) : kd T i = 40 := by unfold kd; rw [if_neg h]
set_option maxRecDepth 100000 in
theorem kd_alike {T : Nat → Tag} {i : Nat} (h : Ky (T i).k) (h2 : 0 ≤ fx (lk T (fold (T i).k)) i) : kd T i = 40 := by unfold kd; rw [if_pos h, if_pos h2]
set_option maxRecDepth 100000 in
theorem kd_value {T : Nat → Tag} {i : Nat} (h : Ky (T i).k) (h2 : ¬ 0 ≤ fx (lk T (fold (T i).k)) i) (h3 : Vl (T i).v = false) : kd T i = 41 := by unfold kd; rw [if_pos h, if_neg h2, h3]; rfl
set_option maxRecDepth 100000 in
theorem kd_ok {T : Nat → Tag} {i : Nat} (h : Ky (T i).k) (h2 : ¬ 0 ≤ fx (lk T (fold (T i).k)) i) (h3 : Vl (T i).v = true) : kd T i = 0 := by unfold kd; rw [if_pos h, if_neg h2, h3]; rfl

set_option maxRecDepth 100000 in
set_option maxHeartbeats 1000000 in
theorem check_any (w : World) (hT : Tabs w) {a : Option Addr} {len b off : Nat} {T : Nat → Tag} (h : Tb w a len b off T) (hz : Sz T len) {cap : Nat} (hc : len ≤ cap) :
    Calls Tryz.prog 52 #[.slice a len cap] w fun e w' => e = .returned (.tuple #[.int .i64 (chk T len).1, .int .i64 (chk T len).2]) ∧ Below w.heap.size w w' := by
  obtain ⟨C, hC⟩ : ∃ C, C = chk T len := ⟨_, rfl⟩
  rw [← hC]
  have HC := hid hC
  have H := hid h
  have HT := hid hT
  have HZ := hid hz
  clear h hC hT hz
  by_cases h64 : 64 < len
  · have e0 : (64 : Int) < (len : Int) := by omega
    have HD := hid (HC.out.trans (chk_long h64))
    go_enter Tryz.func52, Tryz.ntmps52
    go_wp2_with fail
    go_ret2
    exact ⟨by rw [HD.out]; rfl, Below.refl _ _⟩
  have e0 : ¬ (64 : Int) < (len : Int) := by omega
  go_enter Tryz.func52, Tryz.ntmps52
  go_wp2_with fail
  go_loopg [11] 64 (fun g i wr => ∃ k : Nat, k ≤ len ∧ g = 64 - k ∧ i = .int .i64 k ∧ (∀ i, i < k → bad T i = false) ∧ Below w.heap.size w wr)
  case atStart => exact ⟨0, Nat.zero_le _, rfl, rfl, fun j hj => absurd hj (Nat.not_lt_zero _), Below.refl _ _⟩
  case round =>
    obtain ⟨k, hk, hg, rfl, hall, hb⟩ := hrel
    have HG := hid hg
    have HA := hid hall
    have HB := hid hb
    clear hg hall hb
    by_cases hlt : k < len
    · have hlt2 : (k : Int) < (len : Int) := by omega
      obtain rfl := H.out.addr (by omega)
      have ck := (H.out.keep HB.out).k k hlt
      have cv := (H.out.keep HB.out).v k hlt
      have HKY := hid fun w' => key_any (T k).k (HZ.out.k k hlt) w'
      have HVL := hid fun w' ht => value_any (T k).v (HZ.out.v k hlt) w' ht
      have HAL := hid fun w' => alike_any (T k).k (HZ.out.k k hlt) w'
      have HCN := hid fun (w' : World) (q : Nat) (hq : w'.cell? ⟨q, 0, none⟩ = some (.string (fold (T k).k))) (hb : Below w.heap.size w w') => contains_any (fold (T k).k) q w' hq ((H.out.keep hb).take k (by omega)) (HZ.out.take k (by omega)) cap
      have HK0 := hid fun h => kd_key (T := T) (i := k) h
      have HK1 := hid fun h h2 => kd_alike (T := T) (i := k) h h2
      have HK2 := hid fun h h2 h3 => kd_value (T := T) (i := k) h h2 h3
      have HK3 := hid fun h h2 h3 => kd_ok (T := T) (i := k) h h2 h3
      have HAT := hid fun e he h0 => HC.out.trans (chk_at (k := k) (e := e) h64 HA.out hlt he h0)
      have HOK := hid fun (he : kd T k = 0) => (fun i hi => by
        by_cases e : i = k
        · subst e; unfold bad; rw [he]; rfl
        · exact HA.out i (by omega) : ∀ i, i < k + 1 → bad T i = false)
      have HB0 := hid (HB.out.trans (((Below.refl wr.heap.size wr).alloc (Nat.le_refl _) (.cells #[.string (T k).k, .string (T k).v] 65)).mono HB.out.size))
      have hs0 : (wr.alloc (.cells #[.string (T k).k, .string (T k).v] 65)).cell? ⟨wr.heap.size, 0, none⟩ = some (.string (T k).k) := by simp
      have hs1 : (wr.alloc (.cells #[.string (T k).k, .string (T k).v] 65)).cell? ⟨wr.heap.size, 1, none⟩ = some (.string (T k).v) := by simp
      have HS0 := hid hs0
      have HS1 := hid hs1
      have hkc : (k : Int) ≤ (cap : Int) := by omega
      clear hs0 hs1
      generalize kd T k = KD at *
      generalize fold (T k).k = FK at *
      generalize fx (lk T FK) k = FX at *
      generalize (T k).v = tv at *
      generalize (T k).k = tk at *
      go_wp2_with fail
      change Calls _ _ _ (wr.alloc (.cells #[.string tk, .string tv] 65)) _
      generalize wr.alloc (.cells #[.string tk, .string tv] 65) = W0 at *
      generalize wr.heap.size = bx at *
      refine (HKY.out _).mono ?_
      rintro e w1 ⟨rfl, hb1⟩
      have HB1 := hid (HB0.out.trans (hb1.mono HB0.out.size))
      have hk1 : w1.cell? ⟨bx, 0, none⟩ = some (.string tk) := (World.cell?_of_block (a := ⟨bx, 0, none⟩) (hb1.block bx (World.block_lt_of_cell? _ _ HS0.out))).trans HS0.out
      have hv1 : w1.cell? ⟨bx, 1, none⟩ = some (.string tv) := (World.cell?_of_block (a := ⟨bx, 1, none⟩) (hb1.block bx (World.block_lt_of_cell? _ _ HS1.out))).trans HS1.out
      have HV1 := hid hv1
      clear hb1 hv1
      by_cases hky : Ky tk
      · rw [decide_eq_true hky]
        have HKYT := hid hky
        clear hky
        have HS := hid fun (w' : World) (hb : Below w1.heap.size w1 w') => (World.cell?_of_block (a := ⟨bx, 0, none⟩) (hb.block bx (World.block_lt_of_cell? _ _ hk1))).trans hk1
        have HVS := hid fun (w' : World) (hb : Below w1.heap.size w1 w') => (World.cell?_of_block (a := ⟨bx, 1, none⟩) (hb.block bx (World.block_lt_of_cell? _ _ HV1.out))).trans HV1.out
        clear hk1
        go_wp2_with fail
        have bd : Below w1.heap.size w1 w1.drew := ⟨rfl, rfl, rfl, Nat.le_refl _, fun _ _ => rfl⟩
        have S1 := HS.out _ bd
        have HS1 := hid (HS.out w1 (Below.refl _ _))
        clear HV1 HS0
        go_region_held3 (fun w' => w'.cell? ⟨bx, 0, none⟩ = some (.string tk))
          (first | with_reducible exact S1 | with_reducible exact S2 | with_reducible exact S3 | go_keep)
          ((first
            | (go_at_call 96; (with_reducible refine (HAL.out _).mono ?_); rintro e w2 ⟨rfl, hq2, hb2⟩; have b2 := bd.trans hb2; have S2 := HS.out _ b2; have q2 : w2.cell? ⟨w1.heap.size, 0, none⟩ = some (.string FK) := hq2)
            | (go_at_call 95; (refine (HCN.out _ _ q2 (HB1.out.trans (b2.mono HB1.out.size))).mono ?_); rintro e w3 ⟨rfl, hb3⟩; have b3 := b2.trans (hb3.mono b2.size); have S3 := HS.out _ b3)))
        have HB3 := hid (HB1.out.trans (b3.mono HB1.out.size))
        have hv3 := HVS.out _ b3
        have HT3 := hid (HT.out.keep HB3.out)
        clear b2 b3 hb2 hb3 hq2 q2 S1 S2 S3 bd HS1 HS
        by_cases hf : 0 ≤ FX
        · have HD := hid (HAT.out 40 (HK1.out HKYT.out hf) (by decide))
          rw [decide_eq_true hf]
          clear hf hv3
          go_wp2_with fail
          go_ret2
          exact ⟨by rw [HD.out]; rfl, HB3.out⟩
        · rw [decide_eq_false hf]
          have HF := hid hf
          clear hf
          go_wp2_with fail
          refine (HVL.out _ HT3.out).mono ?_
          rintro e w4 ⟨rfl, hb4⟩
          have HB4 := hid (HB3.out.trans (hb4.mono HB3.out.size))
          clear hb4 hv3
          cases hvl : Vl tv with
          | true =>
            have HD := hid (HOK.out (HK3.out HKYT.out HF.out hvl))
            clear hvl
            go_wp2_with fail
            go_roundg (64 - (k + 1))
            case measure => rw [HG.out]; omega
            case rel => exact ⟨k + 1, by omega, rfl, by go_num, HD.out, HB4.out⟩
          | false =>
            have HD := hid (HAT.out 41 (HK2.out HKYT.out HF.out hvl) (by decide))
            clear hvl
            go_wp2_with fail
            go_ret2
            exact ⟨by rw [HD.out]; rfl, HB4.out⟩
      · have HD := hid (HAT.out 40 (HK0.out hky) (by decide))
        rw [decide_eq_false hky]
        clear hky
        go_wp2_with fail
        go_ret2
        exact ⟨by rw [HD.out]; rfl, HB1.out⟩
    · have hge : ¬ (k : Int) < (len : Int) := by omega
      obtain rfl : k = len := by omega
      have HD := hid (HC.out.trans (chk_ok h64 HA.out))
      go_wp2_with fail
      go_ret2
      exact ⟨by rw [HD.out]; rfl, HB.out⟩

set_option maxRecDepth 100000 in
set_option maxHeartbeats 2000000 in
theorem rcheck_any (w : World) {a : Option Addr} {len b off : Nat} {T : Nat → Tag} (h : Tb w a len b off T) (hz : Sz T len) {cap : Nat} (hc : len ≤ cap) :
    Calls Tryz.prog 28 #[.slice a len cap] w fun e w' => e = .returned (.tuple #[.int .i64 (chk T len).1, .int .i64 (chk T len).2]) ∧ Below w.heap.size w w' := by
  obtain ⟨C, hC⟩ : ∃ C, C = chk T len := ⟨_, rfl⟩
  rw [← hC]
  have HC := hid hC
  have H := hid h
  have HZ := hid hz
  clear h hC hz
  by_cases h64 : 64 < len
  · have e0 : (64 : Int) < (len : Int) := by omega
    have HD := hid (HC.out.trans (chk_long h64))
    go_enter Tryz.func28, Tryz.ntmps28
    go_wp2_with fail
    go_ret2
    exact ⟨by rw [HD.out]; rfl, Below.refl _ _⟩
  have e0 : ¬ (64 : Int) < (len : Int) := by omega
  go_enter Tryz.func28, Tryz.ntmps28
  go_wp2_with fail
  go_loopg [4] 64 (fun g i wr => ∃ k : Nat, k ≤ len ∧ g = 64 - k ∧ i = .int .i64 k ∧ (∀ i, i < k → bad T i = false) ∧ Below w.heap.size w wr)
  case atStart => exact ⟨0, Nat.zero_le _, rfl, rfl, fun j hj => absurd hj (Nat.not_lt_zero _), Below.refl _ _⟩
  case round =>
    obtain ⟨k, hk, hg, rfl, hall, hb⟩ := hrel
    have HG := hid hg
    have HA := hid hall
    have HB := hid hb
    clear hg hall hb
    by_cases hlt : k < len
    · have hlt2 : (k : Int) < (len : Int) := by omega
      obtain rfl := H.out.addr (by omega)
      have HKC := hid fun w' hb => (H.out.keep (w' := w') hb).k k hlt
      have HVC := hid fun w' hb => (H.out.keep (w' := w') hb).v k hlt
      have HKY := hid fun w' => rkey_any (T k).k (HZ.out.k k hlt) w'
      have HVL := hid fun w' => rvalue_any (T k).v (HZ.out.v k hlt) w'
      have HAT1 := hid fun (w' : World) (hb : Below w.heap.size w w') => rat_any (T k).k (HZ.out.k k hlt) w' ((H.out.keep hb).take k (by omega)) (HZ.out.take k (by omega)) cap
      have HK0 := hid fun h => kd_key (T := T) (i := k) h
      have HK1 := hid fun h h2 => kd_alike (T := T) (i := k) h h2
      have HK2 := hid fun h h2 h3 => kd_value (T := T) (i := k) h h2 h3
      have HK3 := hid fun h h2 h3 => kd_ok (T := T) (i := k) h h2 h3
      have HAT := hid fun e he h0 => HC.out.trans (chk_at (k := k) (e := e) h64 HA.out hlt he h0)
      have HOK := hid fun (he : kd T k = 0) => (fun i hi => by
        by_cases e : i = k
        · subst e; unfold bad; rw [he]; rfl
        · exact HA.out i (by omega) : ∀ i, i < k + 1 → bad T i = false)
      have hkc : (k : Int) ≤ (cap : Int) := by omega
      generalize kd T k = KD at *
      generalize fx (lk T (fold (T k).k)) k = FX at *
      generalize (T k).v = tv at *
      generalize (T k).k = tk at *
      have k0 : ∀ p : Kp wr, p.w'.cell? ⟨b, off + k * 2, none⟩ = some (.string tk) := fun p => HKC.out _ (HB.out.trans ((below_of_fr p.h).mono HB.out.size))
      by_cases hky : Ky tk
      · rw [decide_eq_true hky] at HKY
        have HKYT := hid hky
        clear hky
        go_wp2_with fail
        refine wp_region_quiet_kp (by kernel_rfl) (by kernel_rfl) ?_
        repeat (first | go_big_quiet_step ((first | (go_at_call 62; exact kp_below (HKY.out _)) | (go_at_call 63; exact kp_below (HAT1.out _ (HB.out.trans ((below_of_fr (Kp.h _)).mono HB.out.size)))))) | fail)
        refine wpQuiet_nil ?_
        intro _ hw'
        obtain ⟨⟨wq, hq⟩, hw''⟩ := hw'
        subst hw''
        have HBQ := hid (HB.out.trans ((below_of_fr hq).mono HB.out.size))
        clear hq k0
        by_cases hf : 0 ≤ FX
        · have HD := hid (HAT.out 40 (HK1.out HKYT.out hf) (by decide))
          rw [decide_eq_true hf]
          clear hf
          go_wp2_with fail
          go_ret2
          exact ⟨by rw [HD.out]; rfl, HBQ.out⟩
        · rw [decide_eq_false hf]
          have HF := hid hf
          have hv3 := HVC.out _ HBQ.out
          clear hf
          go_wp2_with fail
          refine (HVL.out _).mono ?_
          rintro e w4 ⟨rfl, hb4⟩
          have HB4 := hid (HBQ.out.trans (hb4.mono HBQ.out.size))
          clear hb4 hv3
          cases hvl : Vl tv with
          | true =>
            have HD := hid (HOK.out (HK3.out HKYT.out HF.out hvl))
            clear hvl
            go_wp2_with fail
            go_roundg (64 - (k + 1))
            case measure => rw [HG.out]; omega
            case rel => exact ⟨k + 1, by omega, rfl, by go_num, HD.out, HB4.out⟩
          | false =>
            have HD := hid (HAT.out 41 (HK2.out HKYT.out HF.out hvl) (by decide))
            clear hvl
            go_wp2_with fail
            go_ret2
            exact ⟨by rw [HD.out]; rfl, HB4.out⟩
      · rw [decide_eq_false hky] at HKY
        have HD := hid (HAT.out 40 (HK0.out hky) (by decide))
        clear hky
        go_wp2_with fail
        refine wp_region_quiet_kp (by kernel_rfl) (by kernel_rfl) ?_
        repeat (first | go_big_quiet_step ((first | (go_at_call 62; exact kp_below (HKY.out _)) | (go_at_call 63; exact kp_below (HAT1.out _ (HB.out.trans ((below_of_fr (Kp.h _)).mono HB.out.size)))))) | fail)
        refine wpQuiet_nil ?_
        intro _ hw'
        obtain ⟨⟨wq, hq⟩, hw''⟩ := hw'
        subst hw''
        have HBQ := hid (HB.out.trans ((below_of_fr hq).mono HB.out.size))
        clear hq k0
        go_wp2_with fail
        go_ret2
        exact ⟨by rw [HD.out]; rfl, HBQ.out⟩
    · have hge : ¬ (k : Int) < (len : Int) := by omega
      obtain rfl : k = len := by omega
      have HD := hid (HC.out.trans (chk_ok h64 HA.out))
      go_wp2_with fail
      go_ret2
      exact ⟨by rw [HD.out]; rfl, HB.out⟩
end Go.Proofs.YthjjonbkfkpkmaaGreatDoor.Tg
