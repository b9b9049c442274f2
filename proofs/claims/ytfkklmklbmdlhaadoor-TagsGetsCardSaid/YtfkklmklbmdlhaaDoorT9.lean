/- Which texts are values: both sides; the first tag whose key is alike, as the document says it. Conditions: texts of at most 2^40 bytes; for the program's the two tables of unicode/utf8. -/
import Derived.Test.YtfkklmklbmdlhaaDoorT8
import Derived.Test.YtfkklmklbmdlhaaDoorT5
namespace Go.Proofs.YtfkklmklbmdlhaaDoor.Tg
open Go.RowKit Gen

set_option maxHeartbeats 1000000 in
theorem value_any (s : ByteArray) (hs : s.size ≤ 1099511627776) (w : World) (hT : Tabs w) : Calls Tryd.prog 33 #[.string s] w fun e w' => e = .returned (.bool (Vl s)) ∧ Below w.heap.size w w' := by
  obtain ⟨D, hD⟩ : ∃ D, D = Vl s := ⟨_, rfl⟩
  rw [← hD]
  have HD0 := hid (hD.trans (Vl_eq s))
  clear hD
  have HV := hid (valid_any s (by omega) w hT)
  clear hT
  by_cases h1 : 1024 < s.size
  · have e1 : (1024 : Int) < (s.size : Int) := by omega
    have HD := hid (show D = false by rw [HD0.out, decide_eq_false (by omega)]; rfl)
    go_enter Tryd.func33, Tryd.ntmps33
    go_wp2_with fail
    go_ret
    exact ⟨by rw [HD.out]; rfl, Below.refl _ _⟩
  have e1 : ¬ (1024 : Int) < (s.size : Int) := by omega
  have HD1 := hid (show D = (Lib.validD s.data.toList && rl s s.size 0) by rw [HD0.out, decide_eq_true (by omega)]; rfl)
  clear HD0 h1
  generalize Lib.validD s.data.toList = V at *
  go_enter Tryd.func33, Tryd.ntmps33
  go_wp2_with fail
  refine HV.out.mono ?_
  rintro e w1 ⟨rfl, hb1⟩
  have HB1 := hid hb1
  clear hb1
  cases V with
  | false =>
    have HD := hid (show D = false from HD1.out)
    go_wp2_with fail
    go_ret
    exact ⟨by rw [HD.out]; rfl, HB1.out⟩
  | true =>
    have HD2 := hid (show D = rl s s.size 0 from HD1.out)
    have HBA := hid fun n => HB1.out.trans (((Below.refl w1.heap.size w1).alloc (Nat.le_refl _) (.stringIter s n)).mono HB1.out.size)
    clear HD1 HV
    go_wp2_with fail
    go_loopw [] (fun w' => ∃ p f : Nat, w' = w1.iter s p ∧ s.size ≤ p + f ∧ D = rl s f p) (fun w' => s.size - w'.iterPos w1.heap.size)
    case atStart => exact ⟨0, s.size, rfl, by omega, HD2.out⟩
    case round =>
      obtain ⟨p, f, rfl, hf, hd⟩ := hrel
      have HF := hid hd
      clear hd
      by_cases hp : p < s.size
      · have hnx : ∀ ty, (Instr.next (.pointer (some ⟨w1.heap.size, 0, none⟩)) true ty).run Tryd.prog (w1.iter s p) = _ := fun ty => run_next_any w1 s p ty hp
        have hwd := Lib.decode_width_pos s p hp
        have hle := decode_le s p
        obtain ⟨g, rfl⟩ : ∃ g, f = g + 1 := ⟨f - 1, by omega⟩
        have hr : rl s (g + 1) p = if (Utf8.decode s p).1 < 32 then false else rl s g (p + (Utf8.decode s p).2) := by
          show (if p < s.size then _ else _) = _
          rw [if_pos hp]
        have HR := hid hr
        clear hr
        generalize Utf8.decode s p = d at *
        by_cases h32 : d.1 < 32
        · have f1 : (d.1 : Int) < 32 := by omega
          have HD := hid (show D = false by rw [HF.out, HR.out, if_pos h32])
          clear h32
          go_wp2_with fail
          go_ret
          exact ⟨by rw [HD.out]; rfl, HBA.out _⟩
        · have f1 : ¬ (d.1 : Int) < 32 := by omega
          have HD := hid (show D = rl s g (p + d.2) by rw [HF.out, HR.out, if_neg h32])
          clear h32
          go_wp2_with fail
          go_roundw
          case rel => exact ⟨p + d.2, g, rfl, by omega, HD.out⟩
          case measure =>
            simp
            omega
      · have hnx : ∀ ty, (Instr.next (.pointer (some ⟨w1.heap.size, 0, none⟩)) true ty).run Tryd.prog (w1.iter s p) = _ := fun ty => run_next_end w1 s p ty hp
        have HD := hid (show D = true by rw [HF.out, rl_end s f p hp])
        go_wp2_with fail
        go_ret
        exact ⟨by rw [HD.out]; rfl, HBA.out _⟩

set_option maxHeartbeats 1000000 in
theorem rvalue_any (s : ByteArray) (hs : s.size ≤ 1099511627776) (w : World) : Calls Tryd.prog 35 #[.string s] w fun e w' => e = .returned (.bool (Vl s)) ∧ Below w.heap.size w w' := by
  obtain ⟨D, hD⟩ : ∃ D, D = Vl s := ⟨_, rfl⟩
  rw [← hD]
  have HD0 := hid hD
  clear hD
  by_cases h1 : 1024 < s.size
  · have e1 : (1024 : Int) < (s.size : Int) := by omega
    have HD := hid (show D = false by rw [HD0.out]; unfold Vl; rw [decide_eq_false (by omega)]; rfl)
    go_enter Tryd.func35, Tryd.ntmps35
    go_wp2_with fail
    go_ret
    exact ⟨by rw [HD.out]; rfl, Below.refl _ _⟩
  have e1 : ¬ (1024 : Int) < (s.size : Int) := by omega
  have HD1 := hid (show D = vl s s.size 0 by rw [HD0.out]; unfold Vl; rw [decide_eq_true (by omega)]; rfl)
  clear HD0 h1
  go_enter Tryd.func35, Tryd.ntmps35
  go_wp2_with fail
  go_loopg [3, 4] s.size (fun g i k wr => ∃ p j : Nat, j ≤ s.size ∧ p ≤ s.size ∧ j ≤ p ∧ g = s.size - j ∧ i = .int .i64 (p : Int) ∧ k = .int .i64 (j : Int) ∧ D = vl s (s.size - j) p ∧ Below w.heap.size w wr)
  case atStart => exact ⟨0, 0, Nat.zero_le _, Nat.zero_le _, Nat.le_refl _, rfl, rfl, rfl, HD1.out, Below.refl _ _⟩
  case round =>
    obtain ⟨p, j, hj, hps, hjp, rfl, rfl, rfl, hd, hb⟩ := hrel
    have HF := hid hd
    have HB := hid hb
    clear hd hb HD1
    by_cases hp : p < s.size
    · have e2 : (j : Int) < (s.size : Int) := by omega
      have e3 : (p : Int) < (s.size : Int) := by omega
      have HL := hid fun w => letter_any s p hp hs w
      obtain ⟨g, hg⟩ : ∃ g, s.size - j = g + 1 := ⟨s.size - j - 1, by omega⟩
      have hr : vl s (s.size - j) p = if (ltr s p).1 = 0 ∨ (ltr s p).2 < 32 then false else vl s g (p + (ltr s p).1) := by
        rw [hg]
        show (if p < s.size then _ else _) = _
        rw [if_pos hp]
      have HR := hid (HF.out.trans hr)
      have hwl : (ltr s p).1 ≠ 0 → p + (ltr s p).1 ≤ s.size := by
        intro h0
        have := ltr_width s p hp
        rw [if_neg h0] at this
        rw [this]; exact width_le s p hp
      have hrb : (ltr s p).2 ≤ 2147483647 := by
        rw [ltr_decode]
        have := decode_le s p
        split
        · decide
        · exact this
      have HG := hid hg
      clear hr hg HF
      generalize ltr s p = L at *
      go_wp2_with fail
      refine (HL.out _).mono ?_
      rintro e w1 ⟨rfl, hb1⟩
      have HB1 := hid (HB.out.trans (hb1.mono HB.out.size))
      clear hb1
      by_cases h0 : L.1 = 0
      · have hz : ((L.1 : Int) == 0) = true := by rw [h0]; rfl
        have HD := hid (show D = false by rw [HR.out, if_pos (.inl h0)])
        clear h0
        go_wp2_with fail
        go_ret
        exact ⟨by rw [HD.out]; rfl, HB1.out⟩
      have hz : ((L.1 : Int) == 0) = false := by rw [beq_eq_false_iff_ne]; omega
      by_cases h32 : L.2 < 32
      · have f1 : (L.2 : Int) < 32 := by omega
        have HD := hid (show D = false by rw [HR.out, if_pos (.inr h32)])
        clear h32
        go_wp2_with fail
        go_ret
        exact ⟨by rw [HD.out]; rfl, HB1.out⟩
      have f1 : ¬ (L.2 : Int) < 32 := by omega
      have HD := hid (show D = vl s g (p + L.1) by rw [HR.out, if_neg (by omega)])
      have hpl := hwl h0
      have hl1 : 1 ≤ L.1 := by omega
      clear h32 h0 hwl hrb
      go_wp2_with fail
      go_roundg (s.size - (j + 1))
      case measure => omega
      case rel => exact ⟨p + L.1, j + 1, by omega, hpl, by omega, rfl, by go_num, by go_num, by rw [show s.size - (j + 1) = g from by have := HG.out; omega]; exact HD.out, HB1.out⟩
    · have HD := hid (show D = true by rw [HF.out, vl_end s _ p hp])
      have e3 : ¬ (p : Int) < (s.size : Int) := by omega
      by_cases hj2 : j < s.size
      · have e2 : (j : Int) < (s.size : Int) := by omega
        go_wp2_with fail
        go_ret
        exact ⟨by rw [HD.out]; rfl, HB.out⟩
      · have e2 : ¬ (j : Int) < (s.size : Int) := by omega
        go_wp2_with fail
        go_ret
        exact ⟨by rw [HD.out]; rfl, HB.out⟩

set_option maxHeartbeats 1000000 in
theorem rat_any (key : ByteArray) (hk : key.size ≤ 1099511627776) (w : World) {a : Option Addr} {len b off : Nat} {T : Nat → Tag} (h : Tb w a len b off T) (hz : Sz T len) (cap : Nat) :
    Calls Tryd.prog 20 #[.slice a len cap, .string key] w fun e w' => e = .returned (.int .i64 (fx (lk T (fold key)) len)) ∧ Below w.heap.size w w' := by
  have H := hid h
  have HC := hid fun (i : Nat) (hi : i < len) (w' : World) => rfold_any (T i).k (hz.k i hi) w'
  have HK := hid fun (w' : World) => rfold_any key hk w'
  have hn := hz.n
  clear h hz
  generalize fold key = kf at *
  go_enter Tryd.func20, Tryd.ntmps20
  go_wp2_with fail
  go_loopg [5] len (fun g i wr => ∃ k : Nat, k ≤ len ∧ g = len - k ∧ i = .int .i64 k ∧ Below w.heap.size w wr ∧ ∀ i, i < k → lk T kf i = false)
  case atStart => exact ⟨0, Nat.zero_le _, rfl, rfl, Below.refl _ _, fun j hj => absurd hj (Nat.not_lt_zero _)⟩
  case round =>
    obtain ⟨k, hk, hg, rfl, hb, hall⟩ := hrel
    have HG := hid hg
    have HA := hid hall
    have HB := hid hb
    clear hg hall hb
    by_cases hlt : k < len
    · have hlt2 : (k : Int) < (len : Int) := by omega
      obtain rfl := H.out.addr (by omega)
      have ck := (H.out.keep HB.out).k k hlt
      go_wp2_with fail
      refine (HC.out k hlt wr).mono ?_
      rintro e w' ⟨rfl, hb'⟩
      have HB2 := hid (HB.out.trans (hb'.mono HB.out.size))
      clear hb' ck
      go_wp2_with fail
      refine (HK.out _).mono ?_
      rintro e w2 ⟨rfl, hb2⟩
      have HB3 := hid (HB2.out.trans (hb2.mono HB2.out.size))
      clear hb2
      have hd := beq_text (fold (T k).k) kf
      have HD := hid (show lk T kf k = decide (fold (T k).k = kf) from rfl)
      generalize decide (fold (T k).k = kf) = D at *
      generalize fold (T k).k = F at *
      cases D with
      | false =>
        go_wp2_with fail
        go_roundg (len - (k + 1))
        case measure => rw [HG.out]; omega
        case rel => exact ⟨k + 1, by omega, rfl, by go_num, HB3.out, fun j hj => by
          by_cases e : j = k
          · rw [e]; exact HD.out
          · exact HA.out j (by omega)⟩
      | true =>
        go_wp2_with fail
        go_ret
        exact ⟨by rw [fx_some HD.out HA.out hlt]; rfl, HB3.out⟩
    · have hge : ¬ (k : Int) < (len : Int) := by omega
      obtain rfl : k = len := by omega
      go_wp2_with fail
      go_ret
      exact ⟨by rw [fx_none HA.out]; rfl, HB.out⟩
end Go.Proofs.YtfkklmklbmdlhaaDoor.Tg
