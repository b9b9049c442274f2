/- Few tags; the same tags: both sides. Conditions: none for few ones, but the slice's own length; for the others at most 2^40 tags. -/
import Derived.Test.YthjjonbkfkpkmaaDoorY19
import Derived.Test.YthjjonbkfkpkmaaDoorY20
import Derived.Deep.RegionHeld3
import Derived.Lib.SliceRun
namespace Go.Proofs.YthjjonbkfkpkmaaDoor.Tg
open Go.RowKit Gen

/-- A tag is short. -/
def Sh (t : Tag) : Prop := t.k.size ≤ 100 ∧ t.v.size ≤ 1500
instance (t : Tag) : Decidable (Sh t) := by unfold Sh; exact inferInstance
/-- Tags are few, and short. -/
def Fw (T : Nat → Tag) (len : Nat) : Prop := (∀ i, i < min len 100 → Sh (T i)) ∧ len ≤ 70
instance (T : Nat → Tag) (len : Nat) : Decidable (Fw T len) := by unfold Fw; exact inferInstance
set_option maxRecDepth 100000 in
theorem Fw.sz {T : Nat → Tag} {len : Nat} (h : Fw T len) : Sz T len := ⟨by have := h.2; omega, fun i hi => by have := (h.1 i (by have := h.2; omega)).1; omega, fun i hi => by have := (h.1 i (by have := h.2; omega)).2; omega⟩
set_option maxRecDepth 100000 in
theorem Fw.sh {T : Nat → Tag} {len : Nat} (h : Fw T len) (i : Nat) (hi : i < len) : Sh (T i) := h.1 i (by have := h.2; omega)

set_option maxRecDepth 100000 in
theorem few_any (w : World) {a : Option Addr} {len b off : Nat} {T : Nat → Tag} (h : Tb w a len b off T) (hm : len ≤ 9223372036854775807) (cap : Nat) :
    Calls Tryd.prog 5 #[.slice a len cap] w fun e w' => e = .returned (.bool (decide (Fw T len))) ∧ Below w.heap.size w w' := by
  obtain ⟨D, hD⟩ : ∃ D, D = decide (Fw T len) := ⟨_, rfl⟩
  rw [← hD]
  have HD0 := hid hD
  have H := hid h
  clear h hD
  go_enter Tryd.func5, Tryd.ntmps5
  go_wp2_with fail
  go_loopg [3] 100 (fun g i wr => ∃ k : Nat, k ≤ len ∧ k ≤ 100 ∧ g = 100 - k ∧ i = .int .i64 k ∧ (∀ i, i < k → Sh (T i)) ∧ Below w.heap.size w wr)
  case atStart => exact ⟨0, Nat.zero_le _, Nat.zero_le _, rfl, rfl, fun j hj => absurd hj (Nat.not_lt_zero _), Below.refl _ _⟩
  case round =>
    obtain ⟨k, hk, hk1, hg, rfl, hall, hb⟩ := hrel
    have HG := hid hg
    have HA := hid hall
    have HB := hid hb
    clear hg hall hb
    by_cases hlt : k < len
    · have hlt2 : (k : Int) < (len : Int) := by omega
      by_cases hlh : k < 100
      · have hlh2 : (k : Int) < 100 := by omega
        obtain rfl := H.out.addr (by omega)
        have ck := (H.out.keep HB.out).k k hlt
        have cv := (H.out.keep HB.out).v k hlt
        have HNO := hid fun (h : ¬ Sh (T k)) => HD0.out.trans (decide_eq_false (fun hF : Fw T len => h (hF.1 k (by omega))))
        have HYES := hid fun (h : Sh (T k)) => (fun i hi => by
          by_cases e : i = k
          · exact e ▸ h
          · exact HA.out i (by omega) : ∀ i, i < k + 1 → Sh (T i))
        generalize T k = t at *
        by_cases h1 : 100 < t.k.size
        · have e1 : (100 : Int) < (t.k.size : Int) := by omega
          have HD := hid (HNO.out (by unfold Sh; omega))
          clear h1
          go_wp2_with fail
          go_ret
          exact ⟨by rw [HD.out]; rfl, HB.out⟩
        have e1 : ¬ (100 : Int) < (t.k.size : Int) := by omega
        by_cases h2 : 1500 < t.v.size
        · have e2 : (1500 : Int) < (t.v.size : Int) := by omega
          have HD := hid (HNO.out (by unfold Sh; omega))
          clear h1 h2
          go_wp2_with fail
          go_ret
          exact ⟨by rw [HD.out]; rfl, HB.out⟩
        have e2 : ¬ (1500 : Int) < (t.v.size : Int) := by omega
        have HD := hid (HYES.out (by unfold Sh; omega))
        clear h1 h2
        go_wp2_with fail
        go_roundg (100 - (k + 1))
        case measure => rw [HG.out]; omega
        case rel => exact ⟨k + 1, by omega, by omega, rfl, by go_num, HD.out, HB.out⟩
      · have hlh2 : ¬ (k : Int) < 100 := by omega
        have HD := hid (HD0.out.trans (decide_eq_false (fun h : Fw T len => absurd h.2 (by omega))))
        have e1 : ¬ (len : Int) ≤ 70 := by omega
        go_wp2_with fail
        go_ret
        exact ⟨by rw [HD.out]; rfl, HB.out⟩
    · have hge : ¬ (k : Int) < (len : Int) := by omega
      obtain rfl : k = len := by omega
      by_cases h7 : k ≤ 70
      · have e1 : (k : Int) ≤ 70 := by omega
        have HD := hid (HD0.out.trans (decide_eq_true (⟨fun i hi => HA.out i (by omega), h7⟩ : Fw T k)))
        go_wp2_with fail
        go_ret
        exact ⟨by rw [HD.out]; rfl, HB.out⟩
      · have e1 : ¬ (k : Int) ≤ 70 := by omega
        have HD := hid (HD0.out.trans (decide_eq_false (fun h : Fw T k => h7 h.2)))
        go_wp2_with fail
        go_ret
        exact ⟨by rw [HD.out]; rfl, HB.out⟩

set_option maxRecDepth 100000 in
theorem bel_drew {w W : World} {B : Nat} (h : Below B w W) (n : Nat) : Below B w (W.drewN n) := ⟨h.os, h.tape, h.output, h.size, h.block⟩
/-- The same tags. -/
def Eqs (T U : Nat → Tag) (len lenU : Nat) : Prop := len = lenU ∧ ∀ i, i < len → T i = U i
instance (T U : Nat → Tag) (len lenU : Nat) : Decidable (Eqs T U len lenU) := by unfold Eqs; exact inferInstance
set_option maxRecDepth 100000 in
theorem Eqs.refl (T : Nat → Tag) (len : Nat) : Eqs T T len len := ⟨rfl, fun _ _ => rfl⟩
set_option maxRecDepth 100000 in
set_option maxHeartbeats 1000000 in
theorem rsame_any (w : World) {a : Option Addr} {len b off : Nat} {T : Nat → Tag} (h : Tb w a len b off T) {a' : Option Addr} {len' b' off' : Nat} {U : Nat → Tag} (h' : Tb w a' len' b' off' U) (hm : len ≤ 1099511627776) (cap cap' : Nat) :
    Calls Tryd.prog 25 #[.slice a len cap, .slice a' len' cap'] w fun e w' => e = .returned (.bool (decide (Eqs T U len len'))) ∧ Below w.heap.size w w' := by
  obtain ⟨D, hD⟩ : ∃ D, D = decide (Eqs T U len len') := ⟨_, rfl⟩
  rw [← hD]
  have HD0 := hid hD
  have H := hid h
  have H' := hid h'
  clear h h' hD
  by_cases hl : len = len'
  · subst hl
    have e0 : ((len : Int) != (len : Int)) = false := by simp
    go_enter Tryd.func25, Tryd.ntmps25
    go_wp2_with fail
    go_loopg [5] len (fun g i wr => ∃ k : Nat, k ≤ len ∧ g = len - k ∧ i = .int .i64 k ∧ (∀ i, i < k → T i = U i) ∧ Below w.heap.size w wr)
    case atStart => exact ⟨0, Nat.zero_le _, rfl, rfl, fun j hj => absurd hj (Nat.not_lt_zero _), Below.refl _ _⟩
    case round =>
      obtain ⟨k, hk, hg, rfl, hall, hb⟩ := hrel
      have HG := hid hg
      have HA := hid hall
      have HB := hid hb
      clear hg hall hb
      by_cases hlt : k < len
      · have hlt2 : (k : Int) < (len : Int) := by omega
        obtain rfl := H.out.addr (by omega)
        obtain rfl := H'.out.addr (by omega)
        have ck := (H.out.keep HB.out).k k hlt
        have cv := (H.out.keep HB.out).v k hlt
        have ck' := (H'.out.keep HB.out).k k hlt
        have cv' := (H'.out.keep HB.out).v k hlt
        have HNO := hid fun (h : ¬ T k = U k) => HD0.out.trans (decide_eq_false (fun hF : Eqs T U len len => h (hF.2 k hlt)))
        have HYES := hid fun (h : T k = U k) => (fun i hi => by
          by_cases e : i = k
          · exact e ▸ h
          · exact HA.out i (by omega) : ∀ i, i < k + 1 → T i = U i)
        generalize T k = t at *
        generalize U k = u at *
        obtain ⟨tk, tv⟩ := t
        obtain ⟨uk, uv⟩ := u
        simp only [] at ck cv ck' cv'
        by_cases h1 : tk = uk
        · by_cases h2 : tv = uv
          · subst h1 h2
            have HD := hid (HYES.out rfl)
            have q1 : (tk.toList == tk.toList) = true := beq_self_eq_true _
            have q2 : (tv.toList == tv.toList) = true := beq_self_eq_true _
            go_wp2_with fail
            go_quiet (fail)
            go_wp2_with fail
            go_roundg (len - (k + 1))
            case measure => rw [HG.out]; omega
            case rel => exact ⟨k + 1, by omega, rfl, by go_num, HD.out, bel_drew HB.out _⟩
          · subst h1
            have HD := hid (HNO.out (by intro e; cases e; exact h2 rfl))
            have q1 : (tk.toList == tk.toList) = true := beq_self_eq_true _
            have q2 : (tv.toList == uv.toList) = false := by rw [beq_text, decide_eq_false h2]
            clear h2
            go_wp2_with fail
            go_quiet (fail)
            go_wp2_with fail
            go_ret
            exact ⟨by rw [HD.out]; rfl, bel_drew HB.out _⟩
        · have HD := hid (HNO.out (by intro e; cases e; exact h1 rfl))
          have q1 : (tk.toList == uk.toList) = false := by rw [beq_text, decide_eq_false h1]
          clear h1
          go_wp2_with fail
          go_quiet (fail)
          go_wp2_with fail
          go_ret
          exact ⟨by rw [HD.out]; rfl, bel_drew HB.out _⟩
      · have hge : ¬ (k : Int) < (len : Int) := by omega
        obtain rfl : k = len := by omega
        have HD := hid (HD0.out.trans (decide_eq_true (⟨rfl, HA.out⟩ : Eqs T U k k)))
        go_wp2_with fail
        go_ret
        exact ⟨by rw [HD.out]; rfl, HB.out⟩
  · have e0 : ((len : Int) != (len' : Int)) = true := by rw [bne_iff_ne]; omega
    have HD := hid (HD0.out.trans (decide_eq_false (fun h : Eqs T U len len' => hl h.1)))
    clear hl
    go_enter Tryd.func25, Tryd.ntmps25
    go_wp2_with fail
    go_ret
    exact ⟨by rw [HD.out]; rfl, Below.refl _ _⟩
end Go.Proofs.YthjjonbkfkpkmaaDoor.Tg
namespace Go.Proofs.YthjjonbkfkpkmaaDoor.Tg
open Go.RowKit Gen

/-- What is wrong with a tag. -/
def kd (T : Nat → Tag) (i : Nat) : Int := if Ky (T i).k then (if 0 ≤ fx (lk T (fold (T i).k)) i then 40 else if Vl (T i).v = true then 0 else 41) else 40
def bad (T : Nat → Tag) (i : Nat) : Bool := decide (kd T i ≠ 0)
/-- Where something is wrong with tags, and what. -/
def chk (T : Nat → Tag) (len : Nat) : Int × Int := if 64 < len then (0, 4) else match fi (bad T) len with
  | some i => ((i : Int), kd T i)
  | none => (0, 0)
set_option maxRecDepth 100000 in
theorem chk_long {T : Nat → Tag} {len : Nat} (h : 64 < len) : chk T len = (0, 4) := by unfold chk; rw [if_pos h]
set_option maxRecDepth 100000 in
theorem chk_ok {T : Nat → Tag} {len : Nat} (h : ¬ 64 < len) (hb : ∀ i, i < len → bad T i = false) : chk T len = (0, 0) := by unfold chk; rw [if_neg h, fi_none hb]
set_option maxRecDepth 100000 in
theorem chk_at {T : Nat → Tag} {len k : Nat} {e : Int} (h : ¬ 64 < len) (hb : ∀ i, i < k → bad T i = false) (hk : k < len) (he : kd T k = e) (h0 : e ≠ 0) : chk T len = ((k : Int), e) := by
  unfold chk
  rw [if_neg h, fi_some (by unfold bad; rw [he]; exact decide_eq_true h0) hb hk]
  show (_, kd T k) = _
  rw [he]
set_option maxRecDepth 100000 in
theorem kd_key {T : Nat → Tag} {i : Nat} (h : ¬ Ky (T i).k) : kd T i = 40 := by unfold kd; rw [if_neg h]
set_option maxRecDepth 100000 in
theorem kd_alike {T : Nat → Tag} {i : Nat} (h : Ky (T i).k) (h2 : 0 ≤ fx (lk T (fold (T i).k)) i) : kd T i = 40 := by unfold kd; rw [if_pos h, if_pos h2]
set_option maxRecDepth 100000 in
theorem kd_value {T : Nat → Tag} {i : Nat} (h : Ky (T i).k) (h2 : ¬ 0 ≤ fx (lk T (fold (T i).k)) i) (h3 : Vl (T i).v = false) : kd T i = 41 := by unfold kd; rw [if_pos h, if_neg h2, h3]; rfl
set_option maxRecDepth 100000 in
theorem kd_ok {T : Nat → Tag} {i : Nat} (h : Ky (T i).k) (h2 : ¬ 0 ≤ fx (lk T (fold (T i).k)) i) (h3 : Vl (T i).v = true) : kd T i = 0 := by unfold kd; rw [if_pos h, if_neg h2, h3]; rfl

set_option maxRecDepth 100000 in
set_option maxHeartbeats 1000000 in
theorem check_any (w : World) (hT : Tabs w) {a : Option Addr} {len b off : Nat} {T : Nat → Tag} (h : Tb w a len b off T) (hz : Sz T len) {cap : Nat} (hc : len ≤ cap) :
    Calls Tryd.prog 32 #[.slice a len cap] w fun e w' => e = .returned (.tuple #[.int .i64 (chk T len).1, .int .i64 (chk T len).2]) ∧ Below w.heap.size w w' := by
  obtain ⟨C, hC⟩ : ∃ C, C = chk T len := ⟨_, rfl⟩
  rw [← hC]
  have HC := hid hC
  have H := hid h
  have HT := hid hT
  have HZ := hid hz
  clear h hC hT hz
  by_cases h64 : 64 < len
  · have e0 : (64 : Int) < (len : Int) := by omega
    have HD := hid (HC.out.trans (chk_long h64))
    go_enter Tryd.func32, Tryd.ntmps32
    go_wp2_with fail
    go_ret2
    exact ⟨by rw [HD.out]; rfl, Below.refl _ _⟩
  have e0 : ¬ (64 : Int) < (len : Int) := by omega
  go_enter Tryd.func32, Tryd.ntmps32
  go_wp2_with fail
  go_loopg [11] 64 (fun g i wr => ∃ k : Nat, k ≤ len ∧ g = 64 - k ∧ i = .int .i64 k ∧ (∀ i, i < k → bad T i = false) ∧ Below w.heap.size w wr)
  case atStart => exact ⟨0, Nat.zero_le _, rfl, rfl, fun j hj => absurd hj (Nat.not_lt_zero _), Below.refl _ _⟩
  case round =>
    obtain ⟨k, hk, hg, rfl, hall, hb⟩ := hrel
    have HG := hid hg
    have HA := hid hall
    have HB := hid hb
    clear hg hall hb
    by_cases hlt : k < len
    · have hlt2 : (k : Int) < (len : Int) := by omega
      obtain rfl := H.out.addr (by omega)
      have ck := (H.out.keep HB.out).k k hlt
      have cv := (H.out.keep HB.out).v k hlt
      have HKY := hid fun w' => key_any (T k).k (HZ.out.k k hlt) w'
      have HVL := hid fun w' ht => value_any (T k).v (HZ.out.v k hlt) w' ht
      have HAL := hid fun w' => alike_any (T k).k (HZ.out.k k hlt) w'
      have HCN := hid fun (w' : World) (q : Nat) (hq : w'.cell? ⟨q, 0, none⟩ = some (.string (fold (T k).k))) (hb : Below w.heap.size w w') => contains_any (fold (T k).k) q w' hq ((H.out.keep hb).take k (by omega)) (HZ.out.take k (by omega)) cap
      have HK0 := hid fun h => kd_key (T := T) (i := k) h
      have HK1 := hid fun h h2 => kd_alike (T := T) (i := k) h h2
      have HK2 := hid fun h h2 h3 => kd_value (T := T) (i := k) h h2 h3
      have HK3 := hid fun h h2 h3 => kd_ok (T := T) (i := k) h h2 h3
      have HAT := hid fun e he h0 => HC.out.trans (chk_at (k := k) (e := e) h64 HA.out hlt he h0)
      have HOK := hid fun (he : kd T k = 0) => (fun i hi => by
        by_cases e : i = k
        · subst e; unfold bad; rw [he]; rfl
        · exact HA.out i (by omega) : ∀ i, i < k + 1 → bad T i = false)
      have HB0 := hid (HB.out.trans (((Below.refl wr.heap.size wr).alloc (Nat.le_refl _) (.cells #[.string (T k).k, .string (T k).v] 54)).mono HB.out.size))
      have hs0 : (wr.alloc (.cells #[.string (T k).k, .string (T k).v] 54)).cell? ⟨wr.heap.size, 0, none⟩ = some (.string (T k).k) := by simp
      have hs1 : (wr.alloc (.cells #[.string (T k).k, .string (T k).v] 54)).cell? ⟨wr.heap.size, 1, none⟩ = some (.string (T k).v) := by simp
      have HS0 := hid hs0
      have HS1 := hid hs1
      have hkc : (k : Int) ≤ (cap : Int) := by omega
      clear hs0 hs1
      generalize kd T k = KD at *
      generalize fold (T k).k = FK at *
      generalize fx (lk T FK) k = FX at *
      generalize (T k).v = tv at *
      generalize (T k).k = tk at *
      go_wp2_with fail
      change Calls _ _ _ (wr.alloc (.cells #[.string tk, .string tv] 54)) _
      generalize wr.alloc (.cells #[.string tk, .string tv] 54) = W0 at *
      generalize wr.heap.size = bx at *
      refine (HKY.out _).mono ?_
      rintro e w1 ⟨rfl, hb1⟩
      have HB1 := hid (HB0.out.trans (hb1.mono HB0.out.size))
      have hk1 : w1.cell? ⟨bx, 0, none⟩ = some (.string tk) := (World.cell?_of_block (a := ⟨bx, 0, none⟩) (hb1.block bx (World.block_lt_of_cell? _ _ HS0.out))).trans HS0.out
      have hv1 : w1.cell? ⟨bx, 1, none⟩ = some (.string tv) := (World.cell?_of_block (a := ⟨bx, 1, none⟩) (hb1.block bx (World.block_lt_of_cell? _ _ HS1.out))).trans HS1.out
      have HV1 := hid hv1
      clear hb1 hv1
      by_cases hky : Ky tk
      · rw [decide_eq_true hky]
        have HKYT := hid hky
        clear hky
        have HS := hid fun (w' : World) (hb : Below w1.heap.size w1 w') => (World.cell?_of_block (a := ⟨bx, 0, none⟩) (hb.block bx (World.block_lt_of_cell? _ _ hk1))).trans hk1
        have HVS := hid fun (w' : World) (hb : Below w1.heap.size w1 w') => (World.cell?_of_block (a := ⟨bx, 1, none⟩) (hb.block bx (World.block_lt_of_cell? _ _ HV1.out))).trans HV1.out
        clear hk1
        go_wp2_with fail
        have bd : Below w1.heap.size w1 w1.drew := ⟨rfl, rfl, rfl, Nat.le_refl _, fun _ _ => rfl⟩
        have S1 := HS.out _ bd
        have HS1 := hid (HS.out w1 (Below.refl _ _))
        clear HV1 HS0
        go_region_held3 (fun w' => w'.cell? ⟨bx, 0, none⟩ = some (.string tk))
          (first | with_reducible exact S1 | with_reducible exact S2 | with_reducible exact S3 | go_keep)
          ((first
            | (go_at_call 64; (with_reducible refine (HAL.out _).mono ?_); rintro e w2 ⟨rfl, hq2, hb2⟩; have b2 := bd.trans hb2; have S2 := HS.out _ b2; have q2 : w2.cell? ⟨w1.heap.size, 0, none⟩ = some (.string FK) := hq2)
            | (go_at_call 63; (refine (HCN.out _ _ q2 (HB1.out.trans (b2.mono HB1.out.size))).mono ?_); rintro e w3 ⟨rfl, hb3⟩; have b3 := b2.trans (hb3.mono b2.size); have S3 := HS.out _ b3)))
        have HB3 := hid (HB1.out.trans (b3.mono HB1.out.size))
        have hv3 := HVS.out _ b3
        have HT3 := hid (HT.out.keep HB3.out)
        clear b2 b3 hb2 hb3 hq2 q2 S1 S2 S3 bd HS1 HS
        by_cases hf : 0 ≤ FX
        · have HD := hid (HAT.out 40 (HK1.out HKYT.out hf) (by decide))
          rw [decide_eq_true hf]
          clear hf hv3
          go_wp2_with fail
          go_ret2
          exact ⟨by rw [HD.out]; rfl, HB3.out⟩
        · rw [decide_eq_false hf]
          have HF := hid hf
          clear hf
          go_wp2_with fail
          refine (HVL.out _ HT3.out).mono ?_
          rintro e w4 ⟨rfl, hb4⟩
          have HB4 := hid (HB3.out.trans (hb4.mono HB3.out.size))
          clear hb4 hv3
          cases hvl : Vl tv with
          | true =>
            have HD := hid (HOK.out (HK3.out HKYT.out HF.out hvl))
            clear hvl
            go_wp2_with fail
            go_roundg (64 - (k + 1))
            case measure => rw [HG.out]; omega
            case rel => exact ⟨k + 1, by omega, rfl, by go_num, HD.out, HB4.out⟩
          | false =>
            have HD := hid (HAT.out 41 (HK2.out HKYT.out HF.out hvl) (by decide))
            clear hvl
            go_wp2_with fail
            go_ret2
            exact ⟨by rw [HD.out]; rfl, HB4.out⟩
      · have HD := hid (HAT.out 40 (HK0.out hky) (by decide))
        rw [decide_eq_false hky]
        clear hky
        go_wp2_with fail
        go_ret2
        exact ⟨by rw [HD.out]; rfl, HB1.out⟩
    · have hge : ¬ (k : Int) < (len : Int) := by omega
      obtain rfl : k = len := by omega
      have HD := hid (HC.out.trans (chk_ok h64 HA.out))
      go_wp2_with fail
      go_ret2
      exact ⟨by rw [HD.out]; rfl, HB.out⟩

end Go.Proofs.YthjjonbkfkpkmaaDoor.Tg
namespace Go.Proofs.YthjjonbkfkpkmaaDoor.Tg
open Go.RowKit Gen

/-- The cells of tags. -/
def flat : List Tag → List Value
  | [] => []
  | t :: l => .string t.k :: .string t.v :: flat l
set_option maxRecDepth 100000 in
theorem flat_len : ∀ l : List Tag, (flat l).length = l.length * 2
  | [] => rfl
  | t :: l => by show (flat l).length + 1 + 1 = (l.length + 1) * 2; rw [flat_len l]; omega
set_option maxRecDepth 100000 in
theorem flat_app : ∀ l m : List Tag, flat (l ++ m) = flat l ++ flat m
  | [], _ => rfl
  | t :: l, m => by show _ :: _ :: flat (l ++ m) = _; rw [flat_app l m]; rfl
set_option maxRecDepth 100000 in
theorem flat_k : ∀ (l : List Tag) (i : Nat) (t : Tag), l[i]? = some t → (flat l)[i * 2]? = some (.string t.k) ∧ (flat l)[i * 2 + 1]? = some (.string t.v)
  | [], i, t, h => by simp at h
  | u :: l, 0, t, h => by simp at h; subst h; exact ⟨rfl, rfl⟩
  | u :: l, i + 1, t, h => by
    have ih := flat_k l i t (by simpa using h)
    rw [show (i + 1) * 2 = i * 2 + 1 + 1 from by omega]
    exact ⟨ih.1, ih.2⟩
set_option maxRecDepth 100000 in
theorem flat_one : ∀ (l : List Tag), ∀ u ∈ flat l, u.oneCell' = true
  | [], u, h => by cases h
  | t :: l, u, h => by
    simp only [flat, List.mem_cons] at h
    rcases h with rfl | rfl | h
    · rfl
    · rfl
    · exact flat_one l u h
/-- A list as a function. -/
def gt (l : List Tag) (i : Nat) : Tag := l.getD i ⟨ByteArray.empty, ByteArray.empty⟩
set_option maxRecDepth 100000 in
theorem gt_at {l : List Tag} {i : Nat} (hi : i < l.length) : l[i]? = some (gt l i) := by unfold gt; simp [List.getD, hi]
/-- The first tags as a list. -/
def lst (T : Nat → Tag) (n : Nat) : List Tag := (List.range n).map T
set_option maxRecDepth 100000 in
theorem lst_len (T : Nat → Tag) (n : Nat) : (lst T n).length = n := by unfold lst; simp
set_option maxRecDepth 100000 in
theorem lst_at (T : Nat → Tag) (n i : Nat) (hi : i < n) : (lst T n)[i]? = some (T i) := by unfold lst; rw [List.getElem?_map, List.getElem?_range hi]; rfl
set_option maxRecDepth 100000 in
theorem gt_lst (T : Nat → Tag) (n i : Nat) (hi : i < n) : gt (lst T n) i = T i := by
  have h1 := gt_at (l := lst T n) (i := i) (by rw [lst_len]; exact hi)
  rw [lst_at T n i hi] at h1
  exact (Option.some.inj h1).symm
set_option maxRecDepth 100000 in
theorem lst_gt (l : List Tag) : lst (gt l) l.length = l := by
  apply List.ext_getElem?
  intro i
  by_cases hi : i < l.length
  · rw [lst_at _ _ _ hi, gt_at hi]
  · rw [List.getElem?_eq_none (by rw [lst_len]; omega), List.getElem?_eq_none (by omega)]

/-- A row of tags of a call's own. -/
def Ow (w : World) (B : Nat) (ao : Option Addr) (cap : Nat) (l : List Tag) : Prop := w.ownsRow B 54 2 (.slice ao l.length cap) l.length (flat l)
set_option maxRecDepth 100000 in
theorem own_at {w : World} {base : Nat} {e size : Nat} {ao : Option Addr} {n cap : Nat} {xs : List Value} (h : w.ownsRow base e size (.slice ao n cap) n xs) :
    (ao = none ∧ n = 0 ∧ cap = 0) ∨ ∃ g, ao = some ⟨g, 0, none⟩ ∧ base ≤ g ∧ g < w.heap.size ∧ n ≤ cap := by
  rcases h.2 with ⟨hv, h0⟩ | ⟨g, c, cur, hv, q1, q2, q3, _⟩
  · cases hv; exact .inl ⟨rfl, rfl, rfl⟩
  · cases hv
    refine .inr ⟨g, rfl, q1, ?_, q3⟩
    rcases Nat.lt_or_ge g w.heap.size with hlt | hge
    · exact hlt
    · rw [Array.getElem?_eq_none hge] at q2; cases q2
set_option maxRecDepth 100000 in
theorem Ow.cap {w : World} {B : Nat} {ao : Option Addr} {cap : Nat} {l : List Tag} (h : Ow w B ao cap l) : l.length ≤ cap := by
  rcases own_at h with ⟨_, h1, h2⟩ | ⟨_, _, _, _, h⟩
  · omega
  · exact h
set_option maxRecDepth 100000 in
theorem Ow.tb {w : World} {B : Nat} {ao : Option Addr} {cap : Nat} {l : List Tag} (h : Ow w B ao cap l) : ∃ b, Tb w ao l.length b 0 (gt l) ∧ (0 < l.length → B ≤ b) ∧ (ao = none ∨ ao = some ⟨b, 0, none⟩) := by
  rcases own_at h with ⟨rfl, h1, h2⟩ | ⟨g, rfl, hB, hlt, _⟩
  · exact ⟨0, ⟨by omega, by omega, by omega, by omega⟩, by omega, .inl rfl⟩
  · refine ⟨g, ⟨fun _ => rfl, fun i hi => ?_, fun i hi => ?_, fun _ => hlt⟩, fun _ => hB, .inr rfl⟩
    · have := h.cellAt (i * 2) (by omega)
      rw [(flat_k l i _ (gt_at hi)).1] at this
      rw [Nat.zero_add]; exact this
    · have := h.cellAt (i * 2 + 1) (by omega)
      rw [(flat_k l i _ (gt_at hi)).2] at this
      rw [Nat.zero_add]; exact this
set_option maxRecDepth 100000 in
theorem own_block {w w' : World} {base e size : Nat} {ao : Option Addr} {n cap : Nat} {xs : List Value} (h : w.ownsRow base e size (.slice ao n cap) n xs)
    (hb : ∀ g, blk ao = some g → w'.heap[g]? = w.heap[g]?) : w'.ownsRow base e size (.slice ao n cap) n xs := by
  obtain ⟨hl, h⟩ := h
  rcases h with h | ⟨g, c, cur, hv, q1, q2, q3⟩
  · exact ⟨hl, .inl h⟩
  · refine ⟨hl, .inr ⟨g, c, cur, hv, q1, ?_, q3⟩⟩
    cases hv
    rw [hb g rfl]; exact q2
set_option maxRecDepth 100000 in
theorem Ow.keep {w w' : World} {B : Nat} {ao : Option Addr} {cap : Nat} {l : List Tag} (h : Ow w B ao cap l) (hb : Below w.heap.size w w') : Ow w' B ao cap l :=
  own_block h (fun g hg => hb.block g (by
    rcases own_at h with ⟨rfl, _, _⟩ | ⟨g', rfl, _, hlt, _⟩
    · simp [blk] at hg
    · simp [blk] at hg; omega))

set_option maxRecDepth 100000 in
/-- append(dst, src...) where dst is the call's own, of elements of whatever size. -/
theorem wpList_append_rows {P : Program} {ops : Array Oper} {o : Oper} {a : Act} {Q : Exit → Act → World → Prop} (w : World) {rest : List Oper} (hgd : o.guard = none) (s x : Operand) (t : TypeId)
    (hop : o.op = .call { callee := .builtin .append, args := #[s, x], argTypes := #[t, t] })
    (base : Nat) (e : TypeId) (i : TypeInfo) (z : Value) (size bytes : Nat) (h1 : P.underlying t = some (.slice e)) (h2 : P.info? e = some i) (h3 : i.zero = some z)
    (h4 : i.size = size) (h5 : i.bytes = bytes) (h6 : z.cells.size = size) (h0 : 0 < size)
    (ao : Option Addr) (n cap : Nat) (xs : List Value) (hs : a.eval s = .slice ao n cap) (hown : w.ownsRow base e size (.slice ao n cap) n xs)
    (bo : Option Addr) (m c : Nat) (news : List Value) (hx : a.eval x = .slice bo m c) (hl : news.length = m * size) (hnone : bo = none → m = 0 ∧ c = 0) (hc : ∀ ad, bo = some ad → ∀ j u, news[j]? = some u → w.cell? (ad.add j) = some u) (hu : ∀ u ∈ news, u.oneCell' = true)
    (b1 : n + m ≤ maxLen) (b2 : (n + m) * bytes ≤ 140737488355328) (hbase : base ≤ w.heap.size)
    (hK : ∀ ao' cap' w', w'.ownsRow base e size (.slice ao' (n + m) cap') (n + m) (xs ++ news) → w.grownBy w' (blk ao) → (blk ao' = blk ao ∨ ∀ g, blk ao' = some g → w.heap.size ≤ g) → wpList P ops Q rest (a.put o.dst (.slice ao' (n + m) cap')) w') :
    wpList P ops Q (o :: rest) a w := by
  have hnil : ∀ {y : List Value}, y.length = 0 * size → y = [] := fun {y} h => List.eq_nil_of_length_eq_zero (by rw [h]; exact Nat.zero_mul _)
  cases bo with
  | none =>
    obtain ⟨rfl, rfl⟩ := hnone rfl
    obtain rfl : news = [] := hnil hl
    refine wpList_append_own_none hgd s x t hop base e i size h1 h2 (.slice ao n cap) n xs hs hown hx ?_
    have := hK ao cap w (by simpa using hown) (World.grownBy.refl _ _) (.inl rfl)
    simpa using this
  | some ad =>
    by_cases hm : m = 0
    · subst hm
      obtain rfl : news = [] := hnil hl
      rcases own_at hown with ⟨rfl, rfl, rfl⟩ | ⟨g, rfl, _, _, hnc⟩
      · obtain rfl : xs = [] := hnil hown.1
        refine wpList_plain hgd fun K hK' => ?_
        obtain ⟨v', w', hrun, r1, r2, r3⟩ := run_append_own (P := P) w base t o.type e i z size bytes h1 h2 h3 h4 h5 h6 h0 (.slice none 0 0) 0 [] (World.ownsRow_nil w _ e size) ad 0 c [] (by simp) (by simp) (by simp) b1 b2 hbase
        obtain rfl : v' = .slice none 0 0 := r3.2 ⟨rfl, rfl⟩
        unfold Oper.wp
        simp [execOp, hop, resolve, invoke, builtin, hs, hx, hrun, Result.andThen]
        exact hK' _ _ (hK none 0 w' r1 r2 (.inl rfl))
      · exact wpList_append_fits w hgd s x t hop base e i size h1 h2 h4 g n cap xs hs hown ad 0 c [] hx (by simp) (by simp) (by simp) (by omega) fun w' r1 r2 => hK _ _ _ r1 r2 (.inl rfl)
    · refine wpList_append_lies w hgd s x t hop base e i z size bytes h1 h2 h3 h4 h5 h6 h0 (.slice ao n cap) n xs hs hown ad m c news hx hl (hc ad rfl) hu (by omega) b1 b2 hbase w.heap.size rfl fun g cap' w' r1 r2 r3 _ => ?_
      rw [ownBlock_slice] at r2 r3
      refine hK _ _ _ r1 r2 ?_
      rcases r3 with r3 | rfl
      · exact .inl (by rw [r3]; rfl)
      · exact .inr fun g' hg' => by simp [blk] at hg'; omega
end Go.Proofs.YthjjonbkfkpkmaaDoor.Tg
namespace Go.Proofs.YthjjonbkfkpkmaaDoor.Tg
open Go.RowKit Gen

set_option maxRecDepth 100000 in
theorem Tryd.info30 : (Tryd.prog.info? 54).map (fun i => (i.zero, i.size, i.bytes)) = some (some (.agg #[.string ⟨#[]⟩, .string ⟨#[]⟩]), 2, 32) := by kernel_rfl
set_option maxRecDepth 100000 in
theorem flat_get : ∀ (l : List Tag) (j : Nat) (u : Value), (flat l)[j]? = some u → ∃ i t, l[i]? = some t ∧ ((j = i * 2 ∧ u = .string t.k) ∨ (j = i * 2 + 1 ∧ u = .string t.v))
  | [], j, u, h => by simp [flat] at h
  | t :: l, 0, u, h => ⟨0, t, rfl, .inl ⟨rfl, by simpa [flat] using h.symm⟩⟩
  | t :: l, 1, u, h => ⟨0, t, rfl, .inr ⟨rfl, by simpa [flat] using h.symm⟩⟩
  | t :: l, j + 2, u, h => by
    obtain ⟨i, x, h1, h2⟩ := flat_get l j u (by simpa [flat] using h)
    refine ⟨i + 1, x, h1, ?_⟩
    rcases h2 with ⟨e, hu⟩ | ⟨e, hu⟩
    · exact .inl ⟨by omega, hu⟩
    · exact .inr ⟨by omega, hu⟩
set_option maxRecDepth 100000 in
theorem Tb.cells {w : World} {a : Option Addr} {len b off : Nat} {T : Nat → Tag} (h : Tb w a len b off T) : ∀ ad, a = some ad → ∀ j u, (flat (lst T len))[j]? = some u → w.cell? (ad.add j) = some u := by
  intro ad ha j u hj
  obtain ⟨i, t, h1, h2⟩ := flat_get _ _ _ hj
  have hi : i < len := by
    have := (List.getElem?_eq_some_iff.1 h1).1
    rwa [lst_len] at this
  rw [lst_at T len i hi] at h1
  cases h1
  have hab := h.addr (by omega)
  rw [ha] at hab
  cases hab
  rcases h2 with ⟨rfl, rfl⟩ | ⟨rfl, rfl⟩
  · rw [Addr.add_lit]; exact h.k i hi
  · rw [Addr.add_lit, ← Nat.add_assoc]; exact h.v i hi
set_option maxRecDepth 100000 in
theorem flat_set : ∀ (l : List Tag) (i : Nat) (t : Tag), flat (l.set i t) = ((flat l).set (i * 2) (.string t.k)).set (i * 2 + 1) (.string t.v)
  | [], i, t => rfl
  | u :: l, 0, t => rfl
  | u :: l, i + 1, t => by
    rw [show (i + 1) * 2 = i * 2 + 1 + 1 from by omega]
    show .string u.k :: .string u.v :: flat (l.set i t) = _
    rw [flat_set l i t]
    rfl
set_option maxRecDepth 100000 in
theorem fx_congr {p q : Nat → Bool} {n : Nat} (h : ∀ i, i < n → p i = q i) : fx p n = fx q n := by
  rcases fx_cases p n with ⟨h1, h2⟩ | ⟨k, h1, h2, h3, h4⟩
  · rw [h1, fx_none (fun i hi => by rw [← h i hi]; exact h2 i hi)]
  · rw [h1, fx_some (p := q) (k := k) (by rw [← h k h2]; exact h3) (fun i hi => by rw [← h i (by omega)]; exact h4 i hi) h2]
set_option maxRecDepth 100000 in
theorem lk_lst (T : Nat → Tag) (kf : ByteArray) (n : Nat) : fx (lk (gt (lst T n)) kf) n = fx (lk T kf) n := fx_congr fun i hi => by unfold lk; rw [gt_lst T n i hi]
set_option maxRecDepth 100000 in
theorem bel_new (w : World) (o : Obj) : Below w.heap.size w (w.alloc o) := (Below.refl _ _).alloc (Nat.le_refl _) _

/-- Tags with one that is so. -/
def stt (T : Nat → Tag) (len : Nat) (t : Tag) : List Tag := if fx (lk T (fold t.k)) len < 0 then lst T len ++ [t] else (lst T len).set (fx (lk T (fold t.k)) len).toNat t
/-- They, if they are right. -/
def okT (M : List Tag) : List Tag := if (chk (gt M) M.length).2 = 0 then M else []
/-- What a call of Set leaves. -/
def SetP (w : World) (M : List Tag) (e : Ending) (w' : World) : Prop := ∃ ao cap, e = .returned (.tuple #[.slice ao (okT M).length cap, .int .i64 (chk (gt M) M.length).2]) ∧ Ow w' w.heap.size ao cap (okT M) ∧ Below w.heap.size w w'
set_option maxRecDepth 100000 in
theorem Sz.app {T : Nat → Tag} {len : Nat} (h : Sz T len) {t : Tag} (hk : t.k.size ≤ 1099511627776) (hv : t.v.size ≤ 1099511627776) (hl : len ≤ 1073741824) : Sz (gt (lst T len ++ [t])) (lst T len ++ [t]).length := by
  have hg : ∀ i, i < len + 1 → gt (lst T len ++ [t]) i = if i < len then T i else t := by
    intro i hi
    unfold gt
    by_cases e : i < len
    · rw [if_pos e]; simp [List.getD, List.getElem?_append_left (show i < (lst T len).length by rw [lst_len]; exact e), lst_at T len i e]
    · obtain rfl : i = len := by omega
      rw [if_neg e]; simp [List.getD, lst_len]
  have hl2 : (lst T len ++ [t]).length = len + 1 := by rw [List.length_append, lst_len]; rfl
  rw [hl2]
  refine ⟨by omega, fun i hi => ?_, fun i hi => ?_⟩
  · rw [hg i hi]; split
    · exact h.k i (by assumption)
    · exact hk
  · rw [hg i hi]; split
    · exact h.v i (by assumption)
    · exact hv
set_option maxRecDepth 100000 in
theorem Sz.put {T : Nat → Tag} {len : Nat} (h : Sz T len) {t : Tag} (hk : t.k.size ≤ 1099511627776) (hv : t.v.size ≤ 1099511627776) (j : Nat) : Sz (gt ((lst T len).set j t)) ((lst T len).set j t).length := by
  have hl2 : ((lst T len).set j t).length = len := by rw [List.length_set, lst_len]
  have hg : ∀ i, i < len → gt ((lst T len).set j t) i = if j = i then t else T i := by
    intro i hi
    unfold gt
    by_cases e : j = i
    · subst e; rw [if_pos rfl]; simp [List.getD, lst_len, hi]
    · rw [if_neg e]; simp [List.getD, List.getElem?_set_ne e, lst_at T len i hi]
  rw [hl2]
  refine ⟨h.n, fun i hi => ?_, fun i hi => ?_⟩
  · rw [hg i hi]; split
    · exact hk
    · exact h.k i hi
  · rw [hg i hi]; split
    · exact hv
    · exact h.v i hi
set_option maxRecDepth 100000 in
theorem setp_ok {w w' : World} {M : List Tag} {ao : Option Addr} {cap : Nat} (hc : (chk (gt M) M.length).2 = 0) (ho : Ow w' w.heap.size ao cap M) (hb : Below w.heap.size w w') : SetP w M (.returned (.tuple #[.slice ao M.length cap, .int .i64 0])) w' := by
  have e : okT M = M := by unfold okT; rw [if_pos hc]
  refine ⟨ao, cap, ?_, by rw [e]; exact ho, hb⟩
  rw [e, hc]
set_option maxRecDepth 100000 in
theorem setp_no {w w' : World} {M : List Tag} {c : Int} (hc : c = (chk (gt M) M.length).2) (h0 : ¬ c = 0) (hb : Below w.heap.size w w') : SetP w M (.returned (.tuple #[.slice none 0 0, .int .i64 c])) w' := by
  subst hc
  have e : okT M = [] := by unfold okT; rw [if_neg h0]
  refine ⟨none, 0, ?_, by rw [e]; exact World.ownsRow_nil _ _ _ _, hb⟩
  rw [e]; rfl
end Go.Proofs.YthjjonbkfkpkmaaDoor.Tg
