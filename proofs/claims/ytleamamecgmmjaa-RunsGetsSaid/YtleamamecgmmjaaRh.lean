/- GetGamma of runs, and the document's; the document's Gamma. Conditions: fewer than 2^20 bytes. -/
import Derived.Test.YtleamamecgmmjaaRg
import Derived.Test.YtleamamecgmmjaaGt
import Derived.Test.YtleamamecgmmjaaPu
import Derived.Test.YtleamamecgmmjaaCd
import Derived.Deep.RegionLaw
namespace Go.Proofs.Ytleamamecgmmjaa.Runs
open Go.RowKit Bit Rice

/-- What comes behind a gamma code's first bit 1. -/
def behG (M T p n : Nat) : Nat × Int × Nat := if 8 * T < p + n then (0, 10, p) else (2 ^ n + seg M (8 * T) p n, 0, p + n)
/-- What GetGamma answers, and where it leads, behind z bits 0. -/
def gG (M T p : Nat) : Nat → Nat → Nat × Int × Nat
  | 0, z => (0, 12, p + z)
  | r + 1, z => if 8 * T < p + z + 1 then (0, 10, p + z) else if seg M (8 * T) (p + z) 1 = 1 then behG M T (p + z + 1) z else gG M T p r (z + 1)
def getG (M T p : Nat) : Nat × Int × Nat := gG M T p 32 0
theorem behG_le (M T p n : Nat) (hp : p ≤ 8 * T) : (behG M T p n).2.2 ≤ 8 * T := by
  unfold behG
  split
  · exact hp
  · show p + n ≤ _; omega
theorem gG_le (M T p : Nat) : ∀ r z, p + z ≤ 8 * T → (gG M T p r z).2.2 ≤ 8 * T
  | 0, z, h => h
  | r + 1, z, h => by
    show (if 8 * T < p + z + 1 then (0, 10, p + z) else if seg M (8 * T) (p + z) 1 = 1 then behG M T (p + z + 1) z else gG M T p r (z + 1) : Nat × Int × Nat).2.2 ≤ _
    split
    · exact h
    · split
      · exact behG_le _ _ _ _ (by omega)
      · exact gG_le M T p r (z + 1) (by omega)
theorem getG_le (M T p : Nat) (hp : p ≤ 8 * T) : (getG M T p).2.2 ≤ 8 * T := gG_le M T p 32 0 hp
theorem getG_ok {M T p v c : Nat} (h : getG M T p = (v, 0, c)) : 0 < v ∧ v < 4294967296 := by
  have key : ∀ r z, r + z = 32 → gG M T p r z = (v, 0, c) → 0 < v ∧ v < 4294967296 := by
    intro r
    induction r with
    | zero => intro z _ h; simp [gG] at h
    | succ r ih =>
      intro z hz h
      unfold gG at h
      split at h
      · simp at h
      · split at h
        · unfold behG at h
          split at h
          · simp at h
          · simp only [Prod.mk.injEq] at h
            have h1 := seg_lt M (8 * T) (p + z + 1) z
            have h2 := Nat.two_pow_pos z
            have h3 : 2 ^ (z + 1) ≤ 2 ^ 32 := Nat.pow_le_pow_right (by decide) (by omega)
            rw [Nat.pow_succ] at h3
            omega
        · exact ih (z + 1) (by omega) h
  exact key 32 0 rfl h

theorem get_nI {w : World} {q g M T p : Nat} (h : Rd w q g M T p) (hp : p ≤ 8 * T) (hT : T ≤ 1099511627776) (ni : Int) (n : Nat) (hni : ni = n) (hn : n ≤ 64) : Calls Try.prog 40 #[.pointer (some ⟨q, 0, none⟩), .int .i64 ni] w (GetNPost w q g M T p n) := by subst hni; exact get_n h hp hT n hn
theorem rget_nI {w : World} {B q : Nat} {lo : Option Addr} {lcap M T p : Nat} (h : Rf w B q lo lcap M T p) (hp : p ≤ 8 * T) (hT : T ≤ 1048576) (ni : Int) (n : Nat) (hni : ni = n) (hn : n ≤ 64) : Calls Try.prog 81 #[.pointer (some ⟨q, 0, none⟩), .int .i64 ni] w (RGetNPost w B q lo lcap M T p n) := by subst hni; exact rget_n h hp hT n hn

def BPost (w : World) (q g M T p n : Nat) (e : Ending) (w' : World) : Prop := e = .returned (.tuple #[.int .u64 ((behG M T p n).1 : Int), .int .i64 (behG M T p n).2.1]) ∧ Rd w' q g M T (behG M T p n).2.2 ∧ Fr (fun b => b = q) w w'
theorem behind_any {w : World} {q g M T p : Nat} (h : Rd w q g M T p) (hp : p ≤ 8 * T) (hT : T ≤ 1099511627776) (n : Nat) (hn : n ≤ 31) : Calls Try.prog 41 #[.pointer (some ⟨q, 0, none⟩), .int .i64 (n : Int)] w (BPost w q g M T p n) := by
  unfold BPost
  have hg := get_n h hp hT n (by omega)
  unfold GetNPost at hg
  clear h
  by_cases h1 : 8 * T < p + n
  · rw [getN_end h1] at hg
    rw [show behG M T p n = (0, 10, p) from if_pos h1]
    have HG := hid hg
    clear hg
    go_enter Try.func41, Try.ntmps41
    go_wp2_with fail
    refine HG.out.mono ?_
    rintro e w2 ⟨rfl, hr2, hf2⟩
    go_wp2_with fail
    go_ret2
    exact ⟨rfl, hr2, hf2⟩
  · rw [getN_ok h1] at hg
    rw [show behG M T p n = (2 ^ n + seg M (8 * T) p n, 0, p + n) from if_neg h1]
    have hsl := seg_lt M (8 * T) p n
    have hpb : 2 ^ n ≤ 2 ^ 31 := Nat.pow_le_pow_right (by decide) hn
    generalize seg M (8 * T) p n = v at *
    have hsh := shl_or 1 v n hsl (by omega)
    rw [Nat.one_mul] at hsh
    have HSH := hid hsh
    have HG := hid hg
    clear hg hsh hsl hpb
    go_enter Try.func41, Try.ntmps41
    go_wp2_with fail
    refine HG.out.mono ?_
    rintro e w2 ⟨rfl, hr2, hf2⟩
    go_wp2_with fail
    go_ret2
    have hs2 := HSH.out
    simp only [Int.natCast_one, Int.one_mul] at hs2
    exact ⟨congrArg (fun z : Int => Ending.returned (.tuple #[.int .u64 z, .int .i64 0])) hs2, hr2, hf2⟩

def GGPost (w : World) (q g M T p : Nat) (e : Ending) (w' : World) : Prop := e = .returned (.tuple #[.int .u64 ((getG M T p).1 : Int), .int .i64 (getG M T p).2.1]) ∧ Rd w' q g M T (getG M T p).2.2 ∧ Fr (fun b => b = q) w w'
set_option maxHeartbeats 800000 in
theorem ggamma_any {w : World} {q g M T p : Nat} (h : Rd w q g M T p) (hp : p ≤ 8 * T) (hT : T ≤ 1099511627776) : Calls Try.prog 17 #[.pointer (some ⟨q, 0, none⟩)] w (GGPost w q g M T p) := by
  go_enter Try.func17, Try.ntmps17
  go_wp2_with fail
  go_loopg [9] 32 (fun m i wr => ∃ z : Nat, z ≤ 32 ∧ m = 32 - z ∧ i = .int .i64 z ∧ p + z ≤ 8 * T ∧ getG M T p = gG M T p (32 - z) z ∧ Rd wr q g M T (p + z) ∧ Fr (fun b => b = q) w wr)
  case atStart => exact ⟨0, by decide, rfl, rfl, hp, rfl, h, Fr.refl _ _⟩
  case round =>
    obtain ⟨z, hz, hg, rfl, hpz, hG, hrd, hfr⟩ := hrel
    have HG := hid hg
    clear hg h
    by_cases hlt : z < 32
    · have hlt2 : (z : Int) < 32 := by omega
      have hget := get_n hrd hpz hT 1 (by decide)
      unfold GetNPost at hget
      rw [show 32 - z = (31 - z) + 1 from by omega] at hG
      by_cases h1 : 8 * T < p + z + 1
      · rw [getN_end h1] at hget
        have hG1 : getG M T p = (0, 10, p + z) := by rw [hG]; exact if_pos h1
        have hfin : ∀ w', Rd w' q g M T (p + z) → Fr (fun b => b = q) w w' → GGPost w q g M T p (.returned (.tuple #[.int .u64 ((0 : Nat) : Int), .int .i64 10])) w' := fun w' hr hf => by unfold GGPost; rw [hG1]; exact ⟨rfl, hr, hf⟩
        have HF := hid hfin
        have HGT := hid hget
        clear hget hG hG1 hrd hfin
        go_wp2_with fail
        refine HGT.out.mono ?_
        rintro e w2 ⟨rfl, hr2, hf2⟩
        have hfi := HF.out w2 hr2 (hfr.trans hf2)
        clear hr2 hf2
        go_wp2_with fail
        go_ret2
        exact hfi
      · rw [getN_ok h1] at hget
        by_cases hb : seg M (8 * T) (p + z) 1 = 1
        · have hG1 : getG M T p = behG M T (p + z + 1) z := by rw [hG]; show (if _ then _ else if _ then _ else _) = _; rw [if_neg h1, if_pos hb]
          rw [hb] at hget
          have hbh := fun w' (hr : Rd w' q g M T (p + z + 1)) => behind_any hr (by omega) hT z (by omega)
          have hfin : ∀ w' w'', Fr (fun b => b = q) w w' → ∀ e, BPost w' q g M T (p + z + 1) z e w'' → GGPost w q g M T p e w'' := fun w' w'' hf e hb => by unfold GGPost; rw [hG1]; exact ⟨hb.1, hb.2.1, hf.trans hb.2.2⟩
          have HF := hid hfin
          have HGT := hid hget
          have HBH := hid hbh
          clear hget hG hG1 hrd hfin hbh hb
          go_wp2_with fail
          refine HGT.out.mono ?_
          rintro e w2 ⟨rfl, hr2, hf2⟩
          go_wp2_with fail
          refine (HBH.out w2 hr2).mono ?_
          rintro e w3 hbp
          have hfi := HF.out w2 w3 (hfr.trans hf2) e hbp
          obtain ⟨rfl, hr3, hf3⟩ := hbp
          clear hr2 hf2 hr3 hf3
          go_wp2_with fail
          go_ret2
          exact hfi
        · have hG1 : getG M T p = gG M T p (31 - z) (z + 1) := by rw [hG]; show (if _ then _ else if _ then _ else _) = _; rw [if_neg h1, if_neg hb]
          have hbit := seg_lt M (8 * T) (p + z) 1
          obtain h0 : seg M (8 * T) (p + z) 1 = 0 := by omega
          rw [h0] at hget
          have HGT := hid hget
          have HG1 := hid hG1
          clear hget hG hG1 hrd hb hbit h0
          go_wp2_with fail
          refine HGT.out.mono ?_
          rintro e w2 ⟨rfl, hr2, hf2⟩
          have hf3 := hfr.trans hf2
          clear hf2
          go_wp2_with fail
          go_roundg (32 - (z + 1))
          case measure => rw [HG.out]; omega
          case rel => exact ⟨z + 1, by omega, rfl, by go_num, by omega, by rw [HG1.out, show 32 - (z + 1) = 31 - z from by omega], hr2, hf3⟩
    · have hge : ¬ (z : Int) < 32 := by omega
      obtain rfl : z = 32 := by omega
      have hfin : GGPost w q g M T p (.returned (.tuple #[.int .u64 ((0 : Nat) : Int), .int .i64 12])) wr := by unfold GGPost; rw [hG]; exact ⟨rfl, hrd, hfr⟩
      clear hrd hfr hG
      go_wp2_with fail
      go_ret2
      exact hfin

def RGGPost (w : World) (B q : Nat) (lo : Option Addr) (lcap M T p : Nat) (e : Ending) (w' : World) : Prop := e = .returned (.tuple #[.int .u64 ((getG M T p).1 : Int), .int .i64 (getG M T p).2.1]) ∧ Rf w' B q lo lcap M T (getG M T p).2.2 ∧ Fr (fun b => b = q) w w'
theorem powerI (ki : Int) (k : Nat) (hki : ki = k) (hk : k ≤ 31) (w : World) : Calls Try.prog 82 #[.int .i64 ki] w fun e w' => e = .returned (.int .i64 ((2 ^ k : Nat) : Int)) ∧ w = w' := by
  subst hki
  generalize hy : 2 ^ k = y
  have HY := hid hy
  clear hy
  go_enter Try.func82, Try.ntmps82
  go_wp2_with fail
  go_loopg [3, 4] k (fun g x i wr => ∃ j : Nat, j ≤ k ∧ g = k - j ∧ x = .int .i64 ((2 ^ j : Nat) : Int) ∧ i = .int .i64 j ∧ w = wr)
  case atStart => exact ⟨0, Nat.zero_le _, rfl, rfl, rfl, rfl⟩
  case round =>
    obtain ⟨j, hj, hg, rfl, rfl, rfl⟩ := hrel
    have HG := hid hg
    clear hg
    have hp : 2 ^ j ≤ 2 ^ 31 := Nat.pow_le_pow_right (by decide) (by omega)
    have HN : Hid (2 ^ (j + 1) = 2 ^ j * 2) := hid (Nat.pow_succ _ _)
    generalize hxx : 2 ^ j = x at *
    have HXX := hid hxx
    clear hxx
    by_cases hlt : j < k
    · have g1 : (j : Int) < (k : Int) := by omega
      have g2 : (j : Int) < 62 := by omega
      have g3 : (x : Int) ≤ 2147483648 := by omega
      go_wp2_with fail
      go_roundg (k - (j + 1))
      case measure => rw [HG.out]; omega
      case rel => exact ⟨j + 1, by omega, rfl, congrArg (Value.int .i64) (by rw [HN.out]; omega), by go_num, rfl⟩
    · have g1 : ¬ (j : Int) < (k : Int) := by omega
      obtain rfl : j = k := by omega
      go_wp2_with fail
      go_ret
      exact ⟨congrArg (fun z : Nat => Ending.returned (.int .i64 (z : Int))) (HXX.out.symm.trans HY.out), rfl⟩

set_option maxHeartbeats 800000 in
theorem rggamma_any {w : World} {B q : Nat} {lo : Option Addr} {lcap M T p : Nat} (h : Rf w B q lo lcap M T p) (hp : p ≤ 8 * T) (hT : T ≤ 1048576) : Calls Try.prog 56 #[.pointer (some ⟨q, 0, none⟩)] w (RGGPost w B q lo lcap M T p) := by
  go_enter Try.func56, Try.ntmps56
  go_wp2_with fail
  go_loopg [4] 32 (fun m i wr => ∃ z : Nat, z ≤ 32 ∧ m = 32 - z ∧ i = .int .i64 z ∧ p + z ≤ 8 * T ∧ getG M T p = gG M T p (32 - z) z ∧ Rf wr B q lo lcap M T (p + z) ∧ Fr (fun b => b = q) w wr)
  case atStart => exact ⟨0, by decide, rfl, rfl, hp, rfl, h, Fr.refl _ _⟩
  case round =>
    obtain ⟨z, hz, hg, rfl, hpz, hG, hrd, hfr⟩ := hrel
    have HG := hid hg
    clear hg h
    by_cases hlt : z < 32
    · have hlt2 : (z : Int) < 32 := by omega
      have hget := rget_n hrd hpz hT 1 (by decide)
      unfold RGetNPost at hget
      rw [show 32 - z = (31 - z) + 1 from by omega] at hG
      by_cases h1 : 8 * T < p + z + 1
      · rw [getN_end h1] at hget
        have hG1 : getG M T p = (0, 10, p + z) := by rw [hG]; exact if_pos h1
        have hfin : ∀ w', Rf w' B q lo lcap M T (p + z) → Fr (fun b => b = q) w w' → RGGPost w B q lo lcap M T p (.returned (.tuple #[.int .u64 ((0 : Nat) : Int), .int .i64 10])) w' := fun w' hr hf => by unfold RGGPost; rw [hG1]; exact ⟨rfl, hr, hf⟩
        have HF := hid hfin
        have HGT := hid hget
        clear hget hG hG1 hrd hfin
        go_wp2_with fail
        refine HGT.out.mono ?_
        rintro e w2 ⟨rfl, hr2, hf2⟩
        have hfi := HF.out w2 hr2 (hfr.trans hf2)
        clear hr2 hf2
        go_wp2_with fail
        go_ret2
        exact hfi
      · rw [getN_ok h1] at hget
        by_cases hb : seg M (8 * T) (p + z) 1 = 1
        · have hG1 : getG M T p = behG M T (p + z + 1) z := by rw [hG]; show (if _ then _ else if _ then _ else _) = _; rw [if_neg h1, if_pos hb]
          rw [hb] at hget
          have hgt2 := fun w' (hr : Rf w' B q lo lcap M T (p + z + 1)) => rget_n hr (by omega) hT z (by omega)
          have HPW := hid (powerI (z : Int) z rfl (by omega))
          by_cases h2 : 8 * T < p + z + 1 + z
          · have hbe : behG M T (p + z + 1) z = (0, 10, p + z + 1) := if_pos h2
            rw [hbe] at hG1
            unfold RGetNPost at hgt2
            rw [getN_end h2] at hgt2
            have hfin : ∀ w', Rf w' B q lo lcap M T (p + z + 1) → Fr (fun b => b = q) w w' → RGGPost w B q lo lcap M T p (.returned (.tuple #[.int .u64 ((0 : Nat) : Int), .int .i64 10])) w' := fun w' hr hf => by unfold RGGPost; rw [hG1]; exact ⟨rfl, hr, hf⟩
            have HF := hid hfin
            have HGT := hid hget
            have HG2 := hid hgt2
            clear hget hG hG1 hrd hfin hgt2 hb hbe
            go_wp2_with fail
            refine HGT.out.mono ?_
            rintro e w2 ⟨rfl, hr2, hf2⟩
            go_wp2_with fail
            refine (HG2.out w2 hr2).mono ?_
            rintro e w3 ⟨rfl, hr3, hf3⟩
            have hfi := HF.out w3 hr3 ((hfr.trans hf2).trans hf3)
            clear hr2 hf2 hr3 hf3
            go_wp2_with fail
            go_ret2
            exact hfi
          · have hbe : behG M T (p + z + 1) z = (2 ^ z + seg M (8 * T) (p + z + 1) z, 0, p + z + 1 + z) := if_neg h2
            rw [hbe] at hG1
            unfold RGetNPost at hgt2
            rw [getN_ok h2] at hgt2
            have hsl := seg_lt M (8 * T) (p + z + 1) z
            have hpb : 2 ^ z ≤ 2 ^ 31 := Nat.pow_le_pow_right (by decide) (by omega)
            have hfin : ∀ w', Rf w' B q lo lcap M T (p + z + 1 + z) → Fr (fun b => b = q) w w' → RGGPost w B q lo lcap M T p (.returned (.tuple #[.int .u64 ((2 ^ z + seg M (8 * T) (p + z + 1) z : Nat) : Int), .int .i64 0])) w' := fun w' hr hf => by unfold RGGPost; rw [hG1]; exact ⟨rfl, hr, hf⟩
            generalize seg M (8 * T) (p + z + 1) z = v at *
            generalize 2 ^ z = y at *
            have HF := hid hfin
            have HGT := hid hget
            have HG2 := hid hgt2
            clear hget hG hG1 hrd hfin hgt2 hb hbe
            go_wp2_with fail
            refine HGT.out.mono ?_
            rintro e w2 ⟨rfl, hr2, hf2⟩
            go_wp2_with fail
            refine (HG2.out w2 hr2).mono ?_
            rintro e w3 ⟨rfl, hr3, hf3⟩
            have hfi := HF.out w3 hr3 ((hfr.trans hf2).trans hf3)
            clear hr2 hf2 hr3 hf3
            go_wp2_with fail
            refine (HPW.out _).mono ?_
            rintro e w4 ⟨rfl, rfl⟩
            go_wp2_with fail
            go_ret2
            rw [show ((y + v : Nat) : Int) = (y : Int) + (v : Int) from by omega] at hfi
            exact hfi
        · have hG1 : getG M T p = gG M T p (31 - z) (z + 1) := by rw [hG]; show (if _ then _ else if _ then _ else _) = _; rw [if_neg h1, if_neg hb]
          have hbit := seg_lt M (8 * T) (p + z) 1
          obtain h0 : seg M (8 * T) (p + z) 1 = 0 := by omega
          rw [h0] at hget
          have HGT := hid hget
          have HG1 := hid hG1
          clear hget hG hG1 hrd hb hbit h0
          go_wp2_with fail
          refine HGT.out.mono ?_
          rintro e w2 ⟨rfl, hr2, hf2⟩
          have hf3 := hfr.trans hf2
          clear hf2
          go_wp2_with fail
          go_roundg (32 - (z + 1))
          case measure => rw [HG.out]; omega
          case rel => exact ⟨z + 1, by omega, rfl, by go_num, by omega, by rw [HG1.out, show 32 - (z + 1) = 31 - z from by omega], hr2, hf3⟩
    · have hge : ¬ (z : Int) < 32 := by omega
      obtain rfl : z = 32 := by omega
      have hfin : RGGPost w B q lo lcap M T p (.returned (.tuple #[.int .u64 ((0 : Nat) : Int), .int .i64 12])) wr := by unfold RGGPost; rw [hG]; exact ⟨rfl, hrd, hfr⟩
      clear hrd hfr hG
      go_wp2_with fail
      go_ret2
      exact hfin

/-- A gamma code among bits is read as its number. -/
theorem gamma_of_code {M T p v : Nat} (h : hg v) (hT : p + gl v ≤ 8 * T) (hs : seg M (8 * T) p (gl v) = v) : getG M T p = (v, 0, p + gl v) := by
  obtain ⟨e1, e2, e3, e4, e5, e6⟩ := gl_ok h
  rw [e1] at hT hs ⊢
  have hz : ∀ z, z < Lib.bitLen v - 1 → seg M (8 * T) (p + z) 1 = 0 := fun z hz => by
    rw [seg_sub M (8 * T) p (2 * Lib.bitLen v - 1) z 1 (by omega) (by omega), hs]
    have : v < 2 ^ (2 * Lib.bitLen v - 1 - z - 1) := Nat.lt_of_lt_of_le e6 (Nat.pow_le_pow_right (by decide) (by omega))
    rw [Nat.div_eq_of_lt this]
  have ho : seg M (8 * T) (p + (Lib.bitLen v - 1)) 1 = 1 := by
    rw [seg_sub M (8 * T) p (2 * Lib.bitLen v - 1) (Lib.bitLen v - 1) 1 (by omega) (by omega), hs]
    rw [show 2 * Lib.bitLen v - 1 - (Lib.bitLen v - 1) - 1 = Lib.bitLen v - 1 from by omega]
    have e7 : 2 ^ Lib.bitLen v = 2 * 2 ^ (Lib.bitLen v - 1) := by rw [← Nat.pow_succ', show (Lib.bitLen v - 1).succ = Lib.bitLen v from by omega]
    have : v / 2 ^ (Lib.bitLen v - 1) = 1 := by
      rw [Nat.div_eq_iff (Nat.two_pow_pos _)]; omega
    rw [this]
  have hr : seg M (8 * T) (p + (Lib.bitLen v - 1 + 1)) (Lib.bitLen v - 1) = v - 2 ^ (Lib.bitLen v - 1) := by
    rw [seg_sub M (8 * T) p (2 * Lib.bitLen v - 1) (Lib.bitLen v - 1 + 1) (Lib.bitLen v - 1) (by omega) (by omega), hs]
    rw [show 2 * Lib.bitLen v - 1 - (Lib.bitLen v - 1 + 1) - (Lib.bitLen v - 1) = 0 from by omega, Nat.pow_zero, Nat.div_one]
    have e7 : 2 ^ Lib.bitLen v = 2 * 2 ^ (Lib.bitLen v - 1) := by rw [← Nat.pow_succ', show (Lib.bitLen v - 1).succ = Lib.bitLen v from by omega]
    rw [Nat.mod_eq_sub_mod e5, Nat.mod_eq_of_lt (by omega)]
  generalize Lib.bitLen v = n at *
  have key : ∀ z, z ≤ n - 1 → getG M T p = gG M T p (32 - z) z := by
    intro z
    induction z with
    | zero => intro _; rfl
    | succ z ih =>
      intro hzn
      rw [ih (by omega), show 32 - z = (32 - (z + 1)) + 1 from by omega]
      show (if _ then _ else if _ then _ else _) = _
      rw [if_neg (by omega), if_neg (by rw [hz z (by omega)]; decide)]
  rw [key (n - 1) (Nat.le_refl _), show 32 - (n - 1) = (32 - n) + 1 from by omega]
  show (if _ then _ else if _ then _ else _) = _
  rw [if_neg (by omega), if_pos ho]
  unfold behG
  rw [if_neg (by omega), show p + (n - 1) + 1 = p + (n - 1 + 1) from by omega, hr]
  simp only [Prod.mk.injEq, true_and]
  omega
theorem gamma_own {v : Nat} (h : hg v) : getG (pad v (gl v)) ((gl v + 7) / 8) 0 = (v, 0, gl v) := by
  have := gamma_of_code (M := pad v (gl v)) (T := (gl v + 7) / 8) (p := 0) h (by omega) (by
    rw [seg_pad _ _ _ _ (by omega)]
    unfold seg
    rw [show gl v - 0 - gl v = 0 from by omega, Nat.pow_zero, Nat.div_one, Nat.mod_eq_of_lt (gl_ok h).2.2.2.1])
  rwa [Nat.zero_add] at this
end Go.Proofs.Ytleamamecgmmjaa.Runs
