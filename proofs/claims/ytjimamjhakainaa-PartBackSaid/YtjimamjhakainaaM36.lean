/- GetGamma of runs, and the document's; the document's Gamma. Conditions: fewer than 2^20 bytes. -/
import Derived.Test.YtjimamjhakainaaM15
import Derived.Test.YtjimamjhakainaaM17
import Derived.Test.YtjimamjhakainaaM35
import Derived.Test.YtjimamjhakainaaM34
import Derived.Deep.RegionLaw
import Derived.Test.YtjimamjhakainaaM16
import Derived.Test.YtjimamjhakainaaM18
namespace Go.Proofs.Ytjimamjhakainaa.Runs
open Go.RowKit Bit Rice

/-- What comes behind a gamma code's first bit 1. -/
def behG (M T p n : Nat) : Nat × Int × Nat := if 8 * T < p + n then (0, 10, p) else (2 ^ n + seg M (8 * T) p n, 0, p + n)
/-- What GetGamma answers, and where it leads, behind z bits 0. -/
def gG (M T p : Nat) : Nat → Nat → Nat × Int × Nat
  | 0, z => (0, 12, p + z)
  | r + 1, z => if 8 * T < p + z + 1 then (0, 10, p + z) else if seg M (8 * T) (p + z) 1 = 1 then behG M T (p + z + 1) z else gG M T p r (z + 1)
def getG (M T p : Nat) : Nat × Int × Nat := gG M T p 32 0
theorem behG_le (M T p n : Nat) (hp : p ≤ 8 * T) : (behG M T p n).2.2 ≤ 8 * T := by
  unfold behG
  split
  · exact hp
  · show p + n ≤ _; omega
theorem gG_le (M T p : Nat) : ∀ r z, p + z ≤ 8 * T → (gG M T p r z).2.2 ≤ 8 * T
  | 0, z, h => h
  | r + 1, z, h => by
    show (if 8 * T < p + z + 1 then (0, 10, p + z) else if seg M (8 * T) (p + z) 1 = 1 then behG M T (p + z + 1) z else gG M T p r (z + 1) : Nat × Int × Nat).2.2 ≤ _
    split
    · exact h
    · split
      · exact behG_le _ _ _ _ (by omega)
      · exact gG_le M T p r (z + 1) (by omega)
theorem getG_le (M T p : Nat) (hp : p ≤ 8 * T) : (getG M T p).2.2 ≤ 8 * T := gG_le M T p 32 0 hp
theorem getG_ok {M T p v c : Nat} (h : getG M T p = (v, 0, c)) : 0 < v ∧ v < 4294967296 := by
  have key : ∀ r z, r + z = 32 → gG M T p r z = (v, 0, c) → 0 < v ∧ v < 4294967296 := by
    intro r
    induction r with
    | zero => intro z _ h; simp [gG] at h
    | succ r ih =>
      intro z hz h
      unfold gG at h
      split at h
      · simp at h
      · split at h
        · unfold behG at h
          split at h
          · simp at h
          · simp only [Prod.mk.injEq] at h
            have h1 := seg_lt M (8 * T) (p + z + 1) z
            have h2 := Nat.two_pow_pos z
            have h3 : 2 ^ (z + 1) ≤ 2 ^ 32 := Nat.pow_le_pow_right (by decide) (by omega)
            rw [Nat.pow_succ] at h3
            omega
        · exact ih (z + 1) (by omega) h
  exact key 32 0 rfl h

theorem get_nI {w : World} {q g M T p : Nat} (h : Rd w q g M T p) (hp : p ≤ 8 * T) (hT : T ≤ 1099511627776) (ni : Int) (n : Nat) (hni : ni = n) (hn : n ≤ 64) : Calls Try.prog 54 #[.pointer (some ⟨q, 0, none⟩), .int .i64 ni] w (GetNPost w q g M T p n) := by subst hni; exact get_n h hp hT n hn
def BPost (w : World) (q g M T p n : Nat) (e : Ending) (w' : World) : Prop := e = .returned (.tuple #[.int .u64 ((behG M T p n).1 : Int), .int .i64 (behG M T p n).2.1]) ∧ Rd w' q g M T (behG M T p n).2.2 ∧ Fr (fun b => b = q) w w'
theorem behind_any {w : World} {q g M T p : Nat} (h : Rd w q g M T p) (hp : p ≤ 8 * T) (hT : T ≤ 1099511627776) (n : Nat) (hn : n ≤ 31) : Calls Try.prog 130 #[.pointer (some ⟨q, 0, none⟩), .int .i64 (n : Int)] w (BPost w q g M T p n) := by
  unfold BPost
  have hg := get_n h hp hT n (by omega)
  unfold GetNPost at hg
  clear h
  by_cases h1 : 8 * T < p + n
  · rw [getN_end h1] at hg
    rw [show behG M T p n = (0, 10, p) from if_pos h1]
    have HG := hid hg
    clear hg
    go_enter Try.func130, Try.ntmps130
    go_wp2_with fail
    refine HG.out.mono ?_
    rintro e w2 ⟨rfl, hr2, hf2⟩
    go_wp2_with fail
    go_ret2
    exact ⟨rfl, hr2, hf2⟩
  · rw [getN_ok h1] at hg
    rw [show behG M T p n = (2 ^ n + seg M (8 * T) p n, 0, p + n) from if_neg h1]
    have hsl := seg_lt M (8 * T) p n
    have hpb : 2 ^ n ≤ 2 ^ 31 := Nat.pow_le_pow_right (by decide) hn
    generalize seg M (8 * T) p n = v at *
    have hsh := shl_or 1 v n hsl (by omega)
    rw [Nat.one_mul] at hsh
    have HSH := hid hsh
    have HG := hid hg
    clear hg hsh hsl hpb
    go_enter Try.func130, Try.ntmps130
    go_wp2_with fail
    refine HG.out.mono ?_
    rintro e w2 ⟨rfl, hr2, hf2⟩
    go_wp2_with fail
    go_ret2
    have hs2 := HSH.out
    simp only [Int.natCast_one, Int.one_mul] at hs2
    exact ⟨congrArg (fun z : Int => Ending.returned (.tuple #[.int .u64 z, .int .i64 0])) hs2, hr2, hf2⟩

def GGPost (w : World) (q g M T p : Nat) (e : Ending) (w' : World) : Prop := e = .returned (.tuple #[.int .u64 ((getG M T p).1 : Int), .int .i64 (getG M T p).2.1]) ∧ Rd w' q g M T (getG M T p).2.2 ∧ Fr (fun b => b = q) w w'
set_option maxHeartbeats 800000 in
theorem ggamma_any {w : World} {q g M T p : Nat} (h : Rd w q g M T p) (hp : p ≤ 8 * T) (hT : T ≤ 1099511627776) : Calls Try.prog 129 #[.pointer (some ⟨q, 0, none⟩)] w (GGPost w q g M T p) := by
  go_enter Try.func129, Try.ntmps129
  go_wp2_with fail
  go_loopg [9] 32 (fun m i wr => ∃ z : Nat, z ≤ 32 ∧ m = 32 - z ∧ i = .int .i64 z ∧ p + z ≤ 8 * T ∧ getG M T p = gG M T p (32 - z) z ∧ Rd wr q g M T (p + z) ∧ Fr (fun b => b = q) w wr)
  case atStart => exact ⟨0, by decide, rfl, rfl, hp, rfl, h, Fr.refl _ _⟩
  case round =>
    obtain ⟨z, hz, hg, rfl, hpz, hG, hrd, hfr⟩ := hrel
    have HG := hid hg
    clear hg h
    by_cases hlt : z < 32
    · have hlt2 : (z : Int) < 32 := by omega
      have hget := get_n hrd hpz hT 1 (by decide)
      unfold GetNPost at hget
      rw [show 32 - z = (31 - z) + 1 from by omega] at hG
      by_cases h1 : 8 * T < p + z + 1
      · rw [getN_end h1] at hget
        have hG1 : getG M T p = (0, 10, p + z) := by rw [hG]; exact if_pos h1
        have hfin : ∀ w', Rd w' q g M T (p + z) → Fr (fun b => b = q) w w' → GGPost w q g M T p (.returned (.tuple #[.int .u64 ((0 : Nat) : Int), .int .i64 10])) w' := fun w' hr hf => by unfold GGPost; rw [hG1]; exact ⟨rfl, hr, hf⟩
        have HF := hid hfin
        have HGT := hid hget
        clear hget hG hG1 hrd hfin
        go_wp2_with fail
        refine HGT.out.mono ?_
        rintro e w2 ⟨rfl, hr2, hf2⟩
        have hfi := HF.out w2 hr2 (hfr.trans hf2)
        clear hr2 hf2
        go_wp2_with fail
        go_ret2
        exact hfi
      · rw [getN_ok h1] at hget
        by_cases hb : seg M (8 * T) (p + z) 1 = 1
        · have hG1 : getG M T p = behG M T (p + z + 1) z := by rw [hG]; show (if _ then _ else if _ then _ else _) = _; rw [if_neg h1, if_pos hb]
          rw [hb] at hget
          have hbh := fun w' (hr : Rd w' q g M T (p + z + 1)) => behind_any hr (by omega) hT z (by omega)
          have hfin : ∀ w' w'', Fr (fun b => b = q) w w' → ∀ e, BPost w' q g M T (p + z + 1) z e w'' → GGPost w q g M T p e w'' := fun w' w'' hf e hb => by unfold GGPost; rw [hG1]; exact ⟨hb.1, hb.2.1, hf.trans hb.2.2⟩
          have HF := hid hfin
          have HGT := hid hget
          have HBH := hid hbh
          clear hget hG hG1 hrd hfin hbh hb
          go_wp2_with fail
          refine HGT.out.mono ?_
          rintro e w2 ⟨rfl, hr2, hf2⟩
          go_wp2_with fail
          refine (HBH.out w2 hr2).mono ?_
          rintro e w3 hbp
          have hfi := HF.out w2 w3 (hfr.trans hf2) e hbp
          obtain ⟨rfl, hr3, hf3⟩ := hbp
          clear hr2 hf2 hr3 hf3
          go_wp2_with fail
          go_ret2
          exact hfi
        · have hG1 : getG M T p = gG M T p (31 - z) (z + 1) := by rw [hG]; show (if _ then _ else if _ then _ else _) = _; rw [if_neg h1, if_neg hb]
          have hbit := seg_lt M (8 * T) (p + z) 1
          obtain h0 : seg M (8 * T) (p + z) 1 = 0 := by omega
          rw [h0] at hget
          have HGT := hid hget
          have HG1 := hid hG1
          clear hget hG hG1 hrd hb hbit h0
          go_wp2_with fail
          refine HGT.out.mono ?_
          rintro e w2 ⟨rfl, hr2, hf2⟩
          have hf3 := hfr.trans hf2
          clear hf2
          go_wp2_with fail
          go_roundg (32 - (z + 1))
          case measure => rw [HG.out]; omega
          case rel => exact ⟨z + 1, by omega, rfl, by go_num, by omega, by rw [HG1.out, show 32 - (z + 1) = 31 - z from by omega], hr2, hf3⟩
    · have hge : ¬ (z : Int) < 32 := by omega
      obtain rfl : z = 32 := by omega
      have hfin : GGPost w q g M T p (.returned (.tuple #[.int .u64 ((0 : Nat) : Int), .int .i64 12])) wr := by unfold GGPost; rw [hG]; exact ⟨rfl, hrd, hfr⟩
      clear hrd hfr hG
      go_wp2_with fail
      go_ret2
      exact hfin

def RGGPost (w : World) (B q : Nat) (lo : Option Addr) (lcap M T p : Nat) (e : Ending) (w' : World) : Prop := e = .returned (.tuple #[.int .u64 ((getG M T p).1 : Int), .int .i64 (getG M T p).2.1]) ∧ Rf w' B q lo lcap M T (getG M T p).2.2 ∧ Fr (fun b => b = q) w w'
theorem powerI (ki : Int) (k : Nat) (hki : ki = k) (hk : k ≤ 31) (w : World) : Calls Try.prog 43 #[.int .i64 ki] w fun e w' => e = .returned (.int .i64 ((2 ^ k : Nat) : Int)) ∧ w = w' := by
  subst hki
  generalize hy : 2 ^ k = y
  have HY := hid hy
  clear hy
  go_enter Try.func43, Try.ntmps43
  go_wp2_with fail
  go_loopg [3, 4] k (fun g x i wr => ∃ j : Nat, j ≤ k ∧ g = k - j ∧ x = .int .i64 ((2 ^ j : Nat) : Int) ∧ i = .int .i64 j ∧ w = wr)
  case atStart => exact ⟨0, Nat.zero_le _, rfl, rfl, rfl, rfl⟩
  case round =>
    obtain ⟨j, hj, hg, rfl, rfl, rfl⟩ := hrel
    have HG := hid hg
    clear hg
    have hp : 2 ^ j ≤ 2 ^ 31 := Nat.pow_le_pow_right (by decide) (by omega)
    have HN : Hid (2 ^ (j + 1) = 2 ^ j * 2) := hid (Nat.pow_succ _ _)
    generalize hxx : 2 ^ j = x at *
    have HXX := hid hxx
    clear hxx
    by_cases hlt : j < k
    · have g1 : (j : Int) < (k : Int) := by omega
      have g2 : (j : Int) < 62 := by omega
      have g3 : (x : Int) ≤ 2147483648 := by omega
      go_wp2_with fail
      go_roundg (k - (j + 1))
      case measure => rw [HG.out]; omega
      case rel => exact ⟨j + 1, by omega, rfl, congrArg (Value.int .i64) (by rw [HN.out]; omega), by go_num, rfl⟩
    · have g1 : ¬ (j : Int) < (k : Int) := by omega
      obtain rfl : j = k := by omega
      go_wp2_with fail
      go_ret
      exact ⟨congrArg (fun z : Nat => Ending.returned (.int .i64 (z : Int))) (HXX.out.symm.trans HY.out), rfl⟩

/-- A gamma code among bits is read as its number. -/
theorem gamma_of_code {M T p v : Nat} (h : hg v) (hT : p + gl v ≤ 8 * T) (hs : seg M (8 * T) p (gl v) = v) : getG M T p = (v, 0, p + gl v) := by
  obtain ⟨e1, e2, e3, e4, e5, e6⟩ := gl_ok h
  rw [e1] at hT hs ⊢
  have hz : ∀ z, z < Lib.bitLen v - 1 → seg M (8 * T) (p + z) 1 = 0 := fun z hz => by
    rw [seg_sub M (8 * T) p (2 * Lib.bitLen v - 1) z 1 (by omega) (by omega), hs]
    have : v < 2 ^ (2 * Lib.bitLen v - 1 - z - 1) := Nat.lt_of_lt_of_le e6 (Nat.pow_le_pow_right (by decide) (by omega))
    rw [Nat.div_eq_of_lt this]
  have ho : seg M (8 * T) (p + (Lib.bitLen v - 1)) 1 = 1 := by
    rw [seg_sub M (8 * T) p (2 * Lib.bitLen v - 1) (Lib.bitLen v - 1) 1 (by omega) (by omega), hs]
    rw [show 2 * Lib.bitLen v - 1 - (Lib.bitLen v - 1) - 1 = Lib.bitLen v - 1 from by omega]
    have e7 : 2 ^ Lib.bitLen v = 2 * 2 ^ (Lib.bitLen v - 1) := by rw [← Nat.pow_succ', show (Lib.bitLen v - 1).succ = Lib.bitLen v from by omega]
    have : v / 2 ^ (Lib.bitLen v - 1) = 1 := by
      rw [Nat.div_eq_iff (Nat.two_pow_pos _)]; omega
    rw [this]
  have hr : seg M (8 * T) (p + (Lib.bitLen v - 1 + 1)) (Lib.bitLen v - 1) = v - 2 ^ (Lib.bitLen v - 1) := by
    rw [seg_sub M (8 * T) p (2 * Lib.bitLen v - 1) (Lib.bitLen v - 1 + 1) (Lib.bitLen v - 1) (by omega) (by omega), hs]
    rw [show 2 * Lib.bitLen v - 1 - (Lib.bitLen v - 1 + 1) - (Lib.bitLen v - 1) = 0 from by omega, Nat.pow_zero, Nat.div_one]
    have e7 : 2 ^ Lib.bitLen v = 2 * 2 ^ (Lib.bitLen v - 1) := by rw [← Nat.pow_succ', show (Lib.bitLen v - 1).succ = Lib.bitLen v from by omega]
    rw [Nat.mod_eq_sub_mod e5, Nat.mod_eq_of_lt (by omega)]
  generalize Lib.bitLen v = n at *
  have key : ∀ z, z ≤ n - 1 → getG M T p = gG M T p (32 - z) z := by
    intro z
    induction z with
    | zero => intro _; rfl
    | succ z ih =>
      intro hzn
      rw [ih (by omega), show 32 - z = (32 - (z + 1)) + 1 from by omega]
      show (if _ then _ else if _ then _ else _) = _
      rw [if_neg (by omega), if_neg (by rw [hz z (by omega)]; decide)]
  rw [key (n - 1) (Nat.le_refl _), show 32 - (n - 1) = (32 - n) + 1 from by omega]
  show (if _ then _ else if _ then _ else _) = _
  rw [if_neg (by omega), if_pos ho]
  unfold behG
  rw [if_neg (by omega), show p + (n - 1) + 1 = p + (n - 1 + 1) from by omega, hr]
  simp only [Prod.mk.injEq, true_and]
  omega
theorem gamma_own {v : Nat} (h : hg v) : getG (pad v (gl v)) ((gl v + 7) / 8) 0 = (v, 0, gl v) := by
  have := gamma_of_code (M := pad v (gl v)) (T := (gl v + 7) / 8) (p := 0) h (by omega) (by
    rw [seg_pad _ _ _ _ (by omega)]
    unfold seg
    rw [show gl v - 0 - gl v = 0 from by omega, Nat.pow_zero, Nat.div_one, Nat.mod_eq_of_lt (gl_ok h).2.2.2.1])
  rwa [Nat.zero_add] at this
end Go.Proofs.Ytjimamjhakainaa.Runs
/- An append to a list of the call's own, as a step of a region that draws its order; the document's Gamma. Conditions: those that each lemma names. -/
namespace Go.Proofs.Ytjimamjhakainaa.Runs
open Go.RowKit Bit Rice

theorem run_append_list {P : Program} (w : World) (t ty : TypeId)
    (base : Nat) (e : TypeId) (i : TypeInfo) (z : Value) (bytes : Nat) (h1 : P.underlying t = some (.slice e)) (h2 : P.info? e = some i) (h3 : i.zero = some z)
    (h4 : i.size = 1) (h5 : i.bytes = bytes) (h6 : z.cells.size = 1)
    (ao : Option Addr) (n cap : Nat) (xs : List Value) (hown : w.ownsRow base e 1 (.slice ao n cap) n xs)
    (bo : Option Addr) (m c : Nat) (news : List Value) (hl : news.length = m) (hnone : bo = none → m = 0 ∧ c = 0) (hc : ∀ ad, bo = some ad → ∀ j u, news[j]? = some u → w.cell? (ad.add j) = some u) (hu : ∀ u ∈ news, u.oneCell' = true)
    (b1 : n + m ≤ maxLen) (b2 : (n + m) * bytes ≤ 140737488355328) (hbase : base ≤ w.heap.size) :
    ∃ ao' cap' w', (Builtin.append_ #[t, t] ty #[.slice ao n cap, .slice bo m c]).run P w = .ok (.slice ao' (n + m) cap') w' ∧
      w'.ownsRow base e 1 (.slice ao' (n + m) cap') (n + m) (xs ++ news) ∧ w.grownBy w' (blk ao) := by
  cases bo with
  | none =>
    obtain ⟨rfl, rfl⟩ := hnone rfl
    obtain rfl : news = [] := List.eq_nil_of_length_eq_zero hl
    exact ⟨ao, cap, w, run_append_owned_none w base t ty e i 1 h1 h2 _ n xs hown, by simpa using hown, World.grownBy.refl _ _⟩
  | some ad =>
    obtain ⟨v', w', hrun, r1, r2, _⟩ := run_append_own (P := P) w base t ty e i z 1 bytes h1 h2 h3 h4 h5 h6 (by decide) (.slice ao n cap) n xs hown ad m c news (by omega) (hc ad rfl) hu b1 b2 hbase
    rw [ownBlock_slice] at r2
    obtain ⟨ao', cap', rfl⟩ : ∃ ao' cap', v' = .slice ao' (n + m) cap' := by
      rcases r1.2 with ⟨hv, h0⟩ | ⟨g, c', cur, hv, _⟩
      · exact ⟨none, 0, by rw [hv, h0]⟩
      · exact ⟨_, _, hv⟩
    exact ⟨ao', cap', w', hrun, r1, r2⟩

theorem step_append_list {P : Program} {ops : Array Oper} {o : Oper} {a : Act} {K : Act → World → Prop} {Q : Exit → Act → World → Prop} {w : World} {E : Prop} (hgd : o.guard = none) (s x : Operand) (t : TypeId)
    (hop : o.op = .call { callee := .builtin .append, args := #[s, x], argTypes := #[t, t] })
    (base : Nat) (e : TypeId) (i : TypeInfo) (z : Value) (bytes : Nat) (h1 : P.underlying t = some (.slice e)) (h2 : P.info? e = some i) (h3 : i.zero = some z)
    (h4 : i.size = 1) (h5 : i.bytes = bytes) (h6 : z.cells.size = 1)
    (ao : Option Addr) (n cap : Nat) (xs : List Value) (hs : a.eval s = .slice ao n cap) (hown : w.ownsRow base e 1 (.slice ao n cap) n xs)
    (bo : Option Addr) (m c : Nat) (news : List Value) (hx : a.eval x = .slice bo m c) (hl : news.length = m) (hnone : bo = none → m = 0 ∧ c = 0) (hc : ∀ ad, bo = some ad → ∀ j u, news[j]? = some u → w.cell? (ad.add j) = some u) (hu : ∀ u ∈ news, u.oneCell' = true)
    (b1 : n + m ≤ maxLen) (b2 : (n + m) * bytes ≤ 140737488355328) (hbase : base ≤ w.heap.size)
    (hK : ∀ ao' cap' w', w'.ownsRow base e 1 (.slice ao' (n + m) cap') (n + m) (xs ++ news) → w.grownBy w' (blk ao) → K (a.put o.dst (.slice ao' (n + m) cap')) w') :
    if Region.wanted o (yielded ops a.tmps) = true then Oper.wp P o a w K Q else E := by
  have hw : Region.wanted o (yielded ops a.tmps) = true := by simp [Region.wanted, hgd]
  rw [if_pos hw]
  obtain ⟨ao', cap', w', hrun, r1, r2⟩ := run_append_list (P := P) w t o.type base e i z bytes h1 h2 h3 h4 h5 h6 ao n cap xs hown bo m c news hl hnone hc hu b1 b2 hbase
  unfold Oper.wp
  simp [execOp, hop, resolve, invoke, builtin, hs, hx, hrun, Result.andThen]
  exact hK ao' cap' w' r1 r2

theorem Lst.base_le {w : World} {B B' : Nat} {lo : Option Addr} {lcap N L : Nat} (h : Lst w B lo lcap N L) (hB : B' ≤ B) : Lst w B' lo lcap N L :=
  ⟨h.1, h.2.imp id fun ⟨g, c, cur, h1, h2, h3⟩ => ⟨g, c, cur, h1, Nat.le_trans hB h2, h3⟩⟩
theorem bitl_zero (m : Nat) : bitl 0 m = List.replicate m (.int .i64 0) := by
  unfold bitl
  apply List.ext_getElem
  · simp
  · intro i h1 h2
    simp [bitOf]
theorem own_zeros (w : World) (m : Nat) (hm : m ≤ 9223372036854775807) : (w.alloc (.cells (madeCells #[.int .i64 0] m) 3)).ownsRow w.heap.size 3 1 (.slice (some ⟨w.heap.size, 0, none⟩) m m) m (bitl 0 m) := by
  refine ⟨by rw [bitl_len, Nat.mul_one], .inr ⟨w.heap.size, m, _, rfl, Nat.le_refl _, heap_alloc_new w _, Nat.le_refl _, hm, by simp [size_madeCells], ?_⟩⟩
  rw [bitl_zero]
  apply List.ext_getElem
  · simp [size_madeCells]
  · intro i h1 h2
    simp [madeCells, Nat.mod_one]

theorem Nw.of_own {w w' : World} {lo : Option Addr} {lcap N L : Nat} (h : w'.ownsRow w.heap.size 3 1 (.slice lo L lcap) L (bitl N L)) (hb : Below w.heap.size w w') : Nw w w.heap.size lo lcap N L w' :=
  ⟨h, hb, fun g hg => (World.ownsRow.lt h g (by rw [ownBlock_slice]; exact hg)).1⟩

def gv (v : Nat) : Nat := if hg v then v else 0
theorem gv_ok {v : Nat} (h : hg v) : gv v = v := if_pos h
theorem gv_lt (v : Nat) : gv v < 2 ^ gl v := by
  by_cases h : hg v
  · rw [gv_ok h]; exact (gl_ok h).2.2.2.1
  · rw [gl_no h, show gv v = 0 from if_neg h]; decide

set_option maxHeartbeats 1600000 in
set_option maxRecDepth 100000 in
theorem rgamma_any (v : Nat) (hv : v < 18446744073709551616) (w : World) : Calls Try.prog 71 #[.int .u64 (v : Int)] w (CodePost w (gv v) (gl v)) := by
  by_cases h : hg v
  · obtain ⟨e1, e2, e3, e4, e5, e6⟩ := gl_ok h
    rw [gv_ok h, e1]
    obtain ⟨i0, hi, hz0, hz1, hz2⟩ := info_parts Try.info3
    have h0 : 0 < v := h.1
    have h1 : v < 4294967296 := h.2
    have g0 : ¬ (v : Int) < 1 := by omega
    have g1 : ¬ (4294967295 : Int) < (v : Int) := by omega
    have HW := hid (rwidth_any v hv)
    have HE6 := hid e6
    clear e1 e4 e5 e6 h
    generalize Lib.bitLen v = n at *
    have em : IntKind.i64.wrap ((n : Int) - 1) = ((n - 1 : Nat) : Int) := by rw [IntWalk.i64_in _ (by omega)]; omega
    have hmk : ∀ w, (Instr.makeSlice 22 (.int .i64 (IntKind.i64.wrap ((n : Int) - 1))) (.int .i64 (IntKind.i64.wrap ((n : Int) - 1)))).run Try.prog w = .ok (.slice (some ⟨w.heap.size, 0, none⟩) (n - 1) (n - 1)) (w.alloc (.cells (madeCells #[.int .i64 0] (n - 1)) 3)) := fun w => by
      rw [em]
      exact run_make_row' (P := Try.prog) 22 3 (.int .i64 0) 8 Try.underlying22 Try.info3 rfl .i64 .i64 (n - 1) (by omega) (by omega) w
    clear em
    go_enter Try.func71, Try.ntmps71
    go_wp2_with fail
    refine (HW.out w).mono ?_
    rintro e w1 ⟨rfl, rfl⟩
    go_wp2_with fail
    have hbd : Below w.heap.size w w.drew := ⟨rfl, rfl, rfl, Nat.le_refl _, fun _ _ => rfl⟩
    have hsd : w.drew.heap.size = w.heap.size := rfl
    go_region_law (first
      | (go_simp; go_at_call 40; (with_reducible refine (bits_any v n _ (by omega) hv).mono ?_); rintro e w5 ⟨rfl, hb5, hrow⟩; (try (have hrA : w5.rowIs (w.heap.size + 1) 3 n (fun i => .int .i64 (bitOf v n i : Int)) := by simpa using hrow)); (try (have hrB : w5.rowIs w.heap.size 3 n (fun i => .int .i64 (bitOf v n i : Int)) := hrow)); dsimp only)
      | (refine step_append_list (by rfl) (.tmp 14) (.tmp 17) 22 (by rfl) w.heap.size 3 i0 (.int .i64 0) 8 Try.underlying22 hi hz0 hz1 hz2 rfl (some ⟨w.heap.size, 0, none⟩) (n - 1) (n - 1) (bitl 0 (n - 1)) (by rfl)
            (Lst.upto (own_zeros w.drew (n - 1) (by omega)) hb5) (some ⟨w.heap.size + 1, 0, none⟩) n n (bitl v n) (by rfl) (bitl_len v n) (by simp) (fun ad had i u' hj => by
              cases had
              have hjm : i < n := by have := (List.getElem?_eq_some_iff.1 hj).1; simpa [bitl] using this
              rw [Addr.add_lit, Nat.zero_add, hrA.cell hjm, ← bitl_at v n i hjm]; exact hj) (bitl_one v n) (by unfold maxLen; omega) (by omega) (by have := hb5.size; simp at this; omega) ?_
         intro lo4 lcap4 w4 hown4 hg4)
      | (refine step_append_list (by rfl) (.tmp 14) (.tmp 17) 22 (by rfl) w.heap.size 3 i0 (.int .i64 0) 8 Try.underlying22 hi hz0 hz1 hz2 rfl (some ⟨w5.heap.size, 0, none⟩) (n - 1) (n - 1) (bitl 0 (n - 1)) (by rfl)
            (Lst.base_le (own_zeros w5 (n - 1) (by omega)) hb5.size) (some ⟨w.heap.size, 0, none⟩) n n (bitl v n) (by rfl) (bitl_len v n) (by simp) (fun ad had i u' hj => by
              cases had
              have hjm : i < n := by have := (List.getElem?_eq_some_iff.1 hj).1; simpa [bitl] using this
              rw [Addr.add_lit, Nat.zero_add, (hrB.alloc _).cell hjm, ← bitl_at v n i hjm]; exact hj) (bitl_one v n) (by unfold maxLen; omega) (by omega) (by have := hb5.size; simp at this ⊢; omega) ?_
         intro lo4 lcap4 w4 hown4 hg4))
    all_goals
      have hbw4 : Below w.heap.size w w4 := by
        first
          | exact ((hbd.alloc (by rw [hsd]; exact Nat.le_refl _) _).trans (hb5.mono (by simp))).grown hg4 (by have := hb5.size; simp at this; omega) (fun k hk => by simp [blk] at hk; omega)
          | exact ((hbd.trans (hb5.mono (Nat.le_refl _))).alloc hb5.size _).grown hg4 (by have := hb5.size; simp at this ⊢; omega) (fun k hk => by have := hb5.size; simp [blk] at this hk; omega)
      have hfin : CodePost w v (2 * n - 1) (.returned (.slice lo4 (n - 1 + n) lcap4)) w4 := by
        have e : n - 1 + n = 2 * n - 1 := by omega
        refine ⟨lo4, lcap4, by rw [e], Nw.of_own ?_ hbw4⟩
        have ho := hown4
        rw [← bitl_app 0 (n - 1) v n HE6.out, e, Nat.zero_mul, Nat.zero_add] at ho
        exact ho
      clear hown4 hg4 hbw4 hb5
      go_wp2_with fail
      go_ret
      exact hfin
  · rw [show gv v = 0 from if_neg h, gl_no h]
    have hn := nw_none w
    by_cases h0 : v = 0
    · subst h0
      clear h
      go_enter Try.func71, Try.ntmps71
      go_wp2_with fail
      go_ret
      exact ⟨none, 0, rfl, hn⟩
    · have g0 : ¬ (v : Int) < 1 := by omega
      have g1 : (4294967295 : Int) < (v : Int) := by unfold hg at h; omega
      clear h
      go_enter Try.func71, Try.ntmps71
      go_wp2_with fail
      go_ret
      exact ⟨none, 0, rfl, hn⟩
end Go.Proofs.Ytjimamjhakainaa.Runs
/- A writer and a list of bits side by side; RunsGammas' walk. Conditions: those of the memory's own form alone. -/
namespace Go.Proofs.Ytjimamjhakainaa.Runs
open Go.RowKit Bit Rice

theorem WrN.upto {w w' : World} {B p o : Nat} {ao : Option Addr} {cap N L : Nat} (h : WrN w B p o ao cap N L) (hb : Below w.heap.size w w') : WrN w' B p o ao cap N L := Wr.keep h (fr_of_below hb) (fun x => x) (fun _ _ x => x)
/-- A writer, the first block from w on, and a list of bits. -/
def Dw (w wr : World) (v : Value) (y c : Nat × Nat) : Prop := ∃ (wo : Option Addr) (wcap : Nat) (lo : Option Addr) (lcap : Nat), v = .slice lo c.2 lcap ∧
  WrN wr w.heap.size w.heap.size 0 wo wcap y.1 y.2 ∧ Lst wr w.heap.size lo lcap c.1 c.2 ∧ Below w.heap.size w wr
theorem Dw.below {w wr : World} {v : Value} {y c : Nat × Nat} (h : Dw w wr v y c) : Below w.heap.size w wr := by obtain ⟨_, _, _, _, _, _, _, hb⟩ := h; exact hb
theorem Dw.upto {w wr w' : World} {v : Value} {y c : Nat × Nat} (h : Dw w wr v y c) (hb : Below wr.heap.size wr w') : Dw w w' v y c := by
  obtain ⟨wo, wcap, lo, lcap, rfl, hw, hl, hb0⟩ := h
  exact ⟨wo, wcap, lo, lcap, rfl, WrN.upto hw hb, hl.upto hb, hb0.trans (hb.mono hb0.size)⟩
theorem Dw.drewN {w wr : World} {v : Value} {y c : Nat × Nat} (h : Dw w wr v y c) (n : Nat) : Dw w (wr.drewN n) v y c := h.upto ⟨rfl, rfl, rfl, Nat.le_refl _, fun _ _ => rfl⟩
theorem Dw.drew {w wr : World} {v : Value} {y c : Nat × Nat} (h : Dw w wr v y c) : Dw w wr.drew v y c := h.upto ⟨rfl, rfl, rfl, Nat.le_refl _, fun _ _ => rfl⟩
theorem dlen {w wr : World} {v : Value} {y c : Nat × Nat} (h : Dw w wr v y c) (hL : y.2 ≤ 7000000000000) : Calls Try.prog 22 #[.pointer (some ⟨w.heap.size, 0, none⟩)] wr fun e w' => e = .returned (.int .i64 (y.2 : Int)) ∧ Dw w w' v y c := by
  have h' := h
  obtain ⟨wo, wcap, lo, lcap, rfl, hw, _⟩ := h
  refine (len_any hw (by omega)).mono ?_
  rintro e w' ⟨rfl, nq, rfl⟩
  exact ⟨rfl, h'.drewN nq⟩
theorem dbytes {w wr : World} {v : Value} {y c : Nat × Nat} (h : Dw w wr v y c) (hL : y.2 ≤ 7000000000000) : Calls Try.prog 25 #[.pointer (some ⟨w.heap.size, 0, none⟩)] wr fun e w' =>
    e = .returned (.slice (some ⟨wr.heap.size, 0, none⟩) ((y.2 + 7) / 8) ((y.2 + 7) / 8)) ∧ Dw w w' v y c ∧ Row w' wr.heap.size y ∧ Below wr.heap.size wr w' := by
  have h' := h
  obtain ⟨wo, wcap, lo, lcap, rfl, hw, _⟩ := h
  refine (bytes_any hw (by omega)).mono ?_
  rintro e w' ⟨rfl, hb, hr⟩
  exact ⟨rfl, h'.upto hb, hr, hb⟩
theorem dbytes_l {w wr : World} {lo : Option Addr} {lcap L : Nat} {y c : Nat × Nat} (h : Dw w wr (.slice lo L lcap) y c) (hL : c.2 ≤ 1000000000000) : Calls Try.prog 26 #[.slice lo L lcap] wr fun e w' =>
    ∃ g, e = .returned (.slice (some ⟨g, 0, none⟩) ((c.2 + 7) / 8) ((c.2 + 7) / 8)) ∧ Dw w w' (.slice lo L lcap) y c ∧ Row w' g c ∧ Below wr.heap.size wr w' := by
  have h' := h
  obtain ⟨wo, wcap, lo1, lcap1, e, hw, hl, hb0⟩ := h
  cases e
  refine (rbytes_any wr w.heap.size lo lcap c.1 c.2 hl hb0.size (by omega)).mono ?_
  rintro e w' ⟨g, rfl, hb2, hr⟩
  exact ⟨g, rfl, h'.upto hb2, hr, hb2⟩
end Go.Proofs.Ytjimamjhakainaa.Runs
/- The document's Code of runs. Conditions: the parameter is one; the list is coded; at most 2^20 numbers. -/
namespace Go.Proofs.Ytjimamjhakainaa.Runs
open Go.RowKit Bit Rice

theorem rgammaI (xi : Int) (v : Nat) (hxi : xi = v) (h : hg v) (w : World) : Calls Try.prog 71 #[.int .u64 xi] w (CodePost w v (gl v)) := by
  subst hxi
  have := rgamma_any v (by unfold hg at h; omega) w
  rw [gv_ok h] at this
  exact this
theorem rcodeI (ui : Int) (u k : Nat) (hui : ui = u) (hk : k ≤ 30) (hu : coded u) (w : World) : Calls Try.prog 70 #[.int .u64 ui, .int .i64 (k : Int)] w (CodePost w (cod u k) (cost u k)) := by
  subst hui
  have := code_any u k w
  rw [show codI u k = cod u k from if_pos ⟨⟨by omega, by omega⟩, hu⟩] at this
  exact this
/-- The codes so far, as the document's loop has them. -/
def cst2 (I : Nat → Int) (k len j : Nat) : Nat × Nat := if j = len then cfin I k (0, 0) len else cgd I k (0, 0) j
theorem cst2_le (I : Nat → Int) (k len j : Nat) : (cst2 I k len j).2 ≤ 127 * len + 63 ∨ (cst2 I k len j).2 ≤ 127 * j := by
  unfold cst2
  split
  · have := cfin_le I k (0, 0) len; simp only at this; left; omega
  · have := cgd_le I k (0, 0) j; simp only at this; right; omega

set_option maxHeartbeats 3200000 in
set_option maxRecDepth 100000 in
theorem rrcode_any (w : World) (a : Option Addr) (len cap b off : Nat) (I : Nat → Int) (h : Is w a len cap b off I) (hlen : len ≤ 1048576) (k : Nat) (hk : k ≤ 30) (hz : allZ I len) :
    Calls Try.prog 42 #[.slice a len cap, .int .i64 (k : Int)] w (CodePost w (cfin I k (0, 0) len).1 (cfin I k (0, 0) len).2) := by
  obtain ⟨i0, hi, hz0, hz1, hz2⟩ := info_parts Try.info3
  have H := hid h
  have HZZ := hid hz
  have hn0 := nw_none w
  have h00 : cst2 I k len 0 = (0, 0) := by
    unfold cst2
    split
    · rename_i e; subst e; rfl
    · rfl
  have HS := hid h00
  clear h hz h00
  go_enter Try.func42, Try.ntmps42
  go_wp2_with fail
  go_loopg [5, 6, 7] len (fun g v n i wr => ∃ (j : Nat) (lo : Option Addr) (lcap : Nat), j ≤ len ∧ g = len - j ∧ v = .slice lo (cst2 I k len j).2 lcap ∧ n = .int .i64 (rn I j : Int) ∧ i = .int .i64 j ∧ Nw w w.heap.size lo lcap (cst2 I k len j).1 (cst2 I k len j).2 wr)
  case atStart => exact ⟨0, none, 0, Nat.zero_le _, rfl, by rw [HS.out], rfl, rfl, by rw [HS.out]; exact hn0⟩
  case round =>
    obtain ⟨j, lo, lcap, hj, hg, rfl, rfl, rfl, hn⟩ := hrel
    have HG := hid hg
    have hrl := rn_le I j
    clear hg hn0
    by_cases hlt : j < len
    · have hlt2 : (j : Int) < (len : Int) := by omega
      have e2 : cst2 I k len j = cgd I k (0, 0) j := if_neg (by omega)
      rw [e2] at hn ⊢
      have hcl := cgd_le I k (0, 0) j
      simp only [Nat.zero_add] at hcl
      have ck := (H.out.below hn.below H.out.lt).c j hlt
      by_cases h0 : I j = 0
      · rw [h0] at ck
        have hr1 : rn I (j + 1) = rn I j + 1 := if_pos h0
        have hc1 : cgd I k (0, 0) (j + 1) = cgd I k (0, 0) j := if_pos h0
        obtain rfl := H.out.addr (by omega)
        by_cases hlast : j + 1 = len
        · have g2 : ((j : Int) == (len : Int) - 1) = true := beq_iff_eq.2 (by omega)
          have e3 : cst2 I k len (j + 1) = gam (cgd I k (0, 0) j) (rn I j + 1 + 1) := by
            unfold cst2 cfin
            rw [if_pos hlast, ← hlast, hr1, hc1, if_pos (by omega)]
          have hgv : hg (rn I j + 1 + 1) := ⟨by omega, by omega⟩
          have HE := hid e3
          have HR := hid hr1
          have HLA := hid hlast
          have hj1 : j + 1 ≤ len := by omega
          clear hlast
          have HGM := hid fun xi (hx : xi = ((rn I j + 1 + 1 : Nat) : Int)) w => rgammaI xi (rn I j + 1 + 1) hx hgv w
          have hgl := gl_le (rn I j + 1 + 1)
          have HVL := hid (gl_ok hgv).2.2.2.1
          have hgam : gam (cgd I k (0, 0) j) (rn I j + 1 + 1) = ((cgd I k (0, 0) j).1 * 2 ^ gl (rn I j + 1 + 1) + (rn I j + 1 + 1), (cgd I k (0, 0) j).2 + gl (rn I j + 1 + 1)) := rfl
          rw [hgam] at HE
          clear e3 hr1 hc1 e2 h0 hgv hgam
          generalize gl (rn I j + 1 + 1) = gj at *
          generalize cgd I k (0, 0) j = r at *
          generalize rn I j = nj at *
          have hnb : nj ≤ 1048576 := by omega
          go_wp2_with fail
          refine Calls.mono (HGM.out _ ?hx wr) ?_
          case hx => first | omega | (simp only [IntKind.wrap_u64]; omega)
          rintro e w2 ⟨lo2, lcap2, rfl, hn2⟩
          have hn3 := hn.below' hn2.below
          have hsz : w.heap.size ≤ w2.heap.size := hn3.below.size
          go_wp2_with (at_builtin; go_must (refine wpList_append_list _ rfl (.tmp 26) (.tmp 30) 22 rfl w.heap.size 3 i0 (.int .i64 0) 8 Try.underlying22 hi hz0 hz1 hz2 rfl lo r.2 lcap (bitl r.1 r.2) rfl hn3.lst lo2 gj lcap2 (bitl (nj + 1 + 1) gj) rfl (bitl_len _ gj) hn2.lst.none' hn2.lst.cells (bitl_one _ gj) (by unfold maxLen; omega) (by omega) hsz ?_))
          intro lo4 lcap4 w4 hown4 hg4 hat4
          have hn4 := hn.app hn2.below HVL.out hown4 hg4 hat4
          have hst : Value.slice lo4 (r.2 + gj) lcap4 = .slice lo4 (cst2 I k len (j + 1)).2 lcap4 ∧ Nw w w.heap.size lo4 lcap4 (cst2 I k len (j + 1)).1 (cst2 I k len (j + 1)).2 w4 := by
            rw [HE.out]; exact ⟨rfl, hn4⟩
          have HST := hid hst
          clear hown4 hg4 hat4 hn hn3 hn2 hsz hst hn4 ck
          go_wp2_with fail
          go_roundg (len - (j + 1))
          case measure => rw [HG.out]; omega
          case rel => exact ⟨j + 1, lo4, lcap4, by omega, rfl, HST.out.1, by rw [HR.out]; go_num, by go_num, HST.out.2⟩
        · have g1 : ¬ (j : Int) = (len : Int) - 1 := by omega
          have g2 : ((j : Int) == (len : Int) - 1) = false := beq_eq_false_iff_ne.2 g1
          have e3 : cst2 I k len (j + 1) = cgd I k (0, 0) j := by
            unfold cst2
            rw [if_neg hlast, hc1]
          have HE := hid e3
          have HR := hid hr1
          clear e3 hr1 hc1 e2 h0 g1
          generalize cgd I k (0, 0) j = r at *
          generalize rn I j = nj at *
          go_wp2_with fail
          go_roundg (len - (j + 1))
          case measure => rw [HG.out]; omega
          case rel => exact ⟨j + 1, lo, lcap, by omega, rfl, by rw [HE.out], by rw [HR.out]; go_num, by go_num, by rw [HE.out]; exact hn⟩
      · have e0 : ((I j) == 0) = false := beq_eq_false_iff_ne.2 h0
        have hr1 : rn I (j + 1) = 0 := if_neg h0
        have hc1 : cgd I k (0, 0) (j + 1) = app (gam (cgd I k (0, 0) j) (rn I j + 1)) (cod (zg (I j) - 1) k) (cost (zg (I j) - 1) k) := if_neg h0
        have e3 : cst2 I k len (j + 1) = cgd I k (0, 0) (j + 1) := by
          unfold cst2 cfin
          split
          · rename_i e; rw [← e, hr1, if_neg (Nat.lt_irrefl _)]
          · rfl
        rw [hc1] at e3
        have hgv : hg (rn I j + 1) := ⟨by omega, by omega⟩
        have hcz : coded (zg (I j) - 1) := by have := HZZ.out j hlt; unfold coded at *; omega
        have hzp := zg_pos h0
        have hzl := zg_lt (H.out.ib j hlt)
        have HZ := hid fun w => rzig_any (I j) (H.out.ib j hlt) w
        have HGM := hid fun xi (hx : xi = ((rn I j + 1 : Nat) : Int)) w => rgammaI xi (rn I j + 1) hx hgv w
        have HCD := hid fun ui (hx : ui = ((zg (I j) - 1 : Nat) : Int)) w => rcodeI ui (zg (I j) - 1) k hx hk hcz w
        have hgl := gl_le (rn I j + 1)
        have hcs := cost_le (zg (I j) - 1) (k : Int)
        have HVL := hid (gl_ok hgv).2.2.2.1
        have HVC := hid (cod_lt hk hcz)
        have HCK := hid fun w' (hb : Below w.heap.size w w') => (H.out.below hb H.out.lt).c j hlt
        have hgam : app (gam (cgd I k (0, 0) j) (rn I j + 1)) (cod (zg (I j) - 1) k) (cost (zg (I j) - 1) k) = (((cgd I k (0, 0) j).1 * 2 ^ gl (rn I j + 1) + (rn I j + 1)) * 2 ^ cost (zg (I j) - 1) k + cod (zg (I j) - 1) k, (cgd I k (0, 0) j).2 + gl (rn I j + 1) + cost (zg (I j) - 1) k) := rfl
        rw [hgam] at e3
        have HE := hid e3
        have HR := hid hr1
        obtain rfl := H.out.addr (by omega)
        clear e3 hr1 hc1 e2 h0 hgv hgam hcz
        generalize cost (zg (I j) - 1) (k : Int) = cj at *
        generalize cod (zg (I j) - 1) k = dj at *
        generalize gl (rn I j + 1) = gj at *
        generalize cgd I k (0, 0) j = r at *
        generalize rn I j = nj at *
        generalize zg (I j) = zj at *
        generalize I j = ij at *
        have hnb : nj ≤ 1048576 := by omega
        go_wp2_with fail
        have hnd := hn.below' (w2 := wr.drew) ⟨rfl, rfl, rfl, Nat.le_refl _, fun _ _ => rfl⟩
        have ckd := HCK.out _ hnd.below
        go_region_law (first
          | (go_simp; go_at_call 71; (with_reducible refine (HGM.out _ (by first | omega | (simp only [IntKind.wrap_u64]; omega)) _).mono ?_); rintro e w5 ⟨lo2, lcap2, rfl, hn2⟩; have hn5 := hnd.below' hn2.below; have ck5 := HCK.out _ hn5.below; have hsz5 : w.heap.size ≤ w5.heap.size := hn5.below.size; dsimp only)
          | (refine step_append_list (by rfl) (.tmp 32) (.tmp 36) 22 (by rfl) w.heap.size 3 i0 (.int .i64 0) 8 Try.underlying22 hi hz0 hz1 hz2 rfl lo r.2 lcap (bitl r.1 r.2) (by rfl) hn5.lst lo2 gj lcap2 (bitl (nj + 1) gj) (by rfl) (bitl_len _ gj) hn2.lst.none' hn2.lst.cells (bitl_one _ gj) (by unfold maxLen; omega) (by omega) hsz5 ?_
             intro lo6 lcap6 w6 hown6 hg6
             have hb6 : Below w.heap.size w w6 := hn5.below.grown hg6 hsz5 hn.new
             have ck6 := HCK.out _ hb6
             have hsz6 : w.heap.size ≤ w6.heap.size := hb6.size)
          | (go_simp; go_at_call 67; (with_reducible refine (HZ.out _).mono ?_); rintro e w7 ⟨rfl, rfl⟩; dsimp only)
          | (go_simp; go_at_call 70; (with_reducible refine (HCD.out _ (by first | omega | (simp only [IntKind.wrap_u64]; omega)) _).mono ?_); rintro e w8 ⟨lo8, lcap8, rfl, hn8⟩; have hown8 := Lst.upto (show Lst w6 w.heap.size lo6 lcap6 (r.1 * 2 ^ gj + (nj + 1)) (r.2 + gj) from by unfold Lst; rw [bitl_app r.1 r.2 _ gj HVL.out]; exact hown6) hn8.below; have hb8 := hb6.trans (hn8.below.mono hsz6); have hsz8 : w.heap.size ≤ w8.heap.size := hb8.size; dsimp only)
          | (refine step_append_list (by rfl) (.tmp 37) (.tmp 45) 22 (by rfl) w.heap.size 3 i0 (.int .i64 0) 8 Try.underlying22 hi hz0 hz1 hz2 rfl lo6 (r.2 + gj) lcap6 (bitl (r.1 * 2 ^ gj + (nj + 1)) (r.2 + gj)) (by rfl) hown8 lo8 cj lcap8 (bitl dj cj) (by rfl) (bitl_len _ cj) hn8.lst.none' hn8.lst.cells (bitl_one _ cj) (by unfold maxLen; omega) (by omega) hsz8 ?_
             intro lo9 lcap9 w9 hown9 hg9))
        all_goals
          have hb9 : Below w.heap.size w w9 := hb8.grown hg9 hsz8 (fun g hg => (Lst.lt hown8 g hg).1)
          have hst : Value.slice lo9 (r.2 + gj + cj) lcap9 = .slice lo9 (cst2 I k len (j + 1)).2 lcap9 ∧ Nw w w.heap.size lo9 lcap9 (cst2 I k len (j + 1)).1 (cst2 I k len (j + 1)).2 w9 := by
            rw [HE.out]
            refine ⟨rfl, Nw.of_own ?_ hb9⟩
            rw [bitl_app _ _ dj cj HVC.out]
            exact hown9
          have HST := hid hst
          clear hown9 hg9 hown8 hb9 hb8 hb6 hown6 hg6 hn8 hn5 hn2 hnd hn hst ck5 ck6 ckd ck
          go_wp2_with fail
          go_roundg (len - (j + 1))
          case measure => rw [HG.out]; omega
          case rel => exact ⟨j + 1, lo9, lcap9, by omega, rfl, HST.out.1, by rw [HR.out]; rfl, by go_num, HST.out.2⟩
    · have hge : ¬ (j : Int) < (len : Int) := by omega
      obtain rfl : j = len := by omega
      have e2 : cst2 I k j j = cfin I k (0, 0) j := if_pos rfl
      rw [e2] at hn ⊢
      have hfin : CodePost w (cfin I k (0, 0) j).1 (cfin I k (0, 0) j).2 (.returned (.slice lo (cfin I k (0, 0) j).2 lcap)) wr := ⟨lo, lcap, rfl, hn⟩
      clear hn e2
      generalize cfin I k (0, 0) j = r at *
      go_wp2_with fail
      go_ret
      exact hfin
end Go.Proofs.Ytjimamjhakainaa.Runs
