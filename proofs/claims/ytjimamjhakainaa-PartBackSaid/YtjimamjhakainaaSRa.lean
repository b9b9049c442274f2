/- A list of whole numbers in memory; folded and unfolded numbers (Zig, Zag) in the program and in the document; whether a list is coded, and whether a number has a gamma code; how many bits that has. Conditions: those of the memory's own form alone. -/
import Derived.Test.YtjimamjhakainaaM08
import Derived.Test.YtjimamjhakainaaM10
import Derived.Lib.Zigzag
namespace Go.Proofs.Ytjimamjhakainaa.Runs
open Go.RowKit Bit Rice

/-- A slice of whole numbers in memory. -/
structure Is (W : World) (a : Option Addr) (len cap b off : Nat) (I : Nat → Int) : Prop where
  addr : 0 < len → a = some ⟨b, off, none⟩
  c : ∀ i, i < len → W.cell? ⟨b, off + i, none⟩ = some (.int .i64 (I i))
  ib : ∀ i, i < len → -9223372036854775808 ≤ I i ∧ I i ≤ 9223372036854775807
  lt : 0 < len → b < W.heap.size
  hl : len ≤ cap
  hc : cap ≤ 9223372036854775807
theorem Is.below {W W' : World} {a : Option Addr} {len cap b off : Nat} {I : Nat → Int} (h : Is W a len cap b off I) {B : Nat} (hb : Below B W W') (hB : 0 < len → b < B) : Is W' a len cap b off I :=
  ⟨h.addr, fun i hi => (hb.cell (p := ⟨b, _, none⟩) (hB (by omega))).trans (h.c i hi), h.ib, fun hl => Nat.lt_of_lt_of_le (h.lt hl) hb.size, h.hl, h.hc⟩
theorem Is.fr {W W' : World} {a : Option Addr} {len cap b off : Nat} {I : Nat → Int} (h : Is W a len cap b off I) {X : Nat → Prop} (hf : Fr X W W') (hX : 0 < len → ¬ X b) : Is W' a len cap b off I :=
  ⟨h.addr, fun i hi => (hf.cell (p := ⟨b, _, none⟩) (h.lt (by omega)) (hX (by omega))).trans (h.c i hi), h.ib, fun hl => Nat.lt_of_lt_of_le (h.lt hl) hf.size, h.hl, h.hc⟩

/-- A number, folded. -/
def zg (x : Int) : Nat := if 0 ≤ x then (2 * x).toNat else (-2 * x - 1).toNat
theorem zg_lt {x : Int} (h : -9223372036854775808 ≤ x ∧ x ≤ 9223372036854775807) : zg x < 18446744073709551616 := by unfold zg; split <;> omega
theorem zg_pos {x : Int} (h : x ≠ 0) : 0 < zg x := by unfold zg; split <;> omega
theorem zig_any (x : Int) (h : -9223372036854775808 ≤ x ∧ x ≤ 9223372036854775807) (w : World) : Calls Try.prog 84 #[.int .i64 x] w fun e w' => e = .returned (.int .u64 (zg x : Int)) ∧ w = w' := by
  by_cases h0 : x < 0
  · have e : ((zg x : Nat) : Int) = -2 * x - 1 := by unfold zg; rw [if_neg (by omega)]; omega
    rw [e]
    clear e
    go_enter Try.func84, Try.ntmps84
    go_wp2_with fail
    go_ret
    refine ⟨congrArg (fun z : Int => Ending.returned (.int .u64 z)) ?_, rfl⟩
    have e2 : IntKind.u64.max = ((2 ^ 64 - 1 : Nat) : Int) := by decide
    obtain ⟨y, hy⟩ : ∃ y : Nat, x % 18446744073709551616 * 2 % 18446744073709551616 = (y : Int) := ⟨(x % 18446744073709551616 * 2 % 18446744073709551616).toNat, by omega⟩
    rw [IntKind.wrap_u64, IntKind.wrap_u64, hy, e2, bits_xor_u64_nat _ _ (by decide) (by omega), Lib.xor_ones64 _ (by omega)]
    omega
  · have e : ((zg x : Nat) : Int) = 2 * x := by unfold zg; rw [if_pos (by omega)]; omega
    rw [e]
    clear e
    go_enter Try.func84, Try.ntmps84
    go_wp2_with fail
    go_ret
    exact ⟨congrArg (fun z : Int => Ending.returned (.int .u64 z)) (by omega), rfl⟩
theorem rzig_any (x : Int) (h : -9223372036854775808 ≤ x ∧ x ≤ 9223372036854775807) (w : World) : Calls Try.prog 67 #[.int .i64 x] w fun e w' => e = .returned (.int .u64 (zg x : Int)) ∧ w = w' := by
  by_cases h0 : 0 ≤ x
  · have e : ((zg x : Nat) : Int) = 2 * x := by unfold zg; rw [if_pos h0]; omega
    rw [e]
    clear e
    go_enter Try.func67, Try.ntmps67
    go_wp2_with fail
    go_ret
    exact ⟨congrArg (fun z : Int => Ending.returned (.int .u64 z)) (by omega), rfl⟩
  · have e : ((zg x : Nat) : Int) = -2 * x - 1 := by unfold zg; rw [if_neg h0]; omega
    rw [e]
    clear e
    go_enter Try.func67, Try.ntmps67
    go_wp2_with fail
    go_ret
    exact ⟨congrArg (fun z : Int => Ending.returned (.int .u64 z)) (by omega), rfl⟩
/-- And unfolded. -/
def zgi (u : Nat) : Int := if u % 2 = 0 then (u / 2 : Nat) else -((u / 2 : Nat) : Int) - 1
theorem zgi_zg (x : Int) : zgi (zg x) = x := by unfold zgi zg; split <;> split <;> omega
theorem zg_zgi (u : Nat) : zg (zgi u) = u := by unfold zgi zg; split <;> split <;> omega
theorem zag_any (ui : Int) (u : Nat) (hui : ui = u) (h : u < 9223372036854775808) (w : World) : Calls Try.prog 66 #[.int .u64 ui] w fun e w' => e = .returned (.int .i64 (zgi u)) ∧ w = w' := by
  subst hui
  have hb : bits .and .u64 (u : Int) 1 = ((u % 2 : Nat) : Int) := by
    have h1 := bits_and_u64_nat u 1 (by omega) (by omega)
    rw [Nat.and_one_is_mod] at h1
    exact h1
  by_cases h0 : u % 2 = 0
  · have e : zgi u = ((u / 2 : Nat) : Int) := if_pos h0
    rw [e]
    rw [h0] at hb
    clear e
    go_enter Try.func66, Try.ntmps66
    go_wp2_with fail
    go_ret
    exact ⟨congrArg (fun z : Int => Ending.returned (.int .i64 z)) (by omega), rfl⟩
  · have e : zgi u = -((u / 2 : Nat) : Int) - 1 := if_neg h0
    rw [e]
    rw [show u % 2 = 1 from by omega] at hb
    clear e
    go_enter Try.func66, Try.ntmps66
    go_wp2_with fail
    go_ret
    refine ⟨congrArg (fun z : Int => Ending.returned (.int .i64 z)) ?_, rfl⟩
    rw [show (u : Int) / 2 = ((u / 2 : Nat) : Int) from by omega]
    exact Lib.i64_not (u / 2) (by omega)
theorem iszig (ui : Int) (u : Nat) (hui : ui = u) (w : World) : Calls Try.prog 115 #[.int .u64 ui] w fun e w' => e = .returned (.bool (decide (coded u))) ∧ w = w' := by
  subst hui
  have hc := coded_eq u
  generalize decide (coded u) = x at *
  go_enter Try.func115, Try.ntmps115
  go_wp2_with fail
  go_ret
  exact ⟨congrArg (fun z : Bool => Ending.returned (.bool z)) hc, rfl⟩

/-- Whether a list is coded. -/
def allZ (I : Nat → Int) (len : Nat) : Prop := ∀ i, i < len → coded (zg (I i))
theorem notzig (x : Int) (h : -9223372036854775808 ≤ x ∧ x ≤ 9223372036854775807) (w : World) : Calls Try.prog 114 #[.int .i64 x] w fun e w' => e = .returned (.bool (!decide (coded (zg x)))) ∧ w = w' := by
  have hz := zig_any x h w
  have hi := iszig (zg x : Int) (zg x) rfl w
  generalize decide (coded (zg x)) = y at *
  generalize zg x = u at *
  go_enter Try.func114, Try.ntmps114
  go_wp2_with fail
  refine hz.mono ?_
  rintro e w' ⟨rfl, rfl⟩
  clear hz
  go_wp2_with fail
  refine hi.mono ?_
  rintro e w' ⟨rfl, rfl⟩
  clear hi
  go_wp2_with fail
  go_ret
  exact ⟨rfl, rfl⟩
theorem zindex_any (w : World) (a : Option Addr) (len cap b off : Nat) (I : Nat → Int) (h : Is w a len cap b off I) :
    Calls Try.prog 83 #[.slice a len cap, .func (.func 114) #[] #[]] w fun e w' => ∃ r : Int, e = .returned (.int .i64 r) ∧ w = w' ∧ ((r = -1 ∧ allZ I len) ∨ (0 ≤ r ∧ ¬ allZ I len)) := by
  have H := hid h
  have hl := h.hl
  have hc := h.hc
  clear h
  go_enter Try.func83, Try.ntmps83
  go_wp2_with fail
  go_loopg [8] len (fun g i wr => ∃ k : Nat, k ≤ len ∧ g = len - k ∧ i = .int .i64 k ∧ w = wr ∧ allZ I k)
  case atStart => exact ⟨0, Nat.zero_le _, rfl, rfl, rfl, fun j hj => absurd hj (Nat.not_lt_zero _)⟩
  case round =>
    obtain ⟨k, hk, hg, rfl, rfl, hall⟩ := hrel
    have HG := hid hg
    have HA := hid hall
    clear hg hall
    by_cases hlt : k < len
    · have hlt2 : (k : Int) < (len : Int) := by omega
      obtain rfl := H.out.addr (by omega)
      have ck := H.out.c k hlt
      go_wp2_with fail
      refine (notzig (I k) (H.out.ib k hlt) w).mono ?_
      rintro e w' ⟨rfl, rfl⟩
      by_cases hc : coded (zg (I k))
      · rw [decide_eq_true hc]
        go_wp2_with fail
        go_roundg (len - (k + 1))
        case measure => rw [HG.out]; omega
        case rel => exact ⟨k + 1, by omega, rfl, by go_num, rfl, fun j hj => by
          by_cases e : j = k
          · rw [e]; exact hc
          · exact HA.out j (by omega)⟩
      · rw [decide_eq_false hc]
        go_wp2_with fail
        go_ret
        exact ⟨_, rfl, rfl, .inr ⟨by omega, fun h => hc (h k hlt)⟩⟩
    · have hge : ¬ (k : Int) < (len : Int) := by omega
      obtain rfl : k = len := by omega
      go_wp2_with fail
      go_ret
      exact ⟨_, rfl, rfl, .inl ⟨rfl, HA.out⟩⟩
theorem zcontains_any (w : World) (a : Option Addr) (len cap b off : Nat) (I : Nat → Int) (h : Is w a len cap b off I) :
    Calls Try.prog 56 #[.slice a len cap, .func (.func 114) #[] #[]] w fun e w' => ∃ x : Bool, e = .returned (.bool x) ∧ w = w' ∧ (x = true ↔ ¬ allZ I len) := by
  have HI := hid (zindex_any w a len cap b off I h)
  clear h
  go_enter Try.func56, Try.ntmps56
  go_wp2_with fail
  refine HI.out.mono ?_
  rintro e w' ⟨r, rfl, rfl, hr⟩
  rcases hr with ⟨rfl, hr⟩ | ⟨h0, hr⟩
  · go_wp2_with fail
    go_ret
    exact ⟨_, rfl, rfl, by simp [hr]⟩
  · go_wp2_with fail
    go_ret
    exact ⟨_, rfl, rfl, by simp [hr]⟩
theorem zcoded_any (w : World) (a : Option Addr) (len cap b off : Nat) (I : Nat → Int) (h : Is w a len cap b off I) :
    Calls Try.prog 93 #[.slice a len cap] w fun e w' => ∃ x : Bool, e = .returned (.bool x) ∧ w = w' ∧ (x = true ↔ allZ I len) := by
  have HI := hid (zcontains_any w a len cap b off I h)
  clear h
  go_enter Try.func93, Try.ntmps93
  go_wp2_with fail
  refine HI.out.mono ?_
  rintro e w' ⟨r, rfl, rfl, hr⟩
  go_wp2_with fail
  go_ret
  refine ⟨!r, rfl, rfl, ?_⟩
  cases r
  · simp at hr ⊢; exact hr
  · simp at hr ⊢; exact hr

/-- Which numbers have a gamma code, and of how many bits. -/
def hg (v : Nat) : Prop := 0 < v ∧ v < 4294967296
instance (v : Nat) : Decidable (hg v) := by unfold hg; infer_instance
def gl (v : Nat) : Nat := if hg v then 2 * Lib.bitLen v - 1 else 0
theorem gl_no {v : Nat} (h : ¬ hg v) : gl v = 0 := if_neg h
theorem wd_le {v : Nat} (h : hg v) : Lib.bitLen v ≤ 32 := Lib.bitLen_le v 32 (by decide) (by unfold hg at h; omega)
theorem bl_bounds : ∀ (x : Nat), x < 18446744073709551616 → x ≠ 0 → 1 ≤ Lib.bitLen x ∧ 2 ^ (Lib.bitLen x - 1) ≤ x ∧ x < 2 ^ Lib.bitLen x := by
  intro x
  induction x using Nat.strongRecOn with
  | ind x ih =>
    intro hx h0
    rw [Lib.bitLen_half x h0 hx]
    by_cases h1 : x / 2 = 0
    · obtain rfl : x = 1 := by omega
      decide
    · obtain ⟨a, b, c⟩ := ih (x / 2) (by omega) (by omega) h1
      refine ⟨by omega, ?_, ?_⟩
      · rw [show 1 + Lib.bitLen (x / 2) - 1 = (Lib.bitLen (x / 2) - 1) + 1 from by omega, Nat.pow_succ]; omega
      · rw [Nat.add_comm, Nat.pow_succ]; omega
theorem gl_ok {v : Nat} (h : hg v) : gl v = 2 * Lib.bitLen v - 1 ∧ 1 ≤ Lib.bitLen v ∧ Lib.bitLen v ≤ 32 ∧ v < 2 ^ gl v ∧ 2 ^ (Lib.bitLen v - 1) ≤ v ∧ v < 2 ^ Lib.bitLen v := by
  have h1 := wd_le h
  obtain ⟨a, b, c⟩ := bl_bounds v (by unfold hg at h; omega) (by unfold hg at h; omega)
  have e : gl v = 2 * Lib.bitLen v - 1 := if_pos h
  refine ⟨e, a, h1, ?_, b, c⟩
  rw [e]
  exact Nat.lt_of_lt_of_le c (Nat.pow_le_pow_right (by decide) (by omega))
theorem gl_le (v : Nat) : gl v ≤ 63 := by
  by_cases h : hg v
  · have := gl_ok h; omega
  · rw [gl_no h]; exact Nat.zero_le _
theorem hasg (v : Nat) (w : World) : Calls Try.prog 123 #[.int .u64 (v : Int)] w fun e w' => e = .returned (.bool (decide (hg v))) ∧ w = w' := by
  have hs : ((((v : Int) / 2 ^ 32) == 0) : Bool) = decide (v < 4294967296) := by
    rw [shr_nat]
    by_cases h : v < 4294967296
    · rw [decide_eq_true h, Nat.div_eq_of_lt (show v < 2 ^ 32 from h)]; rfl
    · rw [decide_eq_false h, beq_eq_false_iff_ne]
      have : 1 ≤ v / 2 ^ 32 := (Nat.le_div_iff_mul_le (Nat.two_pow_pos 32)).2 (by omega)
      omega
  by_cases h0 : 0 < v
  · have g0 : (0 : Int) < (v : Int) := by omega
    have e : decide (hg v) = decide (v < 4294967296) := decide_eq_decide.2 ⟨fun h => h.2, fun h => ⟨h0, h⟩⟩
    rw [e]
    generalize decide (v < 4294967296) = x at *
    clear e
    go_enter Try.func123, Try.ntmps123
    go_wp2_with fail
    go_ret
    exact ⟨congrArg (fun z : Bool => Ending.returned (.bool z)) hs, rfl⟩
  · have g0 : ¬ (0 : Int) < (v : Int) := by omega
    rw [decide_eq_false (fun h : hg v => h0 h.1)]
    go_enter Try.func123, Try.ntmps123
    go_wp2_with fail
    go_ret
    exact ⟨by simp, rfl⟩
theorem gcost_any (vi : Int) (v : Nat) (hvi : vi = v) (hv : v < 18446744073709551616) (w : World) : Calls Try.prog 117 #[.int .u64 vi] w fun e w' => e = .returned (.int .i64 (gl v : Int)) ∧ w = w' := by
  subst hvi
  have HG := hid (hasg v)
  by_cases h : hg v
  · have hd := decide_eq_true h
    obtain ⟨e1, e2, e3, _⟩ := gl_ok h
    rw [e1]
    have HW := hid (width_any v hv)
    clear e1
    generalize Lib.bitLen v = n at *
    go_enter Try.func117, Try.ntmps117
    go_wp2_with fail
    refine (HG.out w).mono ?_
    rintro e w1 ⟨rfl, rfl⟩
    rw [hd]
    go_wp2_with fail
    refine (HW.out w).mono ?_
    rintro e w1 ⟨rfl, rfl⟩
    go_wp2_with fail
    go_ret
    exact ⟨congrArg (fun z : Int => Ending.returned (.int .i64 z)) (by omega), rfl⟩
  · have hd := decide_eq_false h
    rw [gl_no h]
    go_enter Try.func117, Try.ntmps117
    go_wp2_with fail
    refine (HG.out w).mono ?_
    rintro e w1 ⟨rfl, rfl⟩
    rw [hd]
    go_wp2_with fail
    go_ret
    exact ⟨rfl, rfl⟩
theorem pgamma_nil (v : Int) (w : World) : Calls Try.prog 107 #[.pointer none, .int .u64 v] w fun e w' => e = .returned (.int .i64 2) ∧ w = w' := by
  go_enter Try.func107, Try.ntmps107
  go_wp2_with fail
  go_ret
  exact ⟨rfl, rfl⟩
theorem pgamma_range (p : Addr) (v : Nat) (h : ¬ hg v) (w : World) : Calls Try.prog 107 #[.pointer (some p), .int .u64 (v : Int)] w fun e w' => e = .returned (.int .i64 3) ∧ w = w' := by
  go_enter Try.func107, Try.ntmps107
  go_wp2_with fail
  refine (hasg v w).mono ?_
  rintro e w1 ⟨rfl, rfl⟩
  rw [decide_eq_false h]
  go_wp2_with fail
  go_ret
  exact ⟨rfl, rfl⟩
theorem pgamma_ok (B p o : Nat) (vi : Int) (v : Nat) (hvi : vi = v) (h : hg v) (ao : Option Addr) (cap N L : Nat) (w : World) (hw : WrN w B p o ao cap N L) (hL : L ≤ 7000000000000) :
    Calls Try.prog 107 #[.pointer (some ⟨p, o, none⟩), .int .u64 vi] w (PutOk w B p o ao L (N * 2 ^ gl v + v) (L + gl v)) := by
  subst hvi
  have hlt := (gl_ok h).2.2.2.1
  have hgl := gl_le v
  have HC := hid (gcost_any (v : Int) v rfl (by unfold hg at h; omega))
  generalize gl v = g at *
  go_enter Try.func107, Try.ntmps107
  go_wp2_with fail
  refine (hasg v w).mono ?_
  rintro e w1 ⟨rfl, rfl⟩
  rw [decide_eq_true h]
  go_wp2_with fail
  refine (HC.out w).mono ?_
  rintro e w1 ⟨rfl, rfl⟩
  go_wp2_with fail
  refine (put_ok B p o v g ao cap N L w hw hlt (by omega) hL).mono ?_
  rintro e w1 ⟨rfl, ao1, cap1, h1, h2⟩
  have hfin : PutOk w B p o ao L (N * 2 ^ g + v) (L + g) (.returned (.int .i64 0)) w1 := ⟨rfl, ao1, cap1, h1, h2⟩
  clear h1 h2 hw
  go_wp2_with fail
  go_ret
  exact hfin
end Go.Proofs.Ytjimamjhakainaa.Runs
