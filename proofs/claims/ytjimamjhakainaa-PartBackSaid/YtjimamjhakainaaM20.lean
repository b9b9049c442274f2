/- What part's ways hang on, as arithmetic: how many noughts, the greatest Zig, what all cost by quotient and rest, and the best parameter up to its width. -/
import Derived.Test.YtjimamjhakainaaM18
import Derived.Test.YtjimamjhakainaaSYa
namespace Go.Proofs.Ytjimamjhakainaa.Part
open Go.RowKit Bit Rice Runs

/-- How many of the first numbers are 0. -/
def nz (I : Nat → Int) : Nat → Nat
  | 0 => 0
  | j + 1 => if I j = 0 then nz I j + 1 else nz I j
theorem nz_le (I : Nat → Int) : ∀ j, nz I j ≤ j
  | 0 => Nat.le_refl _
  | j + 1 => by
    have := nz_le I j
    show (if I j = 0 then nz I j + 1 else nz I j) ≤ _
    split <;> omega
theorem nz_all {I : Nat → Int} : ∀ {n : Nat}, nz I n = n → ∀ j, j < n → I j = 0
  | 0, _, j, h => absurd h (Nat.not_lt_zero _)
  | n + 1, h, j, hj => by
    have h1 := nz_le I n
    have h2 : (if I n = 0 then nz I n + 1 else nz I n) = n + 1 := h
    by_cases e : I n = 0
    · rw [if_pos e] at h2
      by_cases e2 : j = n
      · rw [e2]; exact e
      · exact nz_all (show nz I n = n by omega) j (by omega)
    · rw [if_neg e] at h2; omega
/-- The greatest Zig of the first numbers. -/
def gr (I : Nat → Int) : Nat → Nat
  | 0 => 0
  | j + 1 => max (gr I j) (zg (I j))
theorem gr_ge (I : Nat → Int) : ∀ n j, j < n → zg (I j) ≤ gr I n
  | 0, j, h => absurd h (Nat.not_lt_zero _)
  | n + 1, j, h => by
    show _ ≤ max (gr I n) (zg (I n))
    by_cases e : j = n
    · rw [e]; exact Nat.le_max_right _ _
    · exact Nat.le_trans (gr_ge I n j (by omega)) (Nat.le_max_left _ _)
theorem gr_lt (I : Nat → Int) (B : Nat) (hB : 0 < B) : ∀ n, (∀ j, j < n → zg (I j) < B) → gr I n < B
  | 0, _ => hB
  | n + 1, h => by
    have h1 := gr_lt I B hB n fun j hj => h j (by omega)
    have h2 := h n (by omega)
    show max (gr I n) (zg (I n)) < B
    exact Nat.max_lt.2 ⟨h1, h2⟩
theorem gr_64 (I : Nat → Int) (n : Nat) (h : ∀ j, j < n → -9223372036854775808 ≤ I j ∧ I j ≤ 9223372036854775807) : gr I n < 18446744073709551616 := gr_lt I _ (by decide) n fun j hj => zg_lt (h j hj)
theorem gr_zero {I : Nat → Int} {n : Nat} (h : nz I n = n) : gr I n = 0 := by
  have h1 := gr_lt I 1 (by decide) n fun j hj => by rw [nz_all h j hj]; decide
  omega

/-- Their Zigs, and what these cost. -/
def zs (I : Nat → Int) : Nat → Nat := fun i => zg (I i)
def tt (I : Nat → Int) (n k : Nat) : Nat := tot (zs I) (k : Int) n
theorem tt_le (I : Nat → Int) (n k : Nat) : tt I n k ≤ 64 * n := tot_le _ _ _
theorem blt {x : Nat} (hx : x < 18446744073709551616) : x < 2 ^ Lib.bitLen x := by
  by_cases h : x = 0
  · rw [h]; exact Nat.two_pow_pos _
  · exact (bl_bounds x hx h).2.2
theorem bl64 {x : Nat} (hx : x < 18446744073709551616) : Lib.bitLen x ≤ 64 := Lib.bitLen_le x 64 (by decide) hx
theorem bl_mono {a b : Nat} (h : a ≤ b) (hb : b < 18446744073709551616) : Lib.bitLen a ≤ Lib.bitLen b := Lib.bitLen_le a _ (bl64 hb) (Nat.lt_of_le_of_lt h (blt hb))
theorem bl_max {a b : Nat} (ha : a < 18446744073709551616) (hb : b < 18446744073709551616) : Lib.bitLen (max a b) = max (Lib.bitLen a) (Lib.bitLen b) := by
  rcases Nat.le_total a b with h | h
  · rw [Nat.max_eq_right h, Nat.max_eq_right (bl_mono h hb)]
  · rw [Nat.max_eq_left h, Nat.max_eq_left (bl_mono h ha)]
theorem cost_flat {u k : Nat} (hk : k ≤ 30) (hu : u < 2 ^ k) : cost u (k : Int) = k + 1 := by
  have h30 : 2 ^ k ≤ 2 ^ 30 := Nat.pow_le_pow_right (by decide) hk
  have hd : u / 2 ^ k = 0 := Nat.div_eq_of_lt hu
  have hc : coded u := by unfold coded; omega
  rw [cost_low hk hc (by omega), hd]
  omega
theorem tot_flat (U : Nat → Nat) (k : Nat) (hk : k ≤ 30) : ∀ n, (∀ i, i < n → U i < 2 ^ k) → tot U (k : Int) n = n * (k + 1)
  | 0, _ => by rw [Nat.zero_mul]; rfl
  | n + 1, h => by
    have h1 := tot_flat U k hk n fun i hi => h i (by omega)
    show tot U (k : Int) n + cost (U n) (k : Int) = _
    rw [h1, cost_flat hk (h n (by omega)), Nat.succ_mul]
theorem tt_flat (I : Nat → Int) (n k : Nat) (hk : k ≤ 30) (h : gr I n < 2 ^ k) : tt I n k = n * (k + 1) :=
  tot_flat (zs I) k hk n fun i hi => Nat.lt_of_le_of_lt (gr_ge I n i hi) h

theorem bst_rng (U : Nat → Nat) (len : Nat) : ∀ j, bst U len j ≤ j
  | 0 => Nat.le_refl _
  | j + 1 => by
    have := bst_rng U len j
    show (if _ then _ else _) ≤ _
    split
    · exact Nat.le_refl _
    · exact Nat.le_succ_of_le this
theorem bst_lt (U : Nat → Nat) (len : Nat) : ∀ j i, i < bst U len j → tot U (bst U len j : Nat) len < tot U (i : Nat) len
  | 0, i, h => absurd h (Nat.not_lt_zero _)
  | j + 1, i, h => by
    by_cases e : tot U (j + 1 : Nat) len < tot U (bst U len j : Nat) len
    · have e1 : bst U len (j + 1) = j + 1 := if_pos e
      rw [e1] at h ⊢
      have := bst_le U len j i (by omega)
      omega
    · have e1 : bst U len (j + 1) = bst U len j := if_neg e
      rw [e1] at h ⊢
      exact bst_lt U len j i h
theorem bst_flat (I : Nat → Int) (n m : Nat) (hg : gr I n < 2 ^ m) : ∀ j, m ≤ j → j ≤ 30 → bst (zs I) n j = bst (zs I) n m
  | 0, h, _ => by
    obtain rfl : m = 0 := by omega
    rfl
  | j + 1, h, h30 => by
    by_cases e : m = j + 1
    · rw [e]
    · have h1 := bst_flat I n m hg j (by omega) (by omega)
      have p1 : gr I n < 2 ^ j := Nat.lt_of_lt_of_le hg (Nat.pow_le_pow_right (by decide) (by omega))
      have p2 : gr I n < 2 ^ (j + 1) := Nat.lt_of_lt_of_le hg (Nat.pow_le_pow_right (by decide) (by omega))
      have t1 : tot (zs I) (j : Int) n = n * (j + 1) := tt_flat I n j (by omega) p1
      have t2 : tot (zs I) ((j + 1 : Nat) : Int) n = n * (j + 1 + 1) := tt_flat I n (j + 1) h30 p2
      have t3 := bst_le (zs I) n j j (Nat.le_refl _)
      have t4 : n * (j + 1) ≤ n * (j + 1 + 1) := Nat.mul_le_mul_left _ (by omega)
      have e1 : bst (zs I) n (j + 1) = bst (zs I) n j := if_neg (by omega)
      rw [e1, h1]
/-- The parameter of Rice. -/
def kr (I : Nat → Int) (n : Nat) : Nat := bst (zs I) n 30
theorem kr_le (I : Nat → Int) (n : Nat) : kr I n ≤ 30 := bst_rng _ _ _
theorem kr_most (I : Nat → Int) (n : Nat) (h : gr I n < 18446744073709551616) : bst (zs I) n (m30 (Lib.bitLen (gr I n) : Nat)) = kr I n := by
  unfold m30
  rw [if_neg (by omega)]
  by_cases e : (30 : Int) < (Lib.bitLen (gr I n) : Nat)
  · rw [if_pos e]; rfl
  · rw [if_neg e, Int.toNat_natCast]
    exact (bst_flat I n _ (blt h) 30 (by omega) (Nat.le_refl _)).symm
/-- The greatest Need. -/
def rw1 (g : Nat) : Nat := Lib.bitLen (g / 2) + 1
def rw_ (I : Nat → Int) (n : Nat) : Nat := rw1 (gr I n)
theorem rw_step (I : Nat → Int) (n : Nat) (h : gr I n < 18446744073709551616) (h2 : zg (I n) < 18446744073709551616) : rw_ I (n + 1) = max (rw_ I n) (rw1 (zg (I n))) := by
  show Lib.bitLen (max (gr I n) (zg (I n)) / 2) + 1 = max (Lib.bitLen (gr I n / 2) + 1) (Lib.bitLen (zg (I n) / 2) + 1)
  have e : max (gr I n) (zg (I n)) / 2 = max (gr I n / 2) (zg (I n) / 2) := by
    rcases Nat.le_total (gr I n) (zg (I n)) with h | h
    · rw [Nat.max_eq_right h, Nat.max_eq_right (Nat.div_le_div_right h)]
    · rw [Nat.max_eq_left h, Nat.max_eq_left (Nat.div_le_div_right h)]
  rw [e, bl_max (by omega) (by omega)]
  omega
theorem rw_le (I : Nat → Int) (n : Nat) (h : gr I n < 1099511627776) : rw_ I n ≤ 41 := by
  unfold rw_ rw1
  have := Lib.bitLen_le (gr I n / 2) 40 (by decide) (by omega)
  omega
theorem rw_le64 (I : Nat → Int) (n : Nat) (h : gr I n < 18446744073709551616) : rw_ I n ≤ 64 := by
  unfold rw_ rw1
  have := Lib.bitLen_le (gr I n / 2) 63 (by decide) (by omega)
  omega

/-- A list's way and what it costs: the kind, its K, the bits. -/
def wy (I : Nat → Int) (n : Nat) : Nat × Nat × Nat :=
  if nz I n = n then (0, 0, 6) else
  let a : Nat × Nat × Nat := if n ≤ 2 * nz I n ∧ 11 + cstI I (rbs I n 30 : Nat) n < 6 + tt I n (kr I n) then (2, rbs I n 30, 11 + cstI I (rbs I n 30 : Nat) n) else (1, kr I n, 6 + tt I n (kr I n))
  if 12 + rw_ I n * n < a.2.2 then (3, rw_ I n, 12 + rw_ I n * n) else a
end Go.Proofs.Ytjimamjhakainaa.Part
/- The list of a list's Zigs, in the program and in the document; how many noughts, what the widest needs, and whether it is coded, in the document; Need of both. Conditions: those of the memory's own form alone. -/
namespace Go.Proofs.Ytjimamjhakainaa.Part
open Go.RowKit Bit Rice Runs

theorem Try.info42 : (Try.prog.info? 42).map (fun i => (i.zero, i.size, i.bytes)) = some (some (.int .u64 0), 1, 8) := by kernel_rfl
/-- A list of Zigs in new memory. -/
def ZsPost (w : World) (I : Nat → Int) (len : Nat) (e : Ending) (w' : World) : Prop := ∃ (lo : Option Addr) (lcap b : Nat), e = .returned (.slice lo len lcap) ∧ Us w' lo len b 0 (zs I) ∧ w.heap.size ≤ b ∧ Below w.heap.size w w'
set_option maxRecDepth 20000 in
theorem zigs_any (w : World) (a : Option Addr) (len cap b off : Nat) (I : Nat → Int) (h : Is w a len cap b off I) (hlen : len ≤ 1048576) :
    Calls Try.prog 59 #[.slice a len cap] w (ZsPost w I len) := by
  have H := hid h
  have hlt := h.lt
  have HLT := hid hlt
  have hmk : ∀ w, (Instr.makeSlice 63 (.int .i64 (len : Int)) (.int .i64 (len : Int))).run Try.prog w = .ok (.slice (some ⟨w.heap.size, 0, none⟩) len len) (w.alloc (.cells (madeCells #[.int .u64 0] len) 42)) := fun w =>
    run_make_row' (P := Try.prog) 63 42 (.int .u64 0) 8 Try.underlying63 Try.info42 rfl .i64 .i64 len (by omega) (by omega) w
  have hst : (w.alloc (.cells (madeCells #[.int .u64 0] len) 42)).rowIs w.heap.size 42 len (fun i => if i < 0 then .int .u64 (zs I i : Int) else .int .u64 0) :=
    (World.rowIs_made w (.int .u64 0) len 42).congr fun i hi => by rw [if_neg (by omega)]
  have hb0 : Below w.heap.size w (w.alloc (.cells (madeCells #[.int .u64 0] len) 42)) := (Below.refl _ _).alloc (Nat.le_refl _) _
  clear h hlt
  go_enter Try.func59, Try.ntmps59
  go_wp2_with fail
  clear hmk
  go_loopg [11] len (fun g i wr => ∃ j : Nat, j ≤ len ∧ g = len - j ∧ i = .int .i64 j ∧ Below w.heap.size w wr ∧ wr.rowIs w.heap.size 42 len (fun i => if i < j then .int .u64 (zs I i : Int) else .int .u64 0))
  case atStart => exact ⟨0, Nat.zero_le _, rfl, rfl, hb0, hst⟩
  case round =>
    obtain ⟨j, hj, hg, rfl, hb, hrow⟩ := hrel
    have HG := hid hg
    clear hg hst hb0
    by_cases hlt : j < len
    · have hlt2 : (j : Int) < (len : Int) := by omega
      obtain rfl := H.out.addr (by omega)
      have ck := (H.out.below hb HLT.out).c j hlt
      have hib := H.out.ib j hlt
      have hc := hrow.cell hlt
      have hf := hrow.frozen j
      have HI := hid hib
      clear hib
      go_wp2_with fail
      refine (zig_any (I j) HI.out wr).mono ?_
      rintro e w' ⟨rfl, rfl⟩
      go_wp2_with fail
      go_roundg (len - (j + 1))
      case measure => rw [HG.out]; omega
      case rel =>
        refine ⟨j + 1, by omega, rfl, by go_num, hb.setCell (p := ⟨w.heap.size, j, none⟩) (Nat.le_refl _) _, (hrow.set j (.int .u64 (zg (I j) : Int))).congr fun k hk => ?_⟩
        by_cases e : k = j
        · subst e; rw [if_pos rfl, if_pos (by omega)]; rfl
        · rw [if_neg e]
          by_cases e2 : k < j
          · rw [if_pos e2, if_pos (by omega)]
          · rw [if_neg e2, if_neg (by omega)]
    · have hge : ¬ (j : Int) < (len : Int) := by omega
      obtain rfl : j = len := by omega
      have hfin : ZsPost w I j (.returned (.slice (some ⟨w.heap.size, 0, none⟩) j j)) wr := ⟨_, j, w.heap.size, rfl, ⟨fun _ => rfl, fun i hi => by
        have := hrow.cell hi
        rw [if_pos hi] at this
        rw [Nat.zero_add]
        exact this, fun i hi => zg_lt (H.out.ib i hi), fun _ => hrow.lt, by omega⟩, Nat.le_refl _, hb⟩
      clear hrow hb
      go_wp2_with fail
      go_ret
      exact hfin

theorem fits_eq (u : Nat) : decide ((u : Int) < 1099511627776) = decide (coded u) := decide_eq_decide.2 (by unfold coded; omega)
set_option maxRecDepth 20000 in
theorem fits_any (x : Int) (h : -9223372036854775808 ≤ x ∧ x ≤ 9223372036854775807) (w : World) : Calls Try.prog 34 #[.int .i64 x] w fun e w' => e = .returned (.bool (decide (coded (zg x)))) ∧ w = w' := by
  have hz := rzig_any x h w
  have hc := fits_eq (zg x)
  generalize decide (coded (zg x)) = y at *
  generalize zg x = u at *
  go_enter Try.func34, Try.ntmps34
  go_wp2_with fail
  refine hz.mono ?_
  rintro e w' ⟨rfl, rfl⟩
  clear hz
  go_wp2_with fail
  go_ret
  exact ⟨rfl, rfl⟩
theorem rmay_any (w : World) (a : Option Addr) (len cap b off : Nat) (I : Nat → Int) (h : Is w a len cap b off I) :
    Calls Try.prog 11 #[.slice a len cap] w (CdPost w I len) := by
  have H := hid h
  have hl := h.hl
  have hc := h.hc
  clear h
  by_cases hlen : len ≤ 65536
  · have hl2 : ¬ (65536 : Int) < (len : Int) := by omega
    go_enter Try.func11, Try.ntmps11
    go_wp2_with fail
    go_loopg [3] len (fun g i wr => ∃ k : Nat, k ≤ len ∧ g = len - k ∧ i = .int .i64 k ∧ w = wr ∧ allZ I k)
    case atStart => exact ⟨0, Nat.zero_le _, rfl, rfl, rfl, fun j hj => absurd hj (Nat.not_lt_zero _)⟩
    case round =>
      obtain ⟨k, hk, hg, rfl, rfl, hall⟩ := hrel
      have HG := hid hg
      have HA := hid hall
      clear hg hall
      by_cases hlt : k < len
      · have hlt2 : (k : Int) < (len : Int) := by omega
        obtain rfl := H.out.addr (by omega)
        have ck := H.out.c k hlt
        go_wp2_with fail
        refine (fits_any (I k) (H.out.ib k hlt) w).mono ?_
        rintro e w' ⟨rfl, rfl⟩
        by_cases hc : coded (zg (I k))
        · rw [decide_eq_true hc]
          go_wp2_with fail
          go_roundg (len - (k + 1))
          case measure => rw [HG.out]; omega
          case rel => exact ⟨k + 1, by omega, rfl, by go_num, rfl, fun j hj => by
            by_cases e : j = k
            · rw [e]; exact hc
            · exact HA.out j (by omega)⟩
        · rw [decide_eq_false hc]
          have hfin : CdPost w I len (.returned (.bool false)) w := ⟨false, rfl, rfl, ⟨fun h => (Bool.noConfusion h), fun h => absurd (h.2 k hlt) hc⟩⟩
          go_wp2_with fail
          go_ret
          exact hfin
      · have hge : ¬ (k : Int) < (len : Int) := by omega
        obtain rfl : k = len := by omega
        have hfin : CdPost w I k (.returned (.bool true)) w := ⟨true, rfl, rfl, ⟨fun _ => ⟨hlen, HA.out⟩, fun _ => rfl⟩⟩
        go_wp2_with fail
        go_ret
        exact hfin
  · have hl2 : (65536 : Int) < (len : Int) := by omega
    have hfin : CdPost w I len (.returned (.bool false)) w := ⟨false, rfl, rfl, ⟨fun h => (Bool.noConfusion h), fun h => absurd h.1 hlen⟩⟩
    go_enter Try.func11, Try.ntmps11
    go_wp2_with fail
    go_ret
    exact hfin
theorem none_any (w : World) (a : Option Addr) (len cap b off : Nat) (I : Nat → Int) (h : Is w a len cap b off I) :
    Calls Try.prog 35 #[.slice a len cap] w fun e w' => e = .returned (.int .i64 (nz I len : Int)) ∧ w = w' := by
  have H := hid h
  have hl := h.hl
  have hc := h.hc
  clear h
  go_enter Try.func35, Try.ntmps35
  go_wp2_with fail
  go_loopg [3, 4] len (fun g c i wr => ∃ k : Nat, k ≤ len ∧ g = len - k ∧ c = .int .i64 (nz I k : Int) ∧ i = .int .i64 k ∧ w = wr)
  case atStart => exact ⟨0, Nat.zero_le _, rfl, rfl, rfl, rfl⟩
  case round =>
    obtain ⟨k, hk, hg, rfl, rfl, rfl⟩ := hrel
    have HG := hid hg
    clear hg
    by_cases hlt : k < len
    · have hlt2 : (k : Int) < (len : Int) := by omega
      obtain rfl := H.out.addr (by omega)
      have ck := H.out.c k hlt
      have HN := hid (show nz I (k + 1) = if I k = 0 then nz I k + 1 else nz I k from rfl)
      have hz := nz_le I k
      by_cases hc0 : I k = 0
      · have hb : (I k == 0) = true := by rw [hc0]; rfl
        rw [if_pos hc0] at HN
        generalize I k = x at *
        generalize nz I k = y at *
        clear hc0
        go_wp2_with fail
        go_roundg (len - (k + 1))
        case measure => rw [HG.out]; omega
        case rel => exact ⟨k + 1, by omega, rfl, by rw [HN.out]; go_num, by go_num, rfl⟩
      · have hb : (I k == 0) = false := beq_eq_false_iff_ne.2 hc0
        rw [if_neg hc0] at HN
        generalize I k = x at *
        generalize nz I k = y at *
        clear hc0
        go_wp2_with fail
        go_roundg (len - (k + 1))
        case measure => rw [HG.out]; omega
        case rel => exact ⟨k + 1, by omega, rfl, by rw [HN.out], by go_num, rfl⟩
    · have hge : ¬ (k : Int) < (len : Int) := by omega
      obtain rfl : k = len := by omega
      go_wp2_with fail
      go_ret
      exact ⟨rfl, rfl⟩
end Go.Proofs.Ytjimamjhakainaa.Part
/- The document's list of Zigs; Need of the program and the document; what the widest number needs in the document. Conditions: those of the memory's own form alone. -/
namespace Go.Proofs.Ytjimamjhakainaa.Part
open Go.RowKit Bit Rice Runs

theorem us_congr {W : World} {a : Option Addr} {len b off : Nat} {U V : Nat → Nat} (h : Us W a len b off U) (he : ∀ i, i < len → U i = V i) : Us W a len b off V :=
  ⟨h.addr, fun i hi => by rw [← he i hi]; exact h.c i hi, fun i hi => by rw [← he i hi]; exact h.ub i hi, h.lt, h.hl⟩
def zl (I : Nat → Int) (j : Nat) : List Nat := (List.range j).map fun i => zg (I i)
theorem zl_len (I : Nat → Int) (j : Nat) : (zl I j).length = j := by simp [zl]
theorem zl_next (I : Nat → Int) (j : Nat) : zl I (j + 1) = zl I j ++ [zg (I j)] := by simp [zl, List.range_succ]
theorem zl_at (I : Nat → Int) (j i : Nat) (h : i < j) : (zl I j).getD i 0 = zs I i := by simp [zl, zs, h]
theorem zl_ub (I : Nat → Int) (n j : Nat) (hj : j ≤ n) (h : ∀ i, i < n → -9223372036854775808 ≤ I i ∧ I i ≤ 9223372036854775807) : ∀ u ∈ zl I j, u < 18446744073709551616 := fun u hu => by
  obtain ⟨i, hi, rfl⟩ := List.mem_map.1 hu
  exact zg_lt (h i (by have := List.mem_range.1 hi; omega))
def ZlSt (w : World) (I : Nat → Int) (j : Nat) (v : Value) (wr : World) : Prop := ∃ (lo : Option Addr) (lcap : Nat), v = .slice lo j lcap ∧ Ul wr w.heap.size lo lcap (zl I j) ∧ Below w.heap.size w wr
set_option maxRecDepth 20000 in
theorem rzigs_any (w : World) (a : Option Addr) (len cap b off : Nat) (I : Nat → Int) (h : Is w a len cap b off I) (hlen : len ≤ 1048576) :
    Calls Try.prog 36 #[.slice a len cap] w (ZsPost w I len) := by
  have H := hid h
  have hll := h.lt
  have hl := h.hl
  have hc := h.hc
  have HLT := hid hll
  obtain ⟨i0, hi, hz0, hz1, hz2⟩ := info_parts Try.info42
  have hst : ZlSt w I 0 (.slice none 0 0) w := ⟨none, 0, rfl, World.ownsRow_nil _ _ _ _, Below.refl _ _⟩
  clear h hll
  go_enter Try.func36, Try.ntmps36
  go_wp2_with fail
  go_loopg [3, 4] len (fun g v i wr => ∃ j : Nat, j ≤ len ∧ g = len - j ∧ i = .int .i64 j ∧ ZlSt w I j v wr)
  case atStart => exact ⟨0, Nat.zero_le _, rfl, rfl, hst⟩
  case round =>
    obtain ⟨j, hj, hg, rfl, lo, lcap, rfl, hul, hb⟩ := hrel
    have HG := hid hg
    clear hg hst
    by_cases hlt : j < len
    · have hlt2 : (j : Int) < (len : Int) := by omega
      obtain rfl := H.out.addr (by omega)
      have ck := (H.out.below hb HLT.out).c j hlt
      have hib := H.out.ib j hlt
      have HI := hid hib
      clear hib
      go_wp2_with fail
      refine (rzig_any (I j) HI.out wr).mono ?_
      rintro e w' ⟨rfl, rfl⟩
      have hul3 : Ul (wr.alloc (.cells #[.int .u64 (zg (I j) : Int)] 42)) w.heap.size lo lcap (zl I j) := ownsRow_block hul fun g hg => RowKit.Below.heap_alloc _ _ _ (hul.lt g hg).2
      have hcell : (wr.alloc (.cells #[.int .u64 (zg (I j) : Int)] 42)).cell? ⟨wr.heap.size, 0, none⟩ = some (.int .u64 (zg (I j) : Int)) := by simp
      unfold Ul at hul3
      rw [zl_len] at hul3
      have hb2 := hb.alloc hb.size (.cells #[.int .u64 (zg (I j) : Int)] 42)
      have hsz := hb2.size
      have HB2 := hid hb2
      have hlo : ∀ g, blk lo = some g → w.heap.size ≤ g := fun g hg => (hul.lt g hg).1
      have HLO := hid hlo
      have HZ := hid (zl_next I j)
      have HL := hid (zl_len I j)
      clear hb2 hlo hul hb ck
      generalize zg (I j) = u at *
      go_wp2_with (at_builtin; go_must (refine wpList_append_one rfl (.tmp 11) (.tmp 17) 63 rfl w.heap.size 42 i0 (.int .u64 0) 8 Try.underlying63 hi hz0 hz1 hz2 rfl lo j lcap (ul (zl I j)) rfl hul3 ⟨wr.heap.size, 0, none⟩ 1 (.int .u64 (u : Int)) rfl hcell rfl (by unfold maxLen; omega) (by omega) hsz ?_))
      intro gg cap' w4 hown4 hkept
      have hst : ZlSt w I (j + 1) (.slice (some ⟨gg, 0, none⟩) (j + 1) cap') w4 := by
        refine ⟨_, cap', rfl, ?_, HB2.out.grown hkept.grown HB2.out.size fun g hg => HLO.out g hg⟩
        unfold Ul
        rw [HZ.out, List.length_append, HL.out, ul_app]
        exact hown4
      clear hown4 hkept hul3 hcell hsz
      go_wp2_with fail
      go_roundg (len - (j + 1))
      case measure => rw [HG.out]; omega
      case rel => exact ⟨j + 1, by omega, rfl, by go_num, hst⟩
    · have hge : ¬ (j : Int) < (len : Int) := by omega
      obtain rfl : j = len := by omega
      have hfin : ZsPost w I j (.returned (.slice lo j lcap)) wr := by
        obtain ⟨b', hus⟩ := hul.us (by rw [zl_len]; exact hlen) (zl_ub I j j (Nat.le_refl _) H.out.ib)
        rw [zl_len] at hus
        by_cases hj0 : 0 < j
        · have hle : w.heap.size ≤ b' := by have := hus.addr hj0; exact (hul.lt b' (by rw [this]; rfl)).1
          exact ⟨lo, lcap, b', rfl, us_congr hus fun i hi => zl_at I j i hi, hle, hb⟩
        · exact ⟨lo, lcap, w.heap.size, rfl, ⟨fun h => absurd h hj0, fun i hi => absurd (Nat.lt_of_le_of_lt (Nat.zero_le _) hi) hj0, fun i hi => absurd (Nat.lt_of_le_of_lt (Nat.zero_le _) hi) hj0, fun h => absurd h hj0, by omega⟩, Nat.le_refl _, hb⟩
      clear hul hb
      go_wp2_with fail
      go_ret
      exact hfin

theorem half (u : Nat) : ((u : Int) / 2) = ((u / 2 : Nat) : Int) := by omega
theorem need_any (xi x : Int) (hx : xi = x) (h : -9223372036854775808 ≤ x ∧ x ≤ 9223372036854775807) (w : World) : Calls Try.prog 65 #[.int .i64 xi] w fun e w' => e = .returned (.int .i64 (rw1 (zg x) : Int)) ∧ w = w' := by
  subst hx
  have hz := zig_any xi h w
  have hl := zg_lt h
  generalize zg xi = u at *
  have hw : Calls Try.prog 60 #[.int .u64 ((u : Int) / 2)] w fun e w' => e = .returned (.int .i64 (Lib.bitLen (u / 2) : Int)) ∧ w = w' := by rw [half u]; exact width_any (u / 2) (by omega) w
  have h64 := bl64 (show u / 2 < 18446744073709551616 by omega)
  unfold rw1
  have HL := hid hl; have H64 := hid h64; have HW := hid hw
  clear hl h64 hw h
  go_enter Try.func65, Try.ntmps65
  go_wp2_with fail
  refine hz.mono ?_
  rintro e w' ⟨rfl, rfl⟩
  clear hz
  go_wp2_with fail
  have hw := HW.out; have h64 := H64.out
  clear HW H64
  refine hw.mono ?_
  rintro e w' ⟨rfl, rfl⟩
  clear hw
  go_wp2_with fail
  go_ret
  exact ⟨congrArg (fun z : Int => Ending.returned (.int .i64 z)) (by omega), rfl⟩
theorem zg_half (x : Int) : zg x / 2 = (if x < 0 then -(x + 1) else x).toNat := by unfold zg; split <;> split <;> omega
theorem rneed_any (x : Int) (h : -9223372036854775808 ≤ x ∧ x ≤ 9223372036854775807) (w : World) : Calls Try.prog 49 #[.int .i64 x] w fun e w' => e = .returned (.int .i64 (rw1 (zg x) : Int)) ∧ w = w' := by
  unfold rw1
  rw [zg_half]
  by_cases h0 : x < 0
  · rw [if_pos h0]
    obtain ⟨u, hu⟩ : ∃ u : Nat, -(x + 1) = (u : Int) := ⟨(-(x + 1)).toNat, by omega⟩
    obtain rfl : x = -(u : Int) - 1 := by omega
    rw [hu, Int.toNat_natCast]
    have hul : u < 9223372036854775808 := by omega
    have hw := rwidth_any u (by omega) w
    have h64 := bl64 (show u < 18446744073709551616 by omega)
    clear hu h
    generalize Lib.bitLen u = y at *
    have e1 : -(-(u : Int) - 1 + 1) = (u : Int) := by omega
    go_enter Try.func49, Try.ntmps49
    go_wp2_with fail
    refine (show Calls Try.prog 37 #[.int .u64 _] w _ from by first | exact hw | (simp only [e1]; exact hw)).mono ?_
    rintro e w' ⟨rfl, rfl⟩
    clear hw
    go_wp2_with fail
    go_ret
    exact ⟨congrArg (fun z : Int => Ending.returned (.int .i64 z)) (by omega), rfl⟩
  · rw [if_neg h0]
    obtain ⟨u, rfl⟩ : ∃ u : Nat, x = (u : Int) := ⟨x.toNat, by omega⟩
    rw [Int.toNat_natCast]
    have hw := rwidth_any u (by omega) w
    have h64 := bl64 (show u < 18446744073709551616 by omega)
    generalize Lib.bitLen u = y at *
    go_enter Try.func49, Try.ntmps49
    go_wp2_with fail
    refine hw.mono ?_
    rintro e w' ⟨rfl, rfl⟩
    clear hw
    go_wp2_with fail
    go_ret
    exact ⟨congrArg (fun z : Int => Ending.returned (.int .i64 z)) (by omega), rfl⟩
theorem rraw_any (w : World) (a : Option Addr) (len cap b off : Nat) (I : Nat → Int) (h : Is w a len cap b off I) :
    Calls Try.prog 20 #[.slice a len cap] w fun e w' => e = .returned (.int .i64 (rw_ I len : Int)) ∧ w = w' := by
  have H := hid h
  have hl := h.hl
  have hc := h.hc
  clear h
  have h0 : rw_ I 0 = 1 := (by decide : Lib.bitLen (0 / 2) + 1 = 1)
  go_enter Try.func20, Try.ntmps20
  go_wp2_with fail
  go_loopg [3, 4] len (fun g c i wr => ∃ k : Nat, k ≤ len ∧ g = len - k ∧ c = .int .i64 (rw_ I k : Int) ∧ i = .int .i64 k ∧ w = wr)
  case atStart => exact ⟨0, Nat.zero_le _, rfl, by rw [h0]; rfl, rfl, rfl⟩
  case round =>
    clear h0
    obtain ⟨k, hk, hg, rfl, rfl, rfl⟩ := hrel
    have HG := hid hg
    clear hg
    by_cases hlt : k < len
    · have hlt2 : (k : Int) < (len : Int) := by omega
      obtain rfl := H.out.addr (by omega)
      have ck := H.out.c k hlt
      have HN := hid (rw_step I k (gr_64 I k fun j hj => H.out.ib j (by omega)) (zg_lt (H.out.ib k hlt)))
      have HNE := hid (rneed_any (I k) (H.out.ib k hlt) w)
      generalize rw1 (zg (I k)) = x at *
      generalize rw_ I k = y at *
      go_wp2_with fail
      refine HNE.out.mono ?_
      rintro e w' ⟨rfl, rfl⟩
      by_cases hxy : y < x
      · have hxy2 : (y : Int) < (x : Int) := by omega
        go_wp2_with fail
        refine HNE.out.mono ?_
        rintro e w' ⟨rfl, rfl⟩
        go_wp2_with fail
        go_roundg (len - (k + 1))
        case measure => rw [HG.out]; omega
        case rel => exact ⟨k + 1, by omega, rfl, by rw [HN.out, Nat.max_eq_right (by omega)], by go_num, rfl⟩
      · have hxy2 : ¬ (y : Int) < (x : Int) := by omega
        go_wp2_with fail
        go_roundg (len - (k + 1))
        case measure => rw [HG.out]; omega
        case rel => exact ⟨k + 1, by omega, rfl, by rw [HN.out, Nat.max_eq_left (by omega)], by go_num, rfl⟩
    · have hge : ¬ (k : Int) < (len : Int) := by omega
      obtain rfl : k = len := by omega
      go_wp2_with fail
      go_ret
      exact ⟨rfl, rfl⟩
end Go.Proofs.Ytjimamjhakainaa.Part
