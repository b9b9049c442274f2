/- The document's list of Zigs; Need of the program and the document; what the widest number needs in the document. Conditions: those of the memory's own form alone. -/
import Derived.Test.YtjimamjhakainaaYb
namespace Go.Proofs.Ytjimamjhakainaa.Part
open Go.RowKit Bit Rice Runs

theorem us_congr {W : World} {a : Option Addr} {len b off : Nat} {U V : Nat → Nat} (h : Us W a len b off U) (he : ∀ i, i < len → U i = V i) : Us W a len b off V :=
  ⟨h.addr, fun i hi => by rw [← he i hi]; exact h.c i hi, fun i hi => by rw [← he i hi]; exact h.ub i hi, h.lt, h.hl⟩
def zl (I : Nat → Int) (j : Nat) : List Nat := (List.range j).map fun i => zg (I i)
theorem zl_len (I : Nat → Int) (j : Nat) : (zl I j).length = j := by simp [zl]
theorem zl_next (I : Nat → Int) (j : Nat) : zl I (j + 1) = zl I j ++ [zg (I j)] := by simp [zl, List.range_succ]
theorem zl_at (I : Nat → Int) (j i : Nat) (h : i < j) : (zl I j).getD i 0 = zs I i := by simp [zl, zs, h]
theorem zl_ub (I : Nat → Int) (n j : Nat) (hj : j ≤ n) (h : ∀ i, i < n → -9223372036854775808 ≤ I i ∧ I i ≤ 9223372036854775807) : ∀ u ∈ zl I j, u < 18446744073709551616 := fun u hu => by
  obtain ⟨i, hi, rfl⟩ := List.mem_map.1 hu
  exact zg_lt (h i (by have := List.mem_range.1 hi; omega))
def ZlSt (w : World) (I : Nat → Int) (j : Nat) (v : Value) (wr : World) : Prop := ∃ (lo : Option Addr) (lcap : Nat), v = .slice lo j lcap ∧ Ul wr w.heap.size lo lcap (zl I j) ∧ Below w.heap.size w wr
set_option maxRecDepth 20000 in
theorem rzigs_any (w : World) (a : Option Addr) (len cap b off : Nat) (I : Nat → Int) (h : Is w a len cap b off I) (hlen : len ≤ 1048576) :
    Calls Try.prog 36 #[.slice a len cap] w (ZsPost w I len) := by
  have H := hid h
  have hll := h.lt
  have hl := h.hl
  have hc := h.hc
  have HLT := hid hll
  obtain ⟨i0, hi, hz0, hz1, hz2⟩ := info_parts Try.info42
  have hst : ZlSt w I 0 (.slice none 0 0) w := ⟨none, 0, rfl, World.ownsRow_nil _ _ _ _, Below.refl _ _⟩
  clear h hll
  go_enter Try.func36, Try.ntmps36
  go_wp2_with fail
  go_loopg [3, 4] len (fun g v i wr => ∃ j : Nat, j ≤ len ∧ g = len - j ∧ i = .int .i64 j ∧ ZlSt w I j v wr)
  case atStart => exact ⟨0, Nat.zero_le _, rfl, rfl, hst⟩
  case round =>
    obtain ⟨j, hj, hg, rfl, lo, lcap, rfl, hul, hb⟩ := hrel
    have HG := hid hg
    clear hg hst
    by_cases hlt : j < len
    · have hlt2 : (j : Int) < (len : Int) := by omega
      obtain rfl := H.out.addr (by omega)
      have ck := (H.out.below hb HLT.out).c j hlt
      have hib := H.out.ib j hlt
      have HI := hid hib
      clear hib
      go_wp2_with fail
      refine (rzig_any (I j) HI.out wr).mono ?_
      rintro e w' ⟨rfl, rfl⟩
      have hul3 : Ul (wr.alloc (.cells #[.int .u64 (zg (I j) : Int)] 42)) w.heap.size lo lcap (zl I j) := ownsRow_block hul fun g hg => RowKit.Below.heap_alloc _ _ _ (hul.lt g hg).2
      have hcell : (wr.alloc (.cells #[.int .u64 (zg (I j) : Int)] 42)).cell? ⟨wr.heap.size, 0, none⟩ = some (.int .u64 (zg (I j) : Int)) := by simp
      unfold Ul at hul3
      rw [zl_len] at hul3
      have hb2 := hb.alloc hb.size (.cells #[.int .u64 (zg (I j) : Int)] 42)
      have hsz := hb2.size
      have HB2 := hid hb2
      have hlo : ∀ g, blk lo = some g → w.heap.size ≤ g := fun g hg => (hul.lt g hg).1
      have HLO := hid hlo
      have HZ := hid (zl_next I j)
      have HL := hid (zl_len I j)
      clear hb2 hlo hul hb ck
      generalize zg (I j) = u at *
      go_wp2_with (at_builtin; go_must (refine wpList_append_one rfl (.tmp 11) (.tmp 17) 63 rfl w.heap.size 42 i0 (.int .u64 0) 8 Try.underlying63 hi hz0 hz1 hz2 rfl lo j lcap (ul (zl I j)) rfl hul3 ⟨wr.heap.size, 0, none⟩ 1 (.int .u64 (u : Int)) rfl hcell rfl (by unfold maxLen; omega) (by omega) hsz ?_))
      intro gg cap' w4 hown4 hkept
      have hst : ZlSt w I (j + 1) (.slice (some ⟨gg, 0, none⟩) (j + 1) cap') w4 := by
        refine ⟨_, cap', rfl, ?_, HB2.out.grown hkept.grown HB2.out.size fun g hg => HLO.out g hg⟩
        unfold Ul
        rw [HZ.out, List.length_append, HL.out, ul_app]
        exact hown4
      clear hown4 hkept hul3 hcell hsz
      go_wp2_with fail
      go_roundg (len - (j + 1))
      case measure => rw [HG.out]; omega
      case rel => exact ⟨j + 1, by omega, rfl, by go_num, hst⟩
    · have hge : ¬ (j : Int) < (len : Int) := by omega
      obtain rfl : j = len := by omega
      have hfin : ZsPost w I j (.returned (.slice lo j lcap)) wr := by
        obtain ⟨b', hus⟩ := hul.us (by rw [zl_len]; exact hlen) (zl_ub I j j (Nat.le_refl _) H.out.ib)
        rw [zl_len] at hus
        by_cases hj0 : 0 < j
        · have hle : w.heap.size ≤ b' := by have := hus.addr hj0; exact (hul.lt b' (by rw [this]; rfl)).1
          exact ⟨lo, lcap, b', rfl, us_congr hus fun i hi => zl_at I j i hi, hle, hb⟩
        · exact ⟨lo, lcap, w.heap.size, rfl, ⟨fun h => absurd h hj0, fun i hi => absurd (Nat.lt_of_le_of_lt (Nat.zero_le _) hi) hj0, fun i hi => absurd (Nat.lt_of_le_of_lt (Nat.zero_le _) hi) hj0, fun h => absurd h hj0, by omega⟩, Nat.le_refl _, hb⟩
      clear hul hb
      go_wp2_with fail
      go_ret
      exact hfin

theorem half (u : Nat) : ((u : Int) / 2) = ((u / 2 : Nat) : Int) := by omega
theorem need_any (xi x : Int) (hx : xi = x) (h : -9223372036854775808 ≤ x ∧ x ≤ 9223372036854775807) (w : World) : Calls Try.prog 65 #[.int .i64 xi] w fun e w' => e = .returned (.int .i64 (rw1 (zg x) : Int)) ∧ w = w' := by
  subst hx
  have hz := zig_any xi h w
  have hl := zg_lt h
  generalize zg xi = u at *
  have hw : Calls Try.prog 60 #[.int .u64 ((u : Int) / 2)] w fun e w' => e = .returned (.int .i64 (Lib.bitLen (u / 2) : Int)) ∧ w = w' := by rw [half u]; exact width_any (u / 2) (by omega) w
  have h64 := bl64 (show u / 2 < 18446744073709551616 by omega)
  unfold rw1
  have HL := hid hl; have H64 := hid h64; have HW := hid hw
  clear hl h64 hw h
  go_enter Try.func65, Try.ntmps65
  go_wp2_with fail
  refine hz.mono ?_
  rintro e w' ⟨rfl, rfl⟩
  clear hz
  go_wp2_with fail
  have hw := HW.out; have h64 := H64.out
  clear HW H64
  refine hw.mono ?_
  rintro e w' ⟨rfl, rfl⟩
  clear hw
  go_wp2_with fail
  go_ret
  exact ⟨congrArg (fun z : Int => Ending.returned (.int .i64 z)) (by omega), rfl⟩
theorem zg_half (x : Int) : zg x / 2 = (if x < 0 then -(x + 1) else x).toNat := by unfold zg; split <;> split <;> omega
theorem rneed_any (x : Int) (h : -9223372036854775808 ≤ x ∧ x ≤ 9223372036854775807) (w : World) : Calls Try.prog 49 #[.int .i64 x] w fun e w' => e = .returned (.int .i64 (rw1 (zg x) : Int)) ∧ w = w' := by
  unfold rw1
  rw [zg_half]
  by_cases h0 : x < 0
  · rw [if_pos h0]
    obtain ⟨u, hu⟩ : ∃ u : Nat, -(x + 1) = (u : Int) := ⟨(-(x + 1)).toNat, by omega⟩
    obtain rfl : x = -(u : Int) - 1 := by omega
    rw [hu, Int.toNat_natCast]
    have hul : u < 9223372036854775808 := by omega
    have hw := rwidth_any u (by omega) w
    have h64 := bl64 (show u < 18446744073709551616 by omega)
    clear hu h
    generalize Lib.bitLen u = y at *
    have e1 : -(-(u : Int) - 1 + 1) = (u : Int) := by omega
    go_enter Try.func49, Try.ntmps49
    go_wp2_with fail
    refine (show Calls Try.prog 37 #[.int .u64 _] w _ from by first | exact hw | (simp only [e1]; exact hw)).mono ?_
    rintro e w' ⟨rfl, rfl⟩
    clear hw
    go_wp2_with fail
    go_ret
    exact ⟨congrArg (fun z : Int => Ending.returned (.int .i64 z)) (by omega), rfl⟩
  · rw [if_neg h0]
    obtain ⟨u, rfl⟩ : ∃ u : Nat, x = (u : Int) := ⟨x.toNat, by omega⟩
    rw [Int.toNat_natCast]
    have hw := rwidth_any u (by omega) w
    have h64 := bl64 (show u < 18446744073709551616 by omega)
    generalize Lib.bitLen u = y at *
    go_enter Try.func49, Try.ntmps49
    go_wp2_with fail
    refine hw.mono ?_
    rintro e w' ⟨rfl, rfl⟩
    clear hw
    go_wp2_with fail
    go_ret
    exact ⟨congrArg (fun z : Int => Ending.returned (.int .i64 z)) (by omega), rfl⟩
theorem rraw_any (w : World) (a : Option Addr) (len cap b off : Nat) (I : Nat → Int) (h : Is w a len cap b off I) :
    Calls Try.prog 20 #[.slice a len cap] w fun e w' => e = .returned (.int .i64 (rw_ I len : Int)) ∧ w = w' := by
  have H := hid h
  have hl := h.hl
  have hc := h.hc
  clear h
  have h0 : rw_ I 0 = 1 := (by decide : Lib.bitLen (0 / 2) + 1 = 1)
  go_enter Try.func20, Try.ntmps20
  go_wp2_with fail
  go_loopg [3, 4] len (fun g c i wr => ∃ k : Nat, k ≤ len ∧ g = len - k ∧ c = .int .i64 (rw_ I k : Int) ∧ i = .int .i64 k ∧ w = wr)
  case atStart => exact ⟨0, Nat.zero_le _, rfl, by rw [h0]; rfl, rfl, rfl⟩
  case round =>
    clear h0
    obtain ⟨k, hk, hg, rfl, rfl, rfl⟩ := hrel
    have HG := hid hg
    clear hg
    by_cases hlt : k < len
    · have hlt2 : (k : Int) < (len : Int) := by omega
      obtain rfl := H.out.addr (by omega)
      have ck := H.out.c k hlt
      have HN := hid (rw_step I k (gr_64 I k fun j hj => H.out.ib j (by omega)) (zg_lt (H.out.ib k hlt)))
      have HNE := hid (rneed_any (I k) (H.out.ib k hlt) w)
      generalize rw1 (zg (I k)) = x at *
      generalize rw_ I k = y at *
      go_wp2_with fail
      refine HNE.out.mono ?_
      rintro e w' ⟨rfl, rfl⟩
      by_cases hxy : y < x
      · have hxy2 : (y : Int) < (x : Int) := by omega
        go_wp2_with fail
        refine HNE.out.mono ?_
        rintro e w' ⟨rfl, rfl⟩
        go_wp2_with fail
        go_roundg (len - (k + 1))
        case measure => rw [HG.out]; omega
        case rel => exact ⟨k + 1, by omega, rfl, by rw [HN.out, Nat.max_eq_right (by omega)], by go_num, rfl⟩
      · have hxy2 : ¬ (y : Int) < (x : Int) := by omega
        go_wp2_with fail
        go_roundg (len - (k + 1))
        case measure => rw [HG.out]; omega
        case rel => exact ⟨k + 1, by omega, rfl, by rw [HN.out, Nat.max_eq_left (by omega)], by go_num, rfl⟩
    · have hge : ¬ (k : Int) < (len : Int) := by omega
      obtain rfl : k = len := by omega
      go_wp2_with fail
      go_ret
      exact ⟨rfl, rfl⟩
