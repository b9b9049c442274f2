/- A matrix (an array of 32 numbers), made of a function, in memory; what it makes of a number; its square; its powers. Conditions: the function is straight. -/
import Derived.Test.YtlkeifciphehnaaSum
import Derived.Test.YtlkeifciphehnaaGen
import Derived.Deep.WholeRow
import Derived.Deep.RegionWith
namespace Go.Proofs.Ytlkeifciphehnaa.Crc
open Go.RowKit Gen

theorem Try.zero44 : (Try.prog.info? 44).map (fun i => (i.zero, i.size)) = some (some (.agg (zeros 32)), 32) := by kernel_rfl
theorem z44 (w : World) : (zeroValue 44).run Try.prog w = .ok (.agg (zeros 32)) w := (zero_of_info Try.zero44).1 w
theorem s44 : (Try.prog.info? 44).map (·.size) = some 32 := (zero_of_info Try.zero44).2

/-- The matrix of f. -/
def mat (f : Nat → Nat) : Array Value := (Array.range 32).map fun i => .int .u32 (f (2 ^ i) : Int)
theorem mat_size (f : Nat → Nat) : (mat f).size = 32 := by simp [mat]

theorem mat_at (f : Nat → Nat) (k : Nat) (hk : k < 32) : (mat f)[k]? = some (.int .u32 (f (2 ^ k) : Int)) := by simp [mat, hk]

theorem mod_bit (x k : Nat) : x % 2 ^ (k + 1) = x % 2 ^ k ^^^ (if x / 2 ^ k % 2 = 1 then 2 ^ k else 0) := by
  apply Nat.eq_of_testBit_eq
  intro i
  have hb := Nat.testBit_eq_decide_div_mod_eq (x := x) (i := k)
  rw [Nat.testBit_xor, Nat.testBit_mod_two_pow, Nat.testBit_mod_two_pow]
  by_cases h : x / 2 ^ k % 2 = 1
  · rw [if_pos h, Nat.testBit_two_pow]
    rw [decide_eq_true h] at hb
    by_cases h1 : k = i
    · subst h1; simp [hb]
    · by_cases h2 : i < k
      · have h3 : i < k + 1 := by omega
        simp [h1, h2, h3]
      · have h3 : ¬ i < k + 1 := by omega
        simp [h1, h2, h3]
  · rw [if_neg h, Nat.zero_testBit]
    rw [decide_eq_false h] at hb
    by_cases h1 : k = i
    · subst h1; simp [hb]
    · by_cases h2 : i < k
      · have h3 : i < k + 1 := by omega
        simp [h2, h3]
      · have h3 : ¬ i < k + 1 := by omega
        simp [h2, h3]
theorem f_bit {f : Nat → Nat} (hf : Lin f) (x k : Nat) : f (x % 2 ^ (k + 1)) = if x / 2 ^ k % 2 = 1 then f (x % 2 ^ k) ^^^ f (2 ^ k) else f (x % 2 ^ k) := by
  rw [mod_bit, hf.lin]
  split
  · rfl
  · rw [hf.zero, Nat.xor_zero]
theorem two_pow_lt (k : Nat) (hk : k < 32) : 2 ^ k < 4294967296 := Nat.pow_lt_pow_right (a := 2) (n := 32) (m := k) (by decide) hk

set_option maxRecDepth 100000 in
theorem of_any (f : Nat → Nat) (hf : Lin f) (x : Nat) (hx : x < 4294967296) (w : World) :
    Calls Try.prog 29 #[.agg (mat f), .int .u32 (x : Int)] w fun e w' => e = .returned (.int .u32 (f x : Int)) ∧ w' = w.alloc (.cells (mat f) 44) := by
  have hc : ∀ k, k < 32 → (w.alloc (.cells (mat f) 44)).cell? ⟨w.heap.size, k, none⟩ = some (.int .u32 (f (2 ^ k) : Int)) := fun k hk => by
    rw [World.cell?_alloc_at _ _ _ _ rfl]; exact mat_at f k hk
  have HC := hid hc
  clear hc
  generalize mat f = M at HC ⊢
  go_enter Try.func29, Try.ntmps29
  go_wp2_with fail
  go_loop [1, 5, 6] (fun c m i => ∃ k : Nat, k ≤ 32 ∧ i = .int .i64 k ∧ c = .int .u32 ((x / 2 ^ k : Nat) : Int) ∧ m = .int .u32 (f (x % 2 ^ k) : Int)) (fun _ _ i => 32 - (intOf i).toNat)
  case atStart => exact ⟨0, by decide, rfl, by rw [Nat.pow_zero, Nat.div_one], by rw [Nat.pow_zero, Nat.mod_one, hf.zero]; rfl⟩
  case round =>
    obtain ⟨k, hk, rfl, rfl, rfl⟩ := hrel
    have HB := hid (f_bit hf x k)
    have hd : x / 2 ^ k / 2 = x / 2 ^ (k + 1) := by rw [Nat.div_div_eq_div_mul, ← Nat.pow_succ]
    have HD := hid hd
    clear hd
    have hfl := hf.lt (x % 2 ^ k) (Nat.lt_of_le_of_lt (Nat.mod_le _ _) hx)
    have hyl : x / 2 ^ k < 4294967296 := Nat.lt_of_le_of_lt (Nat.div_le_self _ _) hx
    by_cases h0 : x / 2 ^ k = 0
    · have hy : (((x / 2 ^ k : Nat) : Int) != 0) = false := by rw [h0]; rfl
      have he : f (x % 2 ^ k) = f x := by
        rw [Nat.mod_eq_of_lt]
        exact (Nat.div_eq_zero_iff_lt (Nat.two_pow_pos k)).1 h0
      have HE := hid he
      clear h0 he
      generalize x / 2 ^ k = y at *
      go_wp2_with fail
      go_ret
      exact ⟨ret_u32 (by rw [HE.out]), rfl⟩
    · have hy : (((x / 2 ^ k : Nat) : Int) != 0) = true := by rw [bne_iff_ne]; omega
      have hk2 : k < 32 := by
        rcases Nat.lt_or_ge k 32 with h | h
        · exact h
        · exact absurd (Nat.div_eq_of_lt (Nat.lt_of_lt_of_le hx (Nat.pow_le_pow_right (n := 2) (i := 32) (j := k) (by decide) h))) h0
      have hcell := HC.out k hk2
      have hpl := hf.lt (2 ^ k) (two_pow_lt k hk2)
      have hone := and_one (x / 2 ^ k) hyl
      have hxx := xor32 _ _ hfl hpl
      rcases Nat.mod_two_eq_zero_or_one (x / 2 ^ k) with h | h
      · have ht : (bits .and .u32 ((x / 2 ^ k : Nat) : Int) 1 == 1) = false := by rw [hone, h]; rfl
        rw [if_neg (by omega)] at HB
        clear h0 h hone hxx hcell
        generalize x / 2 ^ k = y at *
        generalize x % 2 ^ k = z at *
        go_wp2_with fail
        go_round
        case rel => exact ⟨k + 1, by omega, by go_num, congrArg (Value.int .u32) (by rw [← HD.out]; omega), by rw [HB.out]⟩
        case measure => simp [intOf]; omega
      · have ht : (bits .and .u32 ((x / 2 ^ k : Nat) : Int) 1 == 1) = true := by rw [hone, h]; rfl
        rw [if_pos h] at HB
        clear h0 h hone
        generalize x / 2 ^ k = y at *
        generalize f (x % 2 ^ k) = z at *
        generalize f (2 ^ k) = t at *
        go_wp2_with fail
        go_round
        case rel => exact ⟨k + 1, by omega, by go_num, congrArg (Value.int .u32) (by rw [← HD.out]; omega), by rw [HB.out]⟩
        case measure => simp [intOf]; omega

/-- The whole matrix out of its block, as one step of a region that draws. -/
theorem step_load_row {P : Program} {ops : Array Oper} {o : Oper} {a : Act} {w : World} {K : Act → World → Prop} {Q : Exit → Act → World → Prop} {E : Prop} (hgd : o.guard = none) (ty : TypeId) (x : Operand) (ho : o.op = .load ty x)
    (g : Nat) (hx : a.eval x = .pointer (some ⟨g, 0, none⟩)) (t : TypeId) (cs : Array Value) (fr : Nat × Nat) (d : TypeDesc) (hg : w.heap[g]? = some (.cells cs t fr))
    (hu : P.underlying ty = some d) (hd : (match d with | .struct _ | .array _ _ => true | _ => false) = true) (hi : (P.info? ty).map (·.size) = some cs.size)
    (h : K (a.put o.dst (.agg cs)) w) : if Region.wanted o (yielded ops a.tmps) = true then Oper.wp P o a w K Q else E := by
  have hw : Region.wanted o (yielded ops a.tmps) = true := by simp [Region.wanted, hgd]
  rw [if_pos hw]
  exact wp_load_row ty x ho g hx t cs fr d hg hu hd hi h
theorem s44m (f : Nat → Nat) : (Try.prog.info? 44).map (·.size) = some (mat f).size := by rw [mat_size]; exact s44

set_option maxRecDepth 100000 in
theorem sqf_any {w : World} {p : Nat} (f : Nat → Nat) (hf : Lin f) (x : Nat) (hx : x < 4294967296) (hp : w.heap[p]? = some (.cells (mat f) 44 (0, 0))) :
    Calls Try.prog 28 #[.int .u32 (x : Int), .pointer (some ⟨p, 0, none⟩)] w fun e w' => e = .returned (.int .u32 (f (f x) : Int)) ∧ Below w.heap.size w w' := by
  have hl := hf.lt x hx
  have hlt : p < w.heap.size := (Array.getElem?_eq_some_iff.1 hp).1
  have H1 := hid (show w.drew.heap[p]? = some (.cells (mat f) 44 (0, 0)) from hp)
  have H2 : RowKit.Hid ((w.drew.alloc (.cells (mat f) 44)).heap[p]? = some (.cells (mat f) 44 (0, 0))) :=
    hid (by rw [RowKit.Below.heap_alloc _ _ _ (by exact hlt)]; exact hp)
  have HB := hid ((((Below.refl w.heap.size w).drew).alloc (Nat.le_refl _) (.cells (mat f) 44)).alloc (by simp) (.cells (mat f) 44))
  clear hp
  go_enter Try.func28, Try.ntmps28
  go_wp2_with fail
  refine wp_region_any (by kernel_rfl) ?_
  change wpAny _ _ _ _ _ _ _ (World.drew _)
  refine wpAny_take (i := 2) (v := .int .u32 (x : Int)) rfl (by kernel_rfl) (by kernel_rfl) (by kernel_rfl) (fun _ _ _ h => h) (Or.inl ⟨by rfl, ?_⟩) ?_
  · intro w; go_simp
  refine wpAny_ready (rs := [0, 1]) (by kernel_rfl) (by simp) ?_
  refine AllReady.cons rfl (fun K hK => ?_) ?_
  · refine step_load_row rfl 44 _ rfl p rfl 44 (mat f) (0, 0) _ H1.out Try.underlying44 rfl (s44m f) ?_
    refine hK _ _ ?_
    clear hK K
    refine wpAny_ready (rs := [1]) (by kernel_rfl) (by simp) ?_
    refine AllReady.cons rfl (fun K hK => ?_) ?_
    · refine step_load_row rfl 44 _ rfl p rfl 44 (mat f) (0, 0) _ H1.out Try.underlying44 rfl (s44m f) ?_
      refine hK _ _ ?_
      clear hK K
      refine wpAny_ready (rs := [3]) (by kernel_rfl) (by simp) ?_
      refine AllReady.cons rfl (fun K hK => ?_) ?_
      · go_simp
        go_at_call 29
        refine (of_any f hf x hx _).mono ?_
        rintro e w9 ⟨rfl, rfl⟩
        refine hK _ _ ?_
        clear hK K
        refine wpAny_ready (rs := [4]) (by kernel_rfl) (by simp) ?_
        refine AllReady.cons rfl (fun K hK => ?_) ?_
        · go_simp
          go_at_call 29
          refine (of_any f hf _ hl _).mono ?_
          rintro e w9 ⟨rfl, rfl⟩
          refine hK _ _ ?_
          clear hK K
          refine wpAny_take (i := 5) (v := .int .u32 (f (f x) : Int)) rfl (by kernel_rfl) (by kernel_rfl) (by kernel_rfl) (fun _ _ _ h => h) (Or.inl ⟨by rfl, ?_⟩) ?_
          · intro w; go_simp
          refine wpAny_done (by kernel_rfl) ?_ _
          go_wp2_with fail
          go_ret
          exact ⟨rfl, HB.out⟩
        exact AllReady.nil
      exact AllReady.nil
    exact AllReady.nil
  refine AllReady.cons rfl (fun K hK => ?_) ?_
  · refine step_load_row rfl 44 _ rfl p rfl 44 (mat f) (0, 0) _ H1.out Try.underlying44 rfl (s44m f) ?_
    refine hK _ _ ?_
    clear hK K
    refine wpAny_ready (rs := [0, 3]) (by kernel_rfl) (by simp) ?_
    refine AllReady.cons rfl (fun K hK => ?_) ?_
    · refine step_load_row rfl 44 _ rfl p rfl 44 (mat f) (0, 0) _ H1.out Try.underlying44 rfl (s44m f) ?_
      refine hK _ _ ?_
      clear hK K
      refine wpAny_ready (rs := [3]) (by kernel_rfl) (by simp) ?_
      refine AllReady.cons rfl (fun K hK => ?_) ?_
      · go_simp
        go_at_call 29
        refine (of_any f hf x hx _).mono ?_
        rintro e w9 ⟨rfl, rfl⟩
        refine hK _ _ ?_
        clear hK K
        refine wpAny_ready (rs := [4]) (by kernel_rfl) (by simp) ?_
        refine AllReady.cons rfl (fun K hK => ?_) ?_
        · go_simp
          go_at_call 29
          refine (of_any f hf _ hl _).mono ?_
          rintro e w9 ⟨rfl, rfl⟩
          refine hK _ _ ?_
          clear hK K
          refine wpAny_take (i := 5) (v := .int .u32 (f (f x) : Int)) rfl (by kernel_rfl) (by kernel_rfl) (by kernel_rfl) (fun _ _ _ h => h) (Or.inl ⟨by rfl, ?_⟩) ?_
          · intro w; go_simp
          refine wpAny_done (by kernel_rfl) ?_ _
          go_wp2_with fail
          go_ret
          exact ⟨rfl, HB.out⟩
        exact AllReady.nil
      exact AllReady.nil
    refine AllReady.cons rfl (fun K hK => ?_) ?_
    · go_simp
      go_at_call 29
      refine (of_any f hf x hx _).mono ?_
      rintro e w9 ⟨rfl, rfl⟩
      refine hK _ _ ?_
      clear hK K
      refine wpAny_ready (rs := [0]) (by kernel_rfl) (by simp) ?_
      refine AllReady.cons rfl (fun K hK => ?_) ?_
      · refine step_load_row rfl 44 _ rfl p rfl 44 (mat f) (0, 0) _ H2.out Try.underlying44 rfl (s44m f) ?_
        refine hK _ _ ?_
        clear hK K
        refine wpAny_ready (rs := [4]) (by kernel_rfl) (by simp) ?_
        refine AllReady.cons rfl (fun K hK => ?_) ?_
        · go_simp
          go_at_call 29
          refine (of_any f hf _ hl _).mono ?_
          rintro e w9 ⟨rfl, rfl⟩
          refine hK _ _ ?_
          clear hK K
          refine wpAny_take (i := 5) (v := .int .u32 (f (f x) : Int)) rfl (by kernel_rfl) (by kernel_rfl) (by kernel_rfl) (fun _ _ _ h => h) (Or.inl ⟨by rfl, ?_⟩) ?_
          · intro w; go_simp
          refine wpAny_done (by kernel_rfl) ?_ _
          go_wp2_with fail
          go_ret
          exact ⟨rfl, HB.out⟩
        exact AllReady.nil
      exact AllReady.nil
    exact AllReady.nil
  exact AllReady.nil
end Go.Proofs.Ytlkeifciphehnaa.Crc
