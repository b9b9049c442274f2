/- What a part's code begins with is read as its way and its numbers; a code's parts are its first bits. Conditions: the list is coded. -/
import Derived.Test.YtjimamjhakainaaSZi
import Derived.Test.YtjimamjhakainaaSYu
namespace Go.Proofs.Ytjimamjhakainaa.Runs
open Go.RowKit Bit Rice

theorem grun_of_pfx (I : Nat → Int) (k n : Nat) (hk : k ≤ 30) (hn : n ≤ 1048576) (hz : allZ I n) (r Q : Nat × Nat) (hQ0 : Pfx (cfin I k r n) Q) : ∀ f o, o ≤ n → n - o ≤ f → rn I o = 0 →
    GRun (pad Q.1 Q.2) ((Q.2 + 7) / 8) k f (n - o) (cgd I k r o).2 (li I (n - o) o, 0, (cfin I k r n).2)
  | f, o, ho, hf, hr => by
    have hfin : n - o = 0 → (cgd I k r o).2 = (cfin I k r n).2 := fun e => by
      obtain rfl : o = n := by omega
      unfold cfin; rw [hr, if_neg (Nat.lt_irrefl _)]
    match f with
    | 0 =>
      have e : n - o = 0 := by omega
      rw [e]
      exact ⟨rfl, by rw [hfin e]; rfl⟩
    | f + 1 =>
      by_cases e : n - o = 0
      · rw [e]
        exact .inl ⟨rfl, by rw [hfin e]; rfl⟩
      · obtain ⟨z, h1, h2, h3⟩ := find_run I o (n - o)
        obtain ⟨r1, r2⟩ := runs_zero (kp := k) (p := r) hr z h2
        have hgz := gl_ok (v := z + 1) ⟨by omega, by omega⟩
        refine .inr ⟨by omega, ?_⟩
        rcases h3 with h3 | ⟨h3, h4⟩
        · have hoz : o + z = n := by omega
          have hQ : cfin I k r n = app (cgd I k r o) (z + 1) (gl (z + 1)) := by
            unfold cfin
            rw [← hoz, r1, r2, if_pos (by omega)]; rfl
          obtain ⟨s1, s2⟩ := pfx_read (p := cgd I k r o) (q := Q) hgz.2.2.2.1 (by rw [← hQ]; exact hQ0)
          have hg := gamma_of_code (v := z + 1) ⟨by omega, by omega⟩ s2 s1
          have hQ2 : (cgd I k r o).2 + gl (z + 1) = (cfin I k r n).2 := by rw [hQ]; rfl
          rw [hQ2] at hg
          refine ⟨(0, (cfin I k r n).2, n - o, 0), ?_, .inr (.inl ⟨rfl, rfl, ?_⟩)⟩
          · unfold Stp
            rw [hg]
            exact .inr (.inr (.inl ⟨rfl, by show z + 1 - 1 = n - o; omega, rfl⟩))
          · rw [← h3, li_zeros I z o h2]
        · have hlt : o + z < n := by omega
          obtain ⟨n1, n2⟩ := runs_next (kp := k) (p := r) hr h2 h4
          have hc : coded (zg (I (o + z)) - 1) := by have := hz (o + z) hlt; unfold coded at *; omega
          have hcz := hz (o + z) hlt
          have hzp := zg_pos h4
          have hp1 : Pfx (cgd I k r (o + z + 1)) (cfin I k r n) := (cgd_pfx I k hk r n hn hz (o + z + 1) (by omega)).trans (cfin_pfx I k r n hn)
          rw [n2] at hp1
          have hp2 : Pfx (gam (cgd I k r o) (z + 1)) (cfin I k r n) := (pfx_app _ (cod_lt hk hc)).trans hp1
          obtain ⟨s1, s2⟩ := pfx_read (p := cgd I k r o) (q := Q) hgz.2.2.2.1 (hp2.trans hQ0)
          obtain ⟨t1, t2⟩ := pfx_read (p := gam (cgd I k r o) (z + 1)) (q := Q) (cod_lt hk hc) (hp1.trans hQ0)
          have hg := gamma_of_code (v := z + 1) ⟨by omega, by omega⟩ s2 s1
          have hgr := get_of_code hk hc t2 t1
          have ih := grun_of_pfx I k n hk hn hz r Q hQ0 f (o + z + 1) (by omega) (by omega) n1
          have e2 : (cgd I k r (o + z + 1)).2 = (gam (cgd I k r o) (z + 1)).2 + cost (zg (I (o + z)) - 1) k := by rw [n2]; rfl
          rw [e2] at ih
          refine ⟨(0, (gam (cgd I k r o) (z + 1)).2 + cost (zg (I (o + z)) - 1) k, z, I (o + z)), ?_, .inr (.inr ⟨rfl, h3, (li I (n - (o + z + 1)) (o + z + 1), 0, (cfin I k r n).2), ?_, ?_⟩)⟩
          · unfold Stp
            rw [hg]
            refine .inr (.inr (.inr ⟨rfl, by show z + 1 - 1 < n - o; omega, _, hgr, .inr (.inr ⟨rfl, ?_, ?_⟩)⟩))
            · show zg (I (o + z)) - 1 ≠ 1099511627775
              unfold coded at hcz; omega
            · show (0, (gam (cgd I k r o) (z + 1)).2 + cost (zg (I (o + z)) - 1) k, z, I (o + z)) = (0, (gam (cgd I k r o) (z + 1)).2 + cost (zg (I (o + z)) - 1) k, z + 1 - 1, zgi (zg (I (o + z)) - 1 + 1))
              rw [show zg (I (o + z)) - 1 + 1 = zg (I (o + z)) from by omega, zgi_zg]; rfl
          · rw [show n - o - z - 1 = n - (o + z + 1) from by omega]
            exact ih
          · show (li I (n - o) o, (0 : Int), _) = (if (0 : Int) = 0 then List.replicate z 0 ++ I (o + z) :: li I (n - (o + z + 1)) (o + z + 1) else [], 0, _)
            rw [if_pos rfl, ← li_runs I (n - (o + z + 1)) z o h2, show z + 1 + (n - (o + z + 1)) = n - o from by omega]

/-- The codes of a list are read as that list. -/
theorem cods_pfx (U : Nat → Nat) (k : Nat) (hk : k ≤ 30) (r : Nat × Nat) : ∀ n, allC U n → Pfx r (cods U k r.1 r.2 n)
  | 0, _ => Pfx.refl _
  | n + 1, h => (cods_pfx U k hk r n fun i hi => h i (by omega)).trans (pfx_app (cods U k r.1 r.2 n) (cod_lt hk (h n (by omega))))
def ulist (U : Nat → Nat) (n : Nat) : List Nat := (List.range n).map U
theorem run_of_pfx (U : Nat → Nat) (k : Nat) (hk : k ≤ 30) (r Q : Nat × Nat) : ∀ n, allC U n → Pfx (cods U k r.1 r.2 n) Q → Run (pad Q.1 Q.2) ((Q.2 + 7) / 8) k r.2 n (ulist U n) (cods U k r.1 r.2 n).2
  | 0, _, _ => ⟨rfl, rfl⟩
  | n + 1, h, hq => by
    have hc := h n (by omega)
    have hlt := cod_lt hk hc
    have hp : Pfx (cods U k r.1 r.2 n) Q := (pfx_app (cods U k r.1 r.2 n) hlt).trans hq
    have ih := run_of_pfx U k hk r Q n (fun i hi => h i (by omega)) hp
    obtain ⟨s1, s2⟩ := pfx_read (p := cods U k r.1 r.2 n) (q := Q) hlt hq
    exact ⟨ulist U n, _, U n, ih, get_of_code hk hc s2 s1, by unfold ulist; rw [List.range_succ, List.map_append]; rfl⟩
theorem ulist_len (U : Nat → Nat) (n : Nat) : (ulist U n).length = n := by simp [ulist]
theorem ulist_at (U : Nat → Nat) (n j : Nat) (h : j < n) : (ulist U n).getD j 0 = U j := by simp [ulist, h]
end Go.Proofs.Ytjimamjhakainaa.Runs
namespace Go.Proofs.Ytjimamjhakainaa.Part
open Go.RowKit Bit Rice Runs

theorem rawc_pfx (I : Nat → Int) (k : Nat) (r : Nat × Nat) : ∀ j n, j ≤ n → Pfx (rawc I k r j) (rawc I k r n)
  | j, 0, h => by
    obtain rfl : j = 0 := by omega
    exact Pfx.refl _
  | j, n + 1, h => by
    by_cases e : j = n + 1
    · rw [e]; exact Pfx.refl _
    · exact (rawc_pfx I k r j n (by omega)).trans (pfx_app _ (mask_lt (I n) k))
theorem cgd_pfx0 (I : Nat → Int) (k : Nat) (hk : k ≤ 30) (r : Nat × Nat) (n : Nat) (hn : n ≤ 1048576) (hz : allZ I n) : Pfx r (cfin I k r n) := by
  have h := cgd_pfx I k hk r n hn hz 0 (Nat.zero_le _)
  exact h.trans (cfin_pfx I k r n hn)
theorem pcw_pfx (x : Nat × Nat × Nat) (hx : wok x) (I : Nat → Int) (n : Nat) (hn : n ≤ 1048576) (hz : allZ I n) (r : Nat × Nat) : Pfx r (pcw x I n r) := by
  unfold pcw
  rcases hx with h | ⟨h, h1⟩ | ⟨h, h1⟩ | ⟨h, h1, h2⟩
  · rw [if_pos h]; exact pfx_app r (by decide)
  · rw [if_neg (by omega), if_pos h]
    exact (pfx_app r (v := x.2.1) (l := 6) (by omega)).trans (cods_pfx (zs I) x.2.1 h1 (app r x.2.1 6) n hz)
  · rw [if_neg (by omega), if_neg (by omega), if_pos h]
    exact ((pfx_app r (v := 32) (l := 6) (by decide)).trans (pfx_app _ (v := x.2.1) (l := 5) (by omega))).trans (cgd_pfx0 I x.2.1 h1 _ n hn hz)
  · rw [if_neg (by omega), if_neg (by omega), if_neg (by omega)]
    exact ((pfx_app r (v := 33) (l := 6) (by decide)).trans (pfx_app _ (v := x.2.1) (l := 6) (by omega))).trans (rawc_pfx I x.2.1 _ 0 n (Nat.zero_le _))
theorem pfs_pfx {I : Nat → Int} {len : Nat} (hz : allZ I len) (hlen : len ≤ 65536) (p : Nat) : ∀ (l : List Nat) (r : Nat × Nat), (∀ i ∈ l, i < 2 ^ p) → Pfx r (pfs I len p r l)
  | [], r, _ => Pfx.refl _
  | i :: l, r, h => by
    have hi := h i (List.mem_cons_self ..)
    have hzp := allZ_part hz p i hi
    have h1 := pcw_pfx (wy (pI I len p i) (pn len p i)) (wy_ok _ _ (gr_cd hzp)) (pI I len p i) (pn len p i) (by have := pn_le len p i hi; omega) hzp r
    exact h1.trans (pfs_pfx hz hlen p l (pcode (pI I len p i) (pn len p i) r) fun j hj => h j (List.mem_cons_of_mem _ hj))
theorem pfs_small {I : Nat → Int} {len : Nat} (hz : allZ I len) (hlen : len ≤ 200) (p : Nat) : ∀ (l : List Nat) (r : Nat × Nat), (∀ i ∈ l, i < 2 ^ p) → (pfs I len p r l).2 ≤ r.2 + 25480 * l.length
  | [], r, _ => Nat.le_refl _
  | i :: l, r, h => by
    have h1 := pfs_small hz hlen p l (pcode (pI I len p i) (pn len p i) r) fun j hj => h j (List.mem_cons_of_mem _ hj)
    have hi := h i (List.mem_cons_self ..)
    have h2 := (pcw_le (wy (pI I len p i) (pn len p i)) (pI I len p i) (pn len p i) r (wy_ok _ _ (gr_cd (allZ_part hz p i hi)))).2
    have h3 := pn_le len p i hi
    have e2 : pcw (wy (pI I len p i) (pn len p i)) (pI I len p i) (pn len p i) r = pcode (pI I len p i) (pn len p i) r := rfl
    have e : pfs I len p r (i :: l) = pfs I len p (pcode (pI I len p i) (pn len p i) r) l := rfl
    rw [e2] at h2
    rw [e, List.length_cons]
    omega
/-- Bits of a prefix, read. -/
theorem pfx_get {r Q : Nat × Nat} {v l : Nat} (hv : v < 2 ^ l) (h : Pfx (app r v l) Q) : getN (pad Q.1 Q.2) ((Q.2 + 7) / 8) r.2 l = (v, 0, (app r v l).2) := by
  obtain ⟨s1, s2⟩ := pfx_read (p := r) (q := Q) hv h
  rw [getN_ok (by omega), s1]
  rfl
theorem pfx_le {r Q : Nat × Nat} (h : Pfx r Q) : r.2 ≤ 8 * ((Q.2 + 7) / 8) := by have := h.2; omega
/-- Numbers put into others from place o on. -/
def ins (F I : Nat → Int) (o n : Nat) (j : Nat) : Int := if o ≤ j ∧ j < o + n then I (j - o) else F j
theorem ins_0 (F I : Nat → Int) (o : Nat) : ins F I o 0 = F := by funext j; unfold ins; rw [if_neg (by omega)]
theorem ins_step (F I : Nat → Int) (o n j : Nat) : (if j = o + n then I n else ins F I o n j) = ins F I o (n + 1) j := by
  unfold ins
  by_cases e : j = o + n
  · subst e; rw [if_pos rfl, if_pos (by omega), Nat.add_sub_cancel_left]
  · rw [if_neg e]
    by_cases h : o ≤ j ∧ j < o + n
    · rw [if_pos h, if_pos (by omega)]
    · rw [if_neg h, if_neg (by omega)]
theorem ins_same {F I : Nat → Int} {o n : Nat} (h : ∀ i, i < n → F (o + i) = I i) : ins F I o n = F := by
  funext j
  unfold ins
  by_cases e : o ≤ j ∧ j < o + n
  · rw [if_pos e, ← h (j - o) (by omega)]; congr 1; omega
  · rw [if_neg e]
end Go.Proofs.Ytjimamjhakainaa.Part
