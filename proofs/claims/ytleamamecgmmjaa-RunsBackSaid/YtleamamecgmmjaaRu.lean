/- What Put has written is read as it was; RunsBack's walk. Conditions: those of the memory's own form alone. -/
import Derived.Test.YtleamamecgmmjaaRt
import Derived.Test.YtleamamecgmmjaaRj
namespace Go.Proofs.Ytleamamecgmmjaa.Runs
open Go.RowKit Bit Rice

/-- Some bits are the first ones of others. -/
def Pfx (p q : Nat × Nat) : Prop := q.1 / 2 ^ (q.2 - p.2) = p.1 ∧ p.2 ≤ q.2
theorem Pfx.refl (p : Nat × Nat) : Pfx p p := ⟨by rw [Nat.sub_self, Nat.pow_zero, Nat.div_one], Nat.le_refl _⟩
theorem Pfx.trans {p q r : Nat × Nat} (h : Pfx p q) (h' : Pfx q r) : Pfx p r := by
  refine ⟨?_, Nat.le_trans h.2 h'.2⟩
  have h1 := h.2
  have h2 := h'.2
  rw [show r.2 - p.2 = (r.2 - q.2) + (q.2 - p.2) from by omega, Nat.pow_add, ← Nat.div_div_eq_div_mul, h'.1, h.1]
theorem pfx_app (p : Nat × Nat) {v l : Nat} (hv : v < 2 ^ l) : Pfx p (app p v l) := by
  refine ⟨?_, Nat.le_add_right _ _⟩
  show (p.1 * 2 ^ l + v) / 2 ^ (p.2 + l - p.2) = p.1
  rw [Nat.add_sub_cancel_left, Nat.mul_comm, Nat.mul_add_div (Nat.two_pow_pos _), Nat.div_eq_of_lt hv, Nat.add_zero]
theorem pfx_read {p q : Nat × Nat} {v l : Nat} (hv : v < 2 ^ l) (h : Pfx (app p v l) q) : seg (pad q.1 q.2) (8 * ((q.2 + 7) / 8)) p.2 l = v ∧ p.2 + l ≤ 8 * ((q.2 + 7) / 8) := by
  have h2 : p.2 + l ≤ q.2 := h.2
  have h1 : q.1 / 2 ^ (q.2 - (p.2 + l)) = p.1 * 2 ^ l + v := h.1
  refine ⟨?_, by omega⟩
  rw [seg_pad _ _ _ _ h2]
  unfold seg
  rw [Nat.sub_sub, h1, Nat.mul_comm, Nat.mul_add_mod, Nat.mod_eq_of_lt hv]

theorem cgd_pfx (I : Nat → Int) (k : Nat) (hk : k ≤ 30) (p : Nat × Nat) : ∀ m, m ≤ 1048576 → allZ I m → ∀ j, j ≤ m → Pfx (cgd I k p j) (cgd I k p m)
  | 0, _, _, j, hj => by
    obtain rfl : j = 0 := by omega
    exact Pfx.refl _
  | m + 1, hm, hz, j, hj => by
    by_cases e : j = m + 1
    · rw [e]; exact Pfx.refl _
    · refine (cgd_pfx I k hk p m (by omega) (fun i hi => hz i (by omega)) j (by omega)).trans ?_
      show Pfx (cgd I k p m) (if I m = 0 then cgd I k p m else app (gam (cgd I k p m) (rn I m + 1)) (cod (zg (I m) - 1) k) (cost (zg (I m) - 1) k))
      split
      · exact Pfx.refl _
      · have hr := rn_le I m
        have hc : coded (zg (I m) - 1) := by have := hz m (by omega); unfold coded at *; omega
        exact (pfx_app _ (gl_ok ⟨by omega, by omega⟩).2.2.2.1).trans (pfx_app _ (cod_lt hk hc))
theorem cfin_pfx (I : Nat → Int) (k : Nat) (p : Nat × Nat) (len : Nat) (hl : len ≤ 1048576) : Pfx (cgd I k p len) (cfin I k p len) := by
  have hr := rn_le I len
  unfold cfin
  split
  · exact pfx_app _ (gl_ok ⟨by omega, by omega⟩).2.2.2.1
  · exact Pfx.refl _
theorem cgd_rcs (I : Nat → Int) (k : Nat) : ∀ i, (cgd I k (0, 0) i).2 = rcs I k i
  | 0 => rfl
  | i + 1 => by
    have h := cgd_rcs I k i
    show (if I i = 0 then cgd I k (0, 0) i else app (gam (cgd I k (0, 0) i) (rn I i + 1)) (cod (zg (I i) - 1) k) (cost (zg (I i) - 1) k) : Nat × Nat).2 = (if I i = 0 then _ else _)
    split
    · exact h
    · show (cgd I k (0, 0) i).2 + gl (rn I i + 1) + cost (zg (I i) - 1) k = _
      rw [h]
theorem cfin_cst (I : Nat → Int) (k len : Nat) : (cfin I k (0, 0) len).2 = cst I k len := by
  rw [cst_rcs]
  unfold cfin
  split
  · show (cgd I k (0, 0) len).2 + gl (rn I len + 1) = _; rw [cgd_rcs]
  · exact cgd_rcs I k len

/-- m numbers from place o on. -/
def li (I : Nat → Int) : Nat → Nat → List Int
  | 0, _ => []
  | m + 1, o => I o :: li I m (o + 1)
theorem li_len (I : Nat → Int) : ∀ m o, (li I m o).length = m
  | 0, _ => rfl
  | m + 1, o => by show (li I m (o + 1)).length + 1 = m + 1; rw [li_len I m (o + 1)]
theorem li_at (I : Nat → Int) : ∀ m o i, i < m → padd (li I m o) i = I (o + i)
  | 0, _, _, h => absurd h (Nat.not_lt_zero _)
  | m + 1, o, 0, _ => rfl
  | m + 1, o, i + 1, h => by
    have := li_at I m (o + 1) i (by omega)
    show padd (li I m (o + 1)) i = I (o + (i + 1))
    rw [this]; congr 1; omega
theorem li_runs (I : Nat → Int) (m : Nat) : ∀ z o, (∀ i, i < z → I (o + i) = 0) → li I (z + 1 + m) o = List.replicate z 0 ++ I (o + z) :: li I m (o + z + 1)
  | 0, o, _ => by rw [show 0 + 1 + m = m + 1 from by omega]; rfl
  | z + 1, o, h => by
    have h0 : I o = 0 := h 0 (by omega)
    have := li_runs I m z (o + 1) fun i hi => by have := h (i + 1) (by omega); rw [show o + 1 + i = o + (i + 1) from by omega]; exact this
    rw [show z + 1 + 1 + m = (z + 1 + m) + 1 from by omega]
    show I o :: li I (z + 1 + m) (o + 1) = 0 :: (List.replicate z 0 ++ I (o + (z + 1)) :: li I m (o + (z + 1) + 1))
    rw [this, h0, show o + 1 + z = o + (z + 1) from by omega]
theorem li_zeros (I : Nat → Int) : ∀ z o, (∀ i, i < z → I (o + i) = 0) → li I z o = List.replicate z 0
  | 0, _, _ => rfl
  | z + 1, o, h => by
    have := li_zeros I z (o + 1) fun i hi => by have := h (i + 1) (by omega); rw [show o + 1 + i = o + (i + 1) from by omega]; exact this
    show I o :: li I z (o + 1) = 0 :: List.replicate z 0
    rw [this, show I o = 0 from h 0 (by omega)]
theorem find_run (I : Nat → Int) (o : Nat) : ∀ m, ∃ z, z ≤ m ∧ (∀ i, i < z → I (o + i) = 0) ∧ (z = m ∨ (z < m ∧ I (o + z) ≠ 0))
  | 0 => ⟨0, Nat.le_refl _, fun i hi => absurd hi (Nat.not_lt_zero _), .inl rfl⟩
  | m + 1 => by
    obtain ⟨z, h1, h2, h3⟩ := find_run I o m
    rcases h3 with rfl | ⟨h3, h4⟩
    · by_cases e : I (o + z) = 0
      · refine ⟨z + 1, Nat.le_refl _, fun i hi => ?_, .inl rfl⟩
        by_cases e2 : i = z
        · rw [e2]; exact e
        · exact h2 i (by omega)
      · exact ⟨z, by omega, h2, .inr ⟨by omega, e⟩⟩
    · exact ⟨z, by omega, h2, .inr ⟨by omega, h4⟩⟩

theorem grun_of_cfin (I : Nat → Int) (k n : Nat) (hk : k ≤ 30) (hn : n ≤ 1048576) (hz : allZ I n) : ∀ f o, o ≤ n → n - o ≤ f → rn I o = 0 →
    GRun (pad (cfin I k (0, 0) n).1 (cfin I k (0, 0) n).2) (((cfin I k (0, 0) n).2 + 7) / 8) k f (n - o) (cgd I k (0, 0) o).2 (li I (n - o) o, 0, (cfin I k (0, 0) n).2)
  | f, o, ho, hf, hr => by
    have hfin : n - o = 0 → (cgd I k (0, 0) o).2 = (cfin I k (0, 0) n).2 := fun e => by
      obtain rfl : o = n := by omega
      unfold cfin; rw [hr, if_neg (Nat.lt_irrefl _)]
    match f with
    | 0 =>
      have e : n - o = 0 := by omega
      rw [e]
      exact ⟨rfl, by rw [hfin e]; rfl⟩
    | f + 1 =>
      by_cases e : n - o = 0
      · rw [e]
        exact .inl ⟨rfl, by rw [hfin e]; rfl⟩
      · obtain ⟨z, h1, h2, h3⟩ := find_run I o (n - o)
        obtain ⟨r1, r2⟩ := runs_zero (kp := k) (p := (0, 0)) hr z h2
        have hgz := gl_ok (v := z + 1) ⟨by omega, by omega⟩
        refine .inr ⟨by omega, ?_⟩
        rcases h3 with h3 | ⟨h3, h4⟩
        · have hoz : o + z = n := by omega
          have hQ : cfin I k (0, 0) n = app (cgd I k (0, 0) o) (z + 1) (gl (z + 1)) := by
            unfold cfin
            rw [← hoz, r1, r2, if_pos (by omega)]; rfl
          obtain ⟨s1, s2⟩ := pfx_read (p := cgd I k (0, 0) o) (q := cfin I k (0, 0) n) hgz.2.2.2.1 (by rw [hQ]; exact Pfx.refl _)
          have hg := gamma_of_code (v := z + 1) ⟨by omega, by omega⟩ s2 s1
          have hQ2 : (cgd I k (0, 0) o).2 + gl (z + 1) = (cfin I k (0, 0) n).2 := by rw [hQ]; rfl
          rw [hQ2] at hg
          refine ⟨(0, (cfin I k (0, 0) n).2, n - o, 0), ?_, .inr (.inl ⟨rfl, rfl, ?_⟩)⟩
          · unfold Stp
            rw [hg]
            exact .inr (.inr (.inl ⟨rfl, by show z + 1 - 1 = n - o; omega, rfl⟩))
          · rw [← h3, li_zeros I z o h2]
        · have hlt : o + z < n := by omega
          obtain ⟨n1, n2⟩ := runs_next (kp := k) (p := (0, 0)) hr h2 h4
          have hc : coded (zg (I (o + z)) - 1) := by have := hz (o + z) hlt; unfold coded at *; omega
          have hcz := hz (o + z) hlt
          have hzp := zg_pos h4
          have hp1 : Pfx (cgd I k (0, 0) (o + z + 1)) (cfin I k (0, 0) n) := (cgd_pfx I k hk (0, 0) n hn hz (o + z + 1) (by omega)).trans (cfin_pfx I k (0, 0) n hn)
          rw [n2] at hp1
          have hp2 : Pfx (gam (cgd I k (0, 0) o) (z + 1)) (cfin I k (0, 0) n) := (pfx_app _ (cod_lt hk hc)).trans hp1
          obtain ⟨s1, s2⟩ := pfx_read (p := cgd I k (0, 0) o) (q := cfin I k (0, 0) n) hgz.2.2.2.1 hp2
          obtain ⟨t1, t2⟩ := pfx_read (p := gam (cgd I k (0, 0) o) (z + 1)) (q := cfin I k (0, 0) n) (cod_lt hk hc) hp1
          have hg := gamma_of_code (v := z + 1) ⟨by omega, by omega⟩ s2 s1
          have hgr := get_of_code hk hc t2 t1
          have ih := grun_of_cfin I k n hk hn hz f (o + z + 1) (by omega) (by omega) n1
          have e2 : (cgd I k (0, 0) (o + z + 1)).2 = (gam (cgd I k (0, 0) o) (z + 1)).2 + cost (zg (I (o + z)) - 1) k := by rw [n2]; rfl
          rw [e2] at ih
          refine ⟨(0, (gam (cgd I k (0, 0) o) (z + 1)).2 + cost (zg (I (o + z)) - 1) k, z, I (o + z)), ?_, .inr (.inr ⟨rfl, h3, (li I (n - (o + z + 1)) (o + z + 1), 0, (cfin I k (0, 0) n).2), ?_, ?_⟩)⟩
          · unfold Stp
            rw [hg]
            refine .inr (.inr (.inr ⟨rfl, by show z + 1 - 1 < n - o; omega, _, hgr, .inr (.inr ⟨rfl, ?_, ?_⟩)⟩))
            · show zg (I (o + z)) - 1 ≠ 1099511627775
              unfold coded at hcz; omega
            · show (0, (gam (cgd I k (0, 0) o) (z + 1)).2 + cost (zg (I (o + z)) - 1) k, z, I (o + z)) = (0, (gam (cgd I k (0, 0) o) (z + 1)).2 + cost (zg (I (o + z)) - 1) k, z + 1 - 1, zgi (zg (I (o + z)) - 1 + 1))
              rw [show zg (I (o + z)) - 1 + 1 = zg (I (o + z)) from by omega, zgi_zg]; rfl
          · rw [show n - o - z - 1 = n - (o + z + 1) from by omega]
            exact ih
          · show (li I (n - o) o, (0 : Int), _) = (if (0 : Int) = 0 then List.replicate z 0 ++ I (o + z) :: li I (n - (o + z + 1)) (o + z + 1) else [], 0, _)
            rw [if_pos rfl, ← li_runs I (n - (o + z + 1)) z o h2, show z + 1 + (n - (o + z + 1)) = n - o from by omega]

set_option maxHeartbeats 1600000 in
set_option maxRecDepth 100000 in
theorem back_walk (w : World) (a : Option Addr) (len cap b off : Nat) (I : Nat → Int) (h : Is w a len cap b off I) (k : Int) :
    Calls Try.prog 7 #[.slice a len cap, .int .i64 k] w fun e w' => e = .returned (.bool true) ∧ Below w.heap.size w w' := by
  by_cases h2 : 200 < len
  · have h1 : (200 : Int) < (len : Int) := by omega
    go_enter Try.func7, Try.ntmps7
    go_wp2_with fail
    refine (known_true _).mono ?_
    rintro e w' ⟨rfl, hb⟩
    go_wp2_with fail
    go_ret
    exact ⟨rfl, hb⟩
  · have h1 : ¬ (200 : Int) < (len : Int) := by omega
    have H := hid h
    have hw0 := new_writer' w 26 _ (Nat.le_refl _)
    have hb0 : Below w.heap.size w (w.alloc (.cells #[.slice none 0 0, .int .u64 0, .int .i64 0] 26)) := (Below.refl _ _).alloc (Nat.le_refl _) _
    have HB0 := hid hb0
    have HLT := hid h.lt
    clear h hb0
    go_enter Try.func7, Try.ntmps7
    go_wp2_with fail
    generalize hW : (w.alloc (.cells #[.slice none 0 0, .int .u64 0, .int .i64 0] 26)) = W at *
    clear hW
    by_cases hk : okK k
    · by_cases hal : allZ I len
      · obtain ⟨kk, rfl⟩ := Int.eq_ofNat_of_zero_le hk.1
        have hkk : kk ≤ 30 := by have := hk.2; omega
        refine Calls.mono (rp_ok w.heap.size w.heap.size 0 a len cap b off I kk hkk none 0 0 0 W hw0 (H.out.below HB0.out H.out.lt) (fun h0 => ⟨by have := HLT.out h0; omega, by simp [blk]⟩) hal (by decide) (by omega)) ?_
        rintro e w1 ⟨rfl, ao1, cap1, hw1, hp1⟩
        have hb1 : Below w.heap.size w w1 := HB0.out.trans (pushed_below hp1 (Nat.le_refl _) (fun g hg => by simp [blk] at hg) HB0.out.size)
        have hcl := (cfin_le I kk (0, 0) len).2
        simp only at hcl
        have hrun := grun_of_cfin I kk len hkk (by omega) hal len 0 (Nat.zero_le _) (by omega) rfl
        rw [Nat.sub_zero] at hrun
        have hce : cstI I (kk : Int) len = (cfin I kk (0, 0) len).2 := by unfold cstI; rw [if_pos ⟨hk, hal⟩, cfin_cst]
        have HCO := hid fun w' (hb : Below w.heap.size w w') => rcost_r w' a len cap b off I (H.out.below hb H.out.lt) (by omega) (kk : Int)
        rw [hce] at HCO
        have HB1 := hid hb1
        have HRUN := hid hrun
        clear hw0 hp1 HB0 hb1 hrun hce hal hk
        generalize hcf : cfin I kk (0, 0) len = cj at *
        clear hcf
        obtain ⟨N, L⟩ := cj
        simp only at hw1 hcl HRUN HCO
        go_wp2_with fail
        refine (bytes_any hw1 (by omega)).mono ?_
        rintro e w2 ⟨rfl, b2, r2⟩
        have hw2 := WrN.upto hw1 b2
        have HB2 := hid (HB1.out.trans (b2.mono HB1.out.size))
        clear hw1 HB1 b2
        go_wp2_with fail
        refine (read_any w2 (some ⟨w1.heap.size, 0, none⟩) ((L + 7) / 8) ((L + 7) / 8) (pad N L) (by omega) (fun j hj => ⟨_, rfl, by rw [Addr.add_lit, Nat.zero_add]; exact r2.cell hj⟩) (fun a ha _ => by cases ha; exact r2.lt)).mono ?_
        rintro e w3 ⟨q, rfl, hq, b3, r3⟩
        have hw3 := WrN.upto hw2 b3
        have HB3 := hid (HB2.out.trans (b3.mono HB2.out.size))
        have hpq : w.heap.size < q := by have := HB2.out.size; omega
        have HAQ := hid (show ∀ g, blk ao1 = some g → g ≠ q from fun g hg => by have := (Wr.rlt hw2 g hg).2; omega)
        clear hw2 HB2 r2 b3
        go_wp2_with fail
        refine Calls.mono (get_any r3 (Nat.zero_le _) (by omega) len kk hkk (by omega)) ?_
        rintro e w4 ⟨r, lo, lcap, hrun, rfl, hlo, hl1, hl2, hcells, hlt4, r4, f4⟩
        obtain rfl := HRUN.out.one hrun
        simp only [li_len] at hlo hl1 hcells r4 ⊢
        have hw4 := Wr.keep hw3 f4 (by omega) HAQ.out
        have HB4 := hid (HB3.out.trans ⟨f4.os, f4.tape, f4.output, f4.size, fun k hk => f4.block k (Nat.lt_of_lt_of_le hk HB3.out.size) (by omega)⟩ : Below w.heap.size w w4)
        have his4 := H.out.below HB4.out H.out.lt
        have his5 : Is w4 lo len lcap w3.heap.size 0 I := ⟨hlo, fun i hi => by rw [Nat.zero_add, hcells i hi, li_at I len 0 i hi, Nat.zero_add], H.out.ib, fun _ => hlt4, hl1, hl2⟩
        clear hrun HRUN hcells hw3 r3 f4 HB3 HAQ hlo hl1 hl2 hlt4
        go_wp2_with fail
        refine (ints_any w4 a lo len cap lcap b off _ 0 I I his4 his5 (fun _ _ => rfl)).mono ?_
        rintro e w5 ⟨rfl, f5⟩
        have r5 := r4.keep f5 (fun x => x) (fun x => x)
        have hw5 := Wr.keep hw4 f5 (fun x => x) (fun _ _ x => x)
        have HB5 := hid (fr_below0 HB4.out f5)
        clear his4 his5 f5 r4 hw4 HB4
        go_wp2_with fail
        refine (rat_any r5).mono ?_
        rintro e w6 ⟨rfl, rfl⟩
        clear r5
        go_wp2_with fail
        refine (len_any hw5 (by omega)).mono ?_
        rintro e w6 ⟨rfl, nq, rfl⟩
        have hw6 := WrN.drewN hw5 nq
        have HB6 := hid (fr_below0 HB5.out ((Fr.refl _ _).drewN nq))
        clear hw5 HB5
        generalize w5.drewN nq = w6 at *
        go_wp2_with fail
        refine (len_any hw6 (by omega)).mono ?_
        rintro e w7 ⟨rfl, nq2, rfl⟩
        have HB7 := hid (fr_below0 HB6.out ((Fr.refl _ _).drewN nq2))
        clear hw6 HB6
        generalize w6.drewN nq2 = w7 at *
        go_wp2_with fail
        refine Calls.mono (HCO.out w7 HB7.out) ?_
        rintro e w8 ⟨rfl, b8⟩
        have HB8 := hid (HB7.out.trans (b8.mono HB7.out.size))
        clear b8 HB7
        go_wp2_with fail
        refine (known_true _).mono ?_
        rintro e w9 ⟨rfl, b9⟩
        have hfin := HB8.out.trans (b9.mono HB8.out.size)
        clear b9
        go_wp2_with fail
        go_ret
        exact ⟨rfl, hfin⟩
      · refine Calls.mono (rp_range _ a len cap b off I k hk W (H.out.below HB0.out H.out.lt) (by omega) hal) ?_
        rintro e w1 ⟨rfl, b1⟩
        have hw1 := WrN.upto hw0 b1
        have HB1 := hid (HB0.out.trans (b1.mono HB0.out.size))
        clear hw0 b1 HB0
        go_wp2_with fail
        refine (len_any hw1 (by decide)).mono ?_
        rintro e w2 ⟨rfl, nq, rfl⟩
        have HB2 : Hid (Below w.heap.size w (w1.drewN nq)) := hid (HB1.out.trans ⟨rfl, rfl, rfl, Nat.le_refl _, fun _ _ => rfl⟩)
        clear hw1 HB1
        generalize w1.drewN nq = w2 at *
        go_wp2_with fail
        refine (known_true _).mono ?_
        rintro e w6 ⟨rfl, hb6⟩
        have hfin := HB2.out.trans (hb6.mono HB2.out.size)
        clear hb6
        go_wp2_with fail
        go_ret
        exact ⟨rfl, hfin⟩
    · refine Calls.mono (rp_arg _ _ k hk W) ?_
      rintro e w1 ⟨rfl, b1⟩
      have hw1 := WrN.upto hw0 b1
      have HB1 := hid (HB0.out.trans (b1.mono HB0.out.size))
      clear hw0 b1 HB0
      go_wp2_with fail
      refine (len_any hw1 (by decide)).mono ?_
      rintro e w2 ⟨rfl, nq, rfl⟩
      have HB2 : Hid (Below w.heap.size w (w1.drewN nq)) := hid (HB1.out.trans ⟨rfl, rfl, rfl, Nat.le_refl _, fun _ _ => rfl⟩)
      clear hw1 HB1
      generalize w1.drewN nq = w2 at *
      go_wp2_with fail
      refine (known_true _).mono ?_
      rintro e w6 ⟨rfl, hb6⟩
      have hfin := HB2.out.trans (hb6.mono HB2.out.size)
      clear hb6
      go_wp2_with fail
      go_ret
      exact ⟨rfl, hfin⟩
end Go.Proofs.Ytleamamecgmmjaa.Runs
