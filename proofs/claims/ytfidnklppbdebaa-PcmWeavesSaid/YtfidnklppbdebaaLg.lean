/- The document's Part. Conditions: the list lies in memory, of at most 2^20 numbers. -/
import Derived.Test.YtfidnklppbdebaaLf
import Derived.Test.YtfidnklppbdebaaRk
import Derived.Test.YtfidnklppbdebaaKf
import Derived.Deep.RegionHeld3
import Derived.Deep.QuietTactic
import Derived.BigQuiet
import Derived.StillTailTactics
namespace Go.Proofs.Ytfidnklppbdebaa.Pcm
open Go.RowKit Gen


set_option maxHeartbeats 1600000 in
set_option maxRecDepth 100000 in
theorem rpart_wrong (w : World) (f : Fmt) (a : Option Addr) (L cap : Nat) (X : Nat → Int) (hR : ¬ f.right) : Calls Try.prog 26 #[f.v, .slice a L cap] w (SndPost w (pcode f L X) (PartOk f L X)) := by
  have HRT := hid fun w' => rright_any f w'
  have HJ0 := hid (pr_new w f)
  have HE := hid (show pcode f L X = 20 from by unfold pcode; rw [if_pos hR])
  rw [decide_eq_false hR] at HRT
  clear hR
  unfold Fmt.v at HRT
  show Calls Try.prog 26 #[.agg #[.int .i64 f.ch, .int .i64 f.bits, .int .i64 f.rate], .slice a L cap] w _
  go_enter Try.func26, Try.ntmps26
  go_wp2_with fail
  refine (HRT.out _).mono ?_
  rintro e w1 ⟨rfl, hb1⟩
  have HJ1 := hid (HJ0.out.upto hb1)
  clear hb1
  have r0 := HJ1.out.r 0 _ rfl
  have r1 := HJ1.out.r 1 _ rfl
  have r2 := HJ1.out.r 2 _ rfl
  have r3 := HJ1.out.r 3 _ rfl
  have z0 := HJ1.out.z 0
  have z1 := HJ1.out.z 1
  have z2 := HJ1.out.z 2
  have z3 := HJ1.out.z 3
  obtain ⟨y0, y1, y2, y3, _⟩ := four_set w1 (w.heap.size + 1) (.int .i64 0) (.int .i64 0) (.int .i64 0) (.slice none 0 0) HJ1.out.four
  go_wp2_with fail
  refine bodyPost_ret (v := .tuple #[.agg #[.int .i64 0, .int .i64 0, .int .i64 0, .slice none 0 0], .int .i64 20]) ?_ rfl ?_
  · rw [results_cell_tmp (p := 4) (u := 5) (ty := 26) (by kernel_rfl)]
    go_simp
  · exact ⟨Dat.nil, by rw [HE.out]; rfl, nil_snd _, set4_below HJ1.out.below (by omega) _ _ _ _, fun h => absurd h (by rw [HE.out]; decide), fun _ => rfl⟩

theorem rem_nat (L n : Nat) : (L : Int) % (n : Int) = ((L % n : Nat) : Int) := (Int.natCast_emod L n).symm

theorem wr_small (k : Nat) (h : k ≤ 1048576) : IntKind.i64.wrap (k : Int) = (k : Int) ∧ wrap64 (k : Int) = (k : Int) := ⟨IntWalk.i64_in _ (by omega), w64 _ (by omega) (by omega)⟩
theorem Pt.upto {w wr w2 : World} {f : Fmt} {q : Nat} {d : Dat} {G : Nat → Nat} {n K : Nat} {X : Nat → Int} {t : Nat} (h : Pt w wr f q d G n K X t) (hb : Below wr.heap.size wr w2) : Pt w w2 f q d G n K X t := by
  have hs := hb.size
  refine ⟨h.pr.upto hb, h.bx.below hb, h.dn, h.df, h.da, by have := h.db; omega, fun i hi => (hb.cell (p := ⟨d.b, d.off + i, none⟩) h.db.2).trans (h.hd i hi), fun i m hi hm => (hb.cell (p := ⟨G i, m, none⟩) (h.sep i hi).2.2.2).trans (h.el i m hi hm),
    fun i m hi => (hb.frozen (p := ⟨G i, m, none⟩) (h.sep i hi).2.2.2).trans (h.fz i m hi), fun i hi => by have := h.sep i hi; omega, h.inj⟩

set_option maxHeartbeats 3200000 in
set_option maxRecDepth 100000 in
theorem rpart_right (w : World) (n : Nat) (bits rate : Int) (a : Option Addr) (L cap b o : Nat) (X : Nat → Int) (hl : Isb w a L b o X) (hL : L ≤ 1048576) (hR : Fmt.right ⟨(n : Int), bits, rate⟩) : Calls Try.prog 26 #[Fmt.v ⟨(n : Int), bits, rate⟩, .slice a L cap] w (SndPost w (pcode ⟨(n : Int), bits, rate⟩ L X) (PartOk ⟨(n : Int), bits, rate⟩ L X)) := by
  have HRT := hid fun w' => rright_any ⟨(n : Int), bits, rate⟩ w'
  rw [decide_eq_true hR] at HRT
  have hch1 : (1 : Int) ≤ (n : Int) := hR.1.1
  have hch8 : (n : Int) ≤ 8 := hR.1.2
  obtain ⟨m, hm⟩ := Int.eq_ofNat_of_zero_le (show 0 ≤ bits - 1 by have := hR.2.1.1; simp only [] at this; omega)
  have hmb : m ≤ 61 := by have := hR.2.1.2; simp only [] at this; omega
  have hbm : bits = ((m + 1 : Nat) : Int) := by push_cast; omega
  have HFT : Hid (∀ x w', Calls Try.prog 36 #[.int .i64 x, .int .i64 bits] w' fun e w'' => e = .returned (.bool (!beyond (2 ^ m) x)) ∧ w' = w'') := hid fun x w' => by rw [hbm]; exact fits_any x m (2 ^ m) hmb rfl w'
  have HFAR : Hid (pfar ⟨(n : Int), bits, rate⟩ L X = anyB (fun i => beyond (2 ^ m) (X i)) L) := hid (by unfold pfar; simp only []; rw [hbm]; rfl)
  have HRR := hid hR
  have HJ0 := hid (pr_new w ⟨(n : Int), bits, rate⟩)
  have HI := hid hl
  have HN : Hid (0 < n ∧ n ≤ 8) := hid (by omega)
  clear hl hR hm hmb hbm
  unfold Fmt.v at HRT
  show Calls Try.prog 26 #[.agg #[.int .i64 (n : Int), .int .i64 bits, .int .i64 rate], .slice a L cap] w _
  have hn0 : ¬ (n : Int) = 0 := by omega
  go_enter Try.func26, Try.ntmps26
  go_wp2_with fail
  refine (HRT.out _).mono ?_
  rintro e w1 ⟨rfl, hb1⟩
  have HJ1 := hid (HJ0.out.upto hb1)
  clear hb1
  have k0 := HJ1.out.f0
  by_cases hM : L % n = 0
  · have e1 : ((L : Int) % (n : Int) != 0) = false := by rw [rem_nat, hM]; rfl
    obtain ⟨K, hK⟩ : ∃ K, K = L / n := ⟨_, rfl⟩
    have HLK : Hid (L = n * K) := hid (by rw [hK]; have := Nat.div_add_mod L n; omega)
    have hK2 : K ≤ 1048576 := by rw [hK]; have := Nat.div_le_self L n; omega
    have HKB := hid hK2
    have hquo : Int.tdiv (L : Int) (n : Int) = (K : Int) := by
      rw [HLK.out]
      push_cast
      exact Int.mul_tdiv_cancel_left _ hn0
    have HNE : Hid (¬ ¬ (L : Int) % (n : Int) = 0) := hid (by rw [rem_nat, hM]; decide)
    clear hM hK hK2
    have HSI := hid fun w' => rsil2_any w' ⟨(n : Int), bits, rate⟩ n K rfl HN.out.2 HKB.out
    unfold Fmt.v at HSI
    have k1 := HJ1.out.f1
    have k2 := HJ1.out.f2
    go_wp2_with fail
    clear k0 k1 k2
    go_cut [6] (fun p wx => ∃ (q : Nat) (d : Dat) (G : Nat → Nat), p = .pointer (some ⟨q, 0, none⟩) ∧ Pt w wx ⟨(n : Int), bits, rate⟩ q d G n K X 0)
    case first =>
      have HS : Hid (∀ w', Below w1.heap.size w1 w' → (fun w' => w'.cell? ⟨w.heap.size, 0, none⟩ = some (.int .i64 (n : Int)) ∧ w'.cell? ⟨w.heap.size, 1, none⟩ = some (.int .i64 bits) ∧ w'.cell? ⟨w.heap.size, 2, none⟩ = some (.int .i64 rate)) w') := hid fun w' hw' => ⟨(HJ1.out.upto hw').f0, (HJ1.out.upto hw').f1, (HJ1.out.upto hw').f2⟩
      have hkk := HKB.out
      have hn1 : ¬ n = 0 := by have := HN.out.1; omega
      have hn2 : (n : Int) ≠ 0 := hn0
      have hw1 : IntKind.i64.wrap (K : Int) = (K : Int) := IntWalk.i64_in _ (by omega)
      have hw2 : wrap64 (K : Int) = (K : Int) := w64 _ (by omega) (by omega)
      have hw3 : IntKind.i64.wrap (Int.tdiv (L : Int) (n : Int)) = (K : Int) := by rw [hquo]; exact hw1
      have bd : Below w1.heap.size w1 w1.drew := (Below.refl _ _).drew
      have bda : Below w1.heap.size w1 ((w1.alloc (.cells #[.int .i64 0, .int .i64 0, .int .i64 0, .slice none 0 0] 26)).drew) := (below_new w1 _).drew
      have S1 := HS.out _ bd
      have S1a := HS.out _ bda
      dsimp only at S1
      have p0 : ((w1.alloc (.cells #[.int .i64 0, .int .i64 0, .int .i64 0, .slice none 0 0] 26)).drew).cell? ⟨w1.heap.size, 0, none⟩ = some (.int .i64 0) := ((World.cell?_alloc_at _ _ _ _ rfl).trans rfl)
      have m0 : ((w1.alloc (.cells #[.int .i64 0, .int .i64 0, .int .i64 0, .slice none 0 0] 26)).drew).frozen? ⟨w1.heap.size, 0, none⟩ = false := fz_new _ _ _ _ _ rfl
      have p1 : ((w1.alloc (.cells #[.int .i64 0, .int .i64 0, .int .i64 0, .slice none 0 0] 26)).drew).cell? ⟨w1.heap.size, 1, none⟩ = some (.int .i64 0) := ((World.cell?_alloc_at _ _ _ _ rfl).trans rfl)
      have m1 : ((w1.alloc (.cells #[.int .i64 0, .int .i64 0, .int .i64 0, .slice none 0 0] 26)).drew).frozen? ⟨w1.heap.size, 1, none⟩ = false := fz_new _ _ _ _ _ rfl
      have p2 : ((w1.alloc (.cells #[.int .i64 0, .int .i64 0, .int .i64 0, .slice none 0 0] 26)).drew).cell? ⟨w1.heap.size, 2, none⟩ = some (.int .i64 0) := ((World.cell?_alloc_at _ _ _ _ rfl).trans rfl)
      have m2 : ((w1.alloc (.cells #[.int .i64 0, .int .i64 0, .int .i64 0, .slice none 0 0] 26)).drew).frozen? ⟨w1.heap.size, 2, none⟩ = false := fz_new _ _ _ _ _ rfl
      have p3 : ((w1.alloc (.cells #[.int .i64 0, .int .i64 0, .int .i64 0, .slice none 0 0] 26)).drew).cell? ⟨w1.heap.size, 3, none⟩ = some (.slice none 0 0) := ((World.cell?_alloc_at _ _ _ _ rfl).trans rfl)
      have m3 : ((w1.alloc (.cells #[.int .i64 0, .int .i64 0, .int .i64 0, .slice none 0 0] 26)).drew).frozen? ⟨w1.heap.size, 3, none⟩ = false := fz_new _ _ _ _ _ rfl
      go_region_held3 (fun w' => w'.cell? ⟨w.heap.size, 0, none⟩ = some (.int .i64 (n : Int)) ∧ w'.cell? ⟨w.heap.size, 1, none⟩ = some (.int .i64 bits) ∧ w'.cell? ⟨w.heap.size, 2, none⟩ = some (.int .i64 rate))
        (first | with_reducible exact S1 | with_reducible exact S1a | with_reducible exact S2 | with_reducible exact S2a | with_reducible exact S2b | with_reducible exact HS.out _ (set4_below b9 (Nat.le_refl _) _ _ _ _) | go_keep)
        ((first
          | (go_at_call 22; (with_reducible refine (HSI.out w1.drew).mono ?_); rintro e w9 ⟨d, G, rfl, hs, hns, hb9, hdf, hdn, hdl, hown⟩; have HQ := hid (And.intro hs (And.intro hns (And.intro hdf (And.intro hdn (And.intro hdl hown))))); clear hs hns hdf hdn hdl hown; unfold Dat.v; have b9 := bd.trans hb9; have b9a := b9.alloc b9.size (.cells #[.int .i64 0, .int .i64 0, .int .i64 0, .slice none 0 0] 26); have S2 := HS.out _ b9; have S2a := HS.out _ b9a; have b9b := b9.alloc b9.size (.cells #[.int .i64 d.f.ch, .int .i64 d.f.bits, .int .i64 d.f.rate, .slice d.a d.n d.cap] 26); have S2b := HS.out _ b9b)
          | (go_at_call 22; (with_reducible refine (HSI.out ((w1.alloc (.cells #[.int .i64 0, .int .i64 0, .int .i64 0, .slice none 0 0] 26)).drew)).mono ?_); rintro e w9 ⟨d, G, rfl, hs, hns, hb9, hdf, hdn, hdl, hown⟩; have HQ := hid (And.intro hs (And.intro hns (And.intro hdf (And.intro hdn (And.intro hdl hown))))); clear hs hns hdf hdn hdl hown; unfold Dat.v; have b9 := bda.trans (hb9.mono bda.size); have S2 := HS.out _ b9; have q0 : w9.cell? ⟨w1.heap.size, 0, none⟩ = some (.int .i64 0) := (hb9.cell (p := ⟨w1.heap.size, 0, none⟩) (World.block_lt_of_cell? _ _ p0)).trans p0; have g0 : w9.frozen? ⟨w1.heap.size, 0, none⟩ = false := (hb9.frozen (p := ⟨w1.heap.size, 0, none⟩) (World.block_lt_of_cell? _ _ p0)).trans m0; have q1 : w9.cell? ⟨w1.heap.size, 1, none⟩ = some (.int .i64 0) := (hb9.cell (p := ⟨w1.heap.size, 1, none⟩) (World.block_lt_of_cell? _ _ p1)).trans p1; have g1 : w9.frozen? ⟨w1.heap.size, 1, none⟩ = false := (hb9.frozen (p := ⟨w1.heap.size, 1, none⟩) (World.block_lt_of_cell? _ _ p1)).trans m1; have q2 : w9.cell? ⟨w1.heap.size, 2, none⟩ = some (.int .i64 0) := (hb9.cell (p := ⟨w1.heap.size, 2, none⟩) (World.block_lt_of_cell? _ _ p2)).trans p2; have g2 : w9.frozen? ⟨w1.heap.size, 2, none⟩ = false := (hb9.frozen (p := ⟨w1.heap.size, 2, none⟩) (World.block_lt_of_cell? _ _ p2)).trans m2; have q3 : w9.cell? ⟨w1.heap.size, 3, none⟩ = some (.slice none 0 0) := (hb9.cell (p := ⟨w1.heap.size, 3, none⟩) (World.block_lt_of_cell? _ _ p3)).trans p3; have g3 : w9.frozen? ⟨w1.heap.size, 3, none⟩ = false := (hb9.frozen (p := ⟨w1.heap.size, 3, none⟩) (World.block_lt_of_cell? _ _ p3)).trans m3)))
      · have HPT : Hid (Pt w (w9.alloc (.cells #[.int .i64 d.f.ch, .int .i64 d.f.bits, .int .i64 d.f.rate, .slice d.a d.n d.cap] 26)) ⟨(n : Int), bits, rate⟩ w9.heap.size d G n K X 0) := hid (by
          obtain ⟨h1, h2, h3, h4, h5, h6⟩ := HQ.out
          have hbn := below_new w9 (.cells #[.int .i64 d.f.ch, .int .i64 d.f.bits, .int .i64 d.f.rate, .slice d.a d.n d.cap] 26)
          have hlt := HJ1.out.lt
          refine pt_new (B := w1.heap.size) (HJ1.out.upto b9b) (bx_new w9 d) (h1.below hbn) ⟨h2.1, fun i hi => (h2.2 i hi).below hbn⟩ ⟨h6.at_, fun i hi => ?_, fun i hi mm => ?_, h6.far, h6.mono⟩ hlt (fun i hi => ?_) HN.out.1 h4 h3 h5
          · have h7 : w1.heap.size ≤ G i ∧ G i < w9.heap.size := h6.lt i hi; simp; omega
          · have := h6.lt i hi; exact (hbn.frozen (p := ⟨G i, mm, none⟩) this.2).trans (h6.fz i hi mm)
          · have h7 : w1.heap.size ≤ G i ∧ G i < w9.heap.size := h6.lt i (by omega); omega)
        clear S1 S1a S2 S2a S2b
        go_wp2_with fail
        go_meet
        exact ⟨w9.heap.size, d, G, rfl, HPT.out⟩
      · have HPT : Hid (Pt w ((((w9.setCell ⟨w1.heap.size, 0, none⟩ (.int .i64 d.f.ch)).setCell ⟨w1.heap.size, 1, none⟩ (.int .i64 d.f.bits)).setCell ⟨w1.heap.size, 2, none⟩ (.int .i64 d.f.rate)).setCell ⟨w1.heap.size, 3, none⟩ (.slice d.a d.n d.cap)) ⟨(n : Int), bits, rate⟩ w1.heap.size d G n K X 0) := hid (by
          obtain ⟨h1, h2, h3, h4, h5, h6⟩ := HQ.out
          have hlt := HJ1.out.lt
          have hz : w1.heap.size < ((w1.alloc (.cells #[.int .i64 0, .int .i64 0, .int .i64 0, .slice none 0 0] 26)).drew).heap.size := by show w1.heap.size < (w1.alloc _).heap.size; simp
          have hex := four_ex q0 q1 q2 q3
          obtain ⟨y0, y1, y2, y3, _⟩ := four_set w9 w1.heap.size (.int .i64 d.f.ch) (.int .i64 d.f.bits) (.int .i64 d.f.rate) (.slice d.a d.n d.cap) hex
          refine pt_new (B := w1.heap.size) (HJ1.out.upto (set4_below b9 (Nat.le_refl _) _ _ _ _)) ⟨y0, y1, y2, y3⟩ (h1.set4 h2 hz hex _ _ _ _) (h2.set4 hz (Nat.le_of_lt hz) _ _ _ _) (h6.set4 (Nat.le_of_lt hz) _ _ _ _) hlt (fun i hi => ?_) HN.out.1 h4 h3 h5
          have := h6.lt i (by omega); omega)
        clear S1 S1a S2
        go_wp2_with fail
        go_meet
        exact ⟨w1.heap.size, d, G, rfl, HPT.out⟩
    case rest =>
      obtain ⟨q, d, G, rfl, hpt⟩ := hcut
      have HP0 := hid hpt
      clear hpt hquo hn0
      go_wp2_with fail
      have HBF : Hid (∀ (t : Nat), (∀ j, j < t → beyond (2 ^ m) (X j) = false) → t = L → pcode ⟨(n : Int), bits, rate⟩ L X = 0) := hid fun t ht e => by
        unfold pcode
        rw [if_neg (fun g => g HRR.out), if_neg HNE.out, if_neg]
        rw [HFAR.out]
        intro h
        obtain ⟨i, hi, h2⟩ := (any_iff _ _).1 h
        rw [ht i (by omega)] at h2
        cases h2
      have HBT : Hid (∀ (t : Nat), t < L → beyond (2 ^ m) (X t) = true → pcode ⟨(n : Int), bits, rate⟩ L X = 21) := hid fun t ht e => by
        unfold pcode
        rw [if_neg (fun g => g HRR.out), if_neg HNE.out, if_pos]
        rw [HFAR.out]
        exact (any_iff _ _).2 ⟨t, ht, e⟩
      generalize 2 ^ m = P at *
      clear HRR HNE HFAR HRT e1 HSI
      go_loopg [7] L (fun g i wr => ∃ t : Nat, t ≤ L ∧ g = L - t ∧ i = .int .i64 t ∧ Pt w wr ⟨(n : Int), bits, rate⟩ q d G n K X t ∧ ∀ j, j < t → beyond P (X j) = false)
      case atStart => exact ⟨0, Nat.zero_le _, rfl, rfl, HP0.out, fun j hj => absurd hj (Nat.not_lt_zero _)⟩
      case round =>
        obtain ⟨t, ht, hg, rfl, hpt, hall⟩ := hrel
        have HG := hid hg
        have HA := hid hall
        have HP := hid hpt
        clear hg hall hpt
        by_cases hlt : t < L
        · have hlt2 : (t : Int) < (L : Int) := by omega
          have hI := HI.out.below HP.out.pr.below HI.out.lt
          have ha := hI.addr (by omega)
          have bx := hI.c t hlt
          have k0 := HP.out.pr.f0
          have k1 := HP.out.pr.f1
          have HAA := hid ha
          clear hI
          subst ha
          go_wp2_with fail
          go_quiet (first | (go_at_call 36; refine Calls.quiet_of_same ((HFT.out _ _).mono fun e w' h => ⟨h.1, h.2.symm⟩)))
          have bq : Below wr.heap.size wr (wr.drewN nq) := by
            exact below_drewN (Below.refl _ _) nq
          generalize wr.drewN nq = wv at *
          have HV := hid (HP.out.upto bq)
          clear bx k0 k1 bq
          cases hF : beyond P (X t) with
          | true =>
            have HC := hid (HBT.out t hlt hF)
            have r0 := HV.out.pr.r 0 _ rfl
            have r1 := HV.out.pr.r 1 _ rfl
            have r2 := HV.out.pr.r 2 _ rfl
            have r3 := HV.out.pr.r 3 _ rfl
            have z0 := HV.out.pr.z 0
            have z1 := HV.out.pr.z 1
            have z2 := HV.out.pr.z 2
            have z3 := HV.out.pr.z 3
            obtain ⟨y0, y1, y2, y3, _⟩ := four_set wv (w.heap.size + 1) (.int .i64 0) (.int .i64 0) (.int .i64 0) (.slice none 0 0) HV.out.pr.four
            clear hF
            go_wp2_with fail
            refine bodyPost_ret (v := .tuple #[.agg #[.int .i64 0, .int .i64 0, .int .i64 0, .slice none 0 0], .int .i64 21]) ?_ rfl ?_
            · rw [results_cell_tmp (p := 4) (u := 5) (ty := 26) (by kernel_rfl)]
              go_simp
            · exact ⟨Dat.nil, by rw [HC.out]; rfl, nil_snd _, set4_below HV.out.pr.below (by omega) _ _ _ _, fun h => absurd h (by rw [HC.out]; decide), fun _ => rfl⟩
          | false =>
            have HFF := hid hF
            clear hF
            obtain ⟨i0, hi0⟩ : ∃ i0, i0 = t % n := ⟨_, rfl⟩
            obtain ⟨m0, hm0⟩ : ∃ m0, m0 = t / n := ⟨_, rfl⟩
            have hin : i0 < n := by rw [hi0]; exact Nat.mod_lt _ HN.out.1
            have htm : t = n * m0 + i0 := by rw [hi0, hm0]; exact (Nat.div_add_mod t n).symm
            have hmK : m0 < K := by
              have h1 : n * m0 < n * K := by rw [← HLK.out]; omega
              exact Nat.lt_of_mul_lt_mul_left h1
            have HT := hid htm
            have hkk := HKB.out
            have hn0 : ¬ (n : Int) = 0 := by omega
            have hn1 : ¬ n = 0 := by omega
            have hrem : (t : Int) % (n : Int) = (i0 : Int) := by rw [rem_nat, ← hi0]
            have hrem2 : Int.tmod (t : Int) (n : Int) = (i0 : Int) := by rw [Int.tmod_eq_emod_of_nonneg (by omega)]; exact hrem
            have hquo : Int.tdiv (t : Int) (n : Int) = (m0 : Int) := by rw [Int.tdiv_eq_ediv_of_nonneg (by omega), hm0]; exact (Int.natCast_ediv t n).symm
            have hquo2 : (t : Int) / (n : Int) = (m0 : Int) := by rw [hm0]; exact (Int.natCast_ediv t n).symm
            obtain ⟨hw1, hw2⟩ := wr_small m0 (Nat.le_trans (Nat.le_of_lt hmK) hkk)
            obtain ⟨hw3, hw4⟩ := wr_small i0 (Nat.le_trans (Nat.le_of_lt hin) (Nat.le_trans HN.out.2 (by decide)))
            have hb1 : (i0 : Int) < (n : Int) := Int.ofNat_lt.2 hin
            have hb2 : (m0 : Int) < (K : Int) := Int.ofNat_lt.2 hmK
            clear hi0 hm0 htm
            have HS : Hid (∀ w' t', Pt w w' ⟨(n : Int), bits, rate⟩ q d G n K X t' → (fun w' => w'.cell? ⟨w.heap.size, 0, none⟩ = some (.int .i64 (n : Int)) ∧ w'.cell? ⟨q, 3, none⟩ = some (.slice (some ⟨d.b, d.off, none⟩) n d.cap) ∧ w'.cell? ⟨d.b, d.off + i0, none⟩ = some (.slice (some ⟨G i0, 0, none⟩) K (d.lc i0)) ∧ w'.cell? ⟨b, o + t, none⟩ = some (.int .i64 (X t))) w') := hid fun w' t' h => ⟨h.pr.f0, by have := h.bx.c3; rw [h.dn, h.da] at this; exact this, h.hd i0 hin, (HI.out.below h.pr.below HI.out.lt).c t hlt⟩
            have bd : Below wv.heap.size wv wv.drew := (Below.refl _ _).drew
            have HD := hid (HV.out.upto bd)
            have S1 := HS.out _ _ HD.out
            dsimp only at S1
            have tc : wv.drew.cell? ⟨G i0, m0, none⟩ = some (.int .i64 (if n * m0 + i0 < t then X (n * m0 + i0) else 0)) := HD.out.el i0 m0 hin hmK
            have tf : wv.drew.frozen? ⟨G i0, m0, none⟩ = false := HD.out.fz i0 m0 hin
            rw [← HT.out] at tc
            have hirr : ¬ t < t := Nat.lt_irrefl t
            rw [if_neg hirr] at tc
            have HE := hid ((HV.out.step hin hmK HT.out).upto ((Below.refl _ _).drew))
            have S2 := HS.out _ _ HE.out
            dsimp only at S2
            clear hirr
            go_wp2_with fail
            go_region_held3 (fun w' => w'.cell? ⟨w.heap.size, 0, none⟩ = some (.int .i64 (n : Int)) ∧ w'.cell? ⟨q, 3, none⟩ = some (.slice (some ⟨d.b, d.off, none⟩) n d.cap) ∧ w'.cell? ⟨d.b, d.off + i0, none⟩ = some (.slice (some ⟨G i0, 0, none⟩) K (d.lc i0)) ∧ w'.cell? ⟨b, o + t, none⟩ = some (.int .i64 (X t)))
              (first | with_reducible exact S1 | with_reducible exact S2 | go_keep) (first | fail)
            clear S1 S2 tc tf hrem hrem2 hquo hquo2 hw1 hw2 hw3 hw4 hb1 hb2 hn0 hn1 bd
            go_wp2_with fail
            go_roundg (L - (t + 1))
            case measure => rw [HG.out]; omega
            case rel => exact ⟨t + 1, by omega, rfl, by go_num, HE.out, fun j hj => by
              by_cases e : j = t
              · rw [e]; exact HFF.out
              · exact HA.out j (by omega)⟩
        · have hge : ¬ (t : Int) < (L : Int) := by omega
          obtain rfl : t = L := by omega
          have HC := hid (HBF.out t HA.out rfl)
          obtain ⟨s, hs1, hs2, hs3, hs4⟩ := HP.out.snd HLK.out HN.out.1 HN.out.2 (by have := HKB.out; omega) rfl
          have HS := hid (And.intro hs1 (And.intro hs2 (And.intro hs3 hs4)))
          clear hs1 hs2 hs3 hs4 hge
          obtain ⟨x0, x1, x2, x3⟩ := HP.out.bx
          have r0 := HP.out.pr.r 0 _ rfl
          have r1 := HP.out.pr.r 1 _ rfl
          have r2 := HP.out.pr.r 2 _ rfl
          have r3 := HP.out.pr.r 3 _ rfl
          have z0 := HP.out.pr.z 0
          have z1 := HP.out.pr.z 1
          have z2 := HP.out.pr.z 2
          have z3 := HP.out.pr.z 3
          obtain ⟨y0, y1, y2, y3, _⟩ := four_set wr (w.heap.size + 1) (.int .i64 d.f.ch) (.int .i64 d.f.bits) (.int .i64 d.f.rate) (.slice d.a d.n d.cap) HP.out.pr.four
          go_wp2_with fail
          refine bodyPost_ret (v := .tuple #[.agg #[.int .i64 d.f.ch, .int .i64 d.f.bits, .int .i64 d.f.rate, .slice d.a d.n d.cap], .int .i64 0]) ?_ rfl ?_
          · rw [results_cell_tmp (p := 4) (u := 5) (ty := 26) (by kernel_rfl)]
            go_simp
          · exact ⟨s, by rw [HC.out, HS.out.1]; rfl, HS.out.2.2.1.set4 HS.out.2.2.2 (by omega) HP.out.pr.four _ _ _ _, set4_below HP.out.pr.below (by omega) _ _ _ _, fun _ => HS.out.2.1, fun h => absurd HC.out h⟩
  · have e1 : ((L : Int) % (n : Int) != 0) = true := bne_iff_ne.2 (by rw [rem_nat]; omega)
    have HE := hid (show pcode ⟨(n : Int), bits, rate⟩ L X = 22 from by unfold pcode; rw [if_neg (fun g => g HRR.out), if_pos (by show ¬ (L : Int) % (n : Int) = 0; rw [rem_nat]; omega)])
    clear hM
    have r0 := HJ1.out.r 0 _ rfl
    have r1 := HJ1.out.r 1 _ rfl
    have r2 := HJ1.out.r 2 _ rfl
    have r3 := HJ1.out.r 3 _ rfl
    have z0 := HJ1.out.z 0
    have z1 := HJ1.out.z 1
    have z2 := HJ1.out.z 2
    have z3 := HJ1.out.z 3
    obtain ⟨y0, y1, y2, y3, _⟩ := four_set w1 (w.heap.size + 1) (.int .i64 0) (.int .i64 0) (.int .i64 0) (.slice none 0 0) HJ1.out.four
    go_wp2_with fail
    refine bodyPost_ret (v := .tuple #[.agg #[.int .i64 0, .int .i64 0, .int .i64 0, .slice none 0 0], .int .i64 22]) ?_ rfl ?_
    · rw [results_cell_tmp (p := 4) (u := 5) (ty := 26) (by kernel_rfl)]
      go_simp
    · exact ⟨Dat.nil, by rw [HE.out]; rfl, nil_snd _, set4_below HJ1.out.below (by omega) _ _ _ _, fun h => absurd h (by rw [HE.out]; decide), fun _ => rfl⟩
theorem rpart_any (w : World) (f : Fmt) (a : Option Addr) (L cap b o : Nat) (X : Nat → Int) (hl : Isb w a L b o X) (hL : L ≤ 1048576) : Calls Try.prog 26 #[f.v, .slice a L cap] w (SndPost w (pcode f L X) (PartOk f L X)) := by
  by_cases hR : f.right
  · obtain ⟨ch, bits, rate⟩ := f
    obtain ⟨n, rfl⟩ := Int.eq_ofNat_of_zero_le (show 0 ≤ ch by have : (1 : Int) ≤ ch := hR.1.1; omega)
    exact rpart_right w n bits rate a L cap b o X hl hL hR
  · exact rpart_wrong w f a L cap X hR
end Go.Proofs.Ytfidnklppbdebaa.Pcm
