/- RunsGets' walk: any bits are read as the numbers that the document says, or refused. Conditions: those of the memory's own form alone. -/
import Derived.Test.YtleamamecgmmjaaRw
import Derived.Test.YtleamamecgmmjaaOb
import Derived.Test.YtleamamecgmmjaaQc
import Derived.StillTailTactics
namespace Go.Proofs.Ytleamamecgmmjaa.Runs
open Go.RowKit Bit Rice

theorem fr_belowq {q : Nat} {a w w' : World} (h : Below a.heap.size a w) (hf : Fr (fun b => b = q) w w') (hq : a.heap.size ≤ q) : Below a.heap.size a w' :=
  h.trans ⟨hf.os, hf.tape, hf.output, hf.size, fun k hk => hf.block k (Nat.lt_of_lt_of_le hk h.size) (by omega)⟩
theorem zgi_ib (u : Nat) (h : u < 1099511627777) : -9223372036854775808 ≤ zgi u ∧ zgi u ≤ 9223372036854775807 := by
  unfold zgi; split <;> omega
theorem Stp.ib {M T k m p : Nat} {x : Int × Nat × Nat × Int} (h : Stp M T k m p x) (hk : k ≤ 30) : -9223372036854775808 ≤ x.2.2.2 ∧ x.2.2.2 ≤ 9223372036854775807 := by
  rcases h with ⟨a, rfl⟩ | ⟨a, b, rfl⟩ | ⟨a, b, rfl⟩ | ⟨a, b, y, hy, h⟩
  · exact ⟨by show (-9223372036854775808 : Int) ≤ 0; decide, by show (0 : Int) ≤ 9223372036854775807; decide⟩
  · exact ⟨by show (-9223372036854775808 : Int) ≤ 0; decide, by show (0 : Int) ≤ 9223372036854775807; decide⟩
  · exact ⟨by show (-9223372036854775808 : Int) ≤ 0; decide, by show (0 : Int) ≤ 9223372036854775807; decide⟩
  · rcases h with ⟨c, rfl⟩ | ⟨c, d, rfl⟩ | ⟨c, d, rfl⟩
    · exact ⟨by show (-9223372036854775808 : Int) ≤ 0; decide, by show (0 : Int) ≤ 9223372036854775807; decide⟩
    · exact ⟨by show (-9223372036854775808 : Int) ≤ 0; decide, by show (0 : Int) ≤ 9223372036854775807; decide⟩
    · obtain ⟨u, er, d'⟩ := y
      simp only at c
      subst c
      have := (hy.coded hk).1
      exact zgi_ib (u + 1) (by unfold coded at this; omega)
theorem GRun.ib {M T k : Nat} (hk : k ≤ 30) : ∀ {f m p : Nat} {r : List Int × Int × Nat}, GRun M T k f m p r → ∀ x ∈ r.1, -9223372036854775808 ≤ x ∧ x ≤ 9223372036854775807
  | 0, _, _, _, ⟨_, h⟩, x, hx => by rw [h] at hx; cases hx
  | f + 1, m, p, r, h, x, hx => by
    rcases h with ⟨a, rfl⟩ | ⟨a, y, hy, h⟩
    · cases hx
    · rcases h with ⟨c, rfl⟩ | ⟨c, d, rfl⟩ | ⟨c, d, s, hs, rfl⟩
      · cases hx
      · obtain ⟨_, rfl⟩ := List.mem_replicate.1 hx
        exact ⟨by decide, by decide⟩
      · have ih := hs.ib hk
        simp only at hx
        split at hx
        · rcases List.mem_append.1 hx with e | e
          · obtain ⟨_, rfl⟩ := List.mem_replicate.1 e
            exact ⟨by decide, by decide⟩
          · rcases List.mem_cons.1 e with e | e
            · rw [e]; exact hy.ib hk
            · exact ih x e
        · cases hx

set_option maxHeartbeats 1000000 in
set_option maxRecDepth 100000 in
theorem gets_walk (w : World) (a : Option Addr) (T cap M : Nat) (n k : Int) (h : Byts w a T M) :
    Calls Try.prog 6 #[.slice a T cap, .int .i64 n, .int .i64 k] w fun e w' => e = .returned (.bool true) ∧ Below w.heap.size w w' := by
  by_cases h2 : 200 < T
  · have h1 : (200 : Int) < (T : Int) := by omega
    go_enter Try.func6, Try.ntmps6
    go_wp2_with fail
    refine (known_true _).mono ?_
    rintro e w' ⟨rfl, hb⟩
    go_wp2_with fail
    go_ret
    exact ⟨rfl, hb⟩
  · have h1 : ¬ (200 : Int) < (T : Int) := by omega
    have H := hid h
    clear h
    go_enter Try.func6, Try.ntmps6
    go_wp2_with fail
    refine (read_b H.out (Below.refl _ _) (by omega)).mono ?_
    rintro e w1 ⟨q, rfl, hq, hb1, hr1⟩
    go_wp2_with fail
    refine (rread_b H.out hb1 (by omega)).mono ?_
    rintro e w2 ⟨qf, lo, lcap, rfl, hrf, hqf, hb2⟩
    have hq1 : q < w1.heap.size := World.block_lt_of_cell? w1 _ hr1.c0
    have hqf2 : qf < w2.heap.size := World.block_lt_of_cell? w2 _ hrf.c0
    have hr2 : Rd w2 q w.heap.size M T 0 := hr1.keep (X := fun b => w1.heap.size ≤ b) (Fr.of_below hb2) (by omega) (by have := hr1.row.lt; omega)
    have hlo : ∀ g, blk lo = some g → w1.heap.size ≤ g ∧ g < w2.heap.size := fun g hg => hrf.own.lt g (by rw [ownBlock_slice]; exact hg)
    have hbw : Below w.heap.size w w2 := hb1.trans (hb2.mono hb1.size)
    have hs1 := hb1.size
    have hs2 := hb2.size
    clear hr1 hb1 hb2
    go_wp2_with fail
    refine (rparam k _).mono ?_
    rintro e w4 ⟨rfl, rfl⟩
    by_cases hk : okK k
    · have hd0 := decide_eq_true hk
      rw [hd0]
      by_cases hc0 : n < 0
      · go_wp2_with fail
        refine (rget_arg w2 _ n k (fun h => by omega)).mono ?_
        rintro e w3 ⟨rfl, rfl⟩
        go_wp2_with fail
        refine (known_true _).mono ?_
        rintro e w6 ⟨rfl, hb6⟩
        have hfin := hbw.trans (hb6.mono hbw.size)
        clear hb6
        go_wp2_with fail
        go_ret
        exact ⟨rfl, hfin⟩
      · by_cases hc1 : 1048576 < n
        · go_wp2_with fail
          refine (rget_arg w2 _ n k (fun h => by omega)).mono ?_
          rintro e w3 ⟨rfl, rfl⟩
          go_wp2_with fail
          refine (known_true _).mono ?_
          rintro e w6 ⟨rfl, hb6⟩
          have hfin := hbw.trans (hb6.mono hbw.size)
          clear hb6
          go_wp2_with fail
          go_ret
          exact ⟨rfl, hfin⟩
        · obtain ⟨nn, rfl⟩ := Int.eq_ofNat_of_zero_le (by omega : 0 ≤ n)
          obtain ⟨kk, rfl⟩ := Int.eq_ofNat_of_zero_le hk.1
          have hkk : kk ≤ 30 := by have := hk.2; omega
          clear hk hd0
          by_cases h4 : 3000 < nn
          · have g4 : (3000 : Int) < (nn : Int) := by omega
            go_wp2_with fail
            refine (known_true _).mono ?_
            rintro e w6 ⟨rfl, hb6⟩
            have hfin := hbw.trans (hb6.mono hbw.size)
            clear hb6
            go_wp2_with fail
            go_ret
            exact ⟨rfl, hfin⟩
          · have g4 : ¬ (3000 : Int) < (nn : Int) := by omega
            go_wp2_with fail
            refine (get_any hr2 (Nat.zero_le _) (by omega) nn kk hkk (by omega)).mono ?_
            rintro e w3 ⟨r, lo1, lcap1, hrun, rfl, hlo1, hl1, hl2, hcells, hlt3, hr3, hf3⟩
            have hb3 : Below w.heap.size w w3 := fr_belowq hbw hf3 (by omega)
            have hrf3 : Rf w3 w1.heap.size qf lo lcap M T 0 := hrf.keep hf3 (by omega) (fun g hg e => by have := hlo g hg; omega)
            have hs3 := hf3.size
            have HB3 := hid hb3
            have HRUN := hid hrun
            clear hr2 hrf hf3 hbw hb3 hrun
            go_wp2_with fail
            refine (rrget_any hrf3 (Nat.zero_le _) (by omega) nn kk hkk (by omega)).mono ?_
            rintro e w5 ⟨r', lo2, lcap2, hrun', rfl, hil2, hrf5, hf5⟩
            obtain rfl := HRUN.out.one hrun'
            have hib := HRUN.out.ib hkk
            have hll : r.2.1 = 0 → r.1.length = nn := fun e => HRUN.out.len e
            have her : r.2.1 ≠ 0 → r.1 = [] := fun e => HRUN.out.nil e
            have his1 : Is w5 lo1 r.1.length lcap1 w2.heap.size 0 (fun i => r.1.getD i 0) := by
              refine ⟨hlo1, fun i hi => ?_, fun i hi => ?_, fun _ => Nat.lt_of_lt_of_le hlt3 hf5.size, hl1, hl2⟩
              · rw [Nat.zero_add]
                exact (hf5.cell (p := ⟨w2.heap.size, i, none⟩) hlt3 (by show ¬ w2.heap.size = qf; omega)).trans (hcells i hi)
              · have e : r.1.getD i 0 = r.1[i] := by simp [hi]
                rw [e]
                exact hib _ (List.getElem_mem hi)
            obtain ⟨b2, his2⟩ := hil2.is hib
            have hr5 : Rd w5 q w.heap.size M T r.2.2 := hr3.keep hf5 (by omega) (by omega)
            have hb5 : Below w.heap.size w w5 := fr_belowq HB3.out hf5 (by omega)
            have HUI := hid fun w' (hf : Fr (fun _ => False) w5 w') => ints_any w' lo1 lo2 r.1.length lcap1 lcap2 w2.heap.size 0 b2 0 _ _ (his1.fr hf fun _ x => x) (his2.fr hf fun _ x => x) (fun _ _ => rfl)
            have HAT := hid fun w' (hf : Fr (fun _ => False) w5 w') => rat_any (hr5.keep hf (fun x => x) (fun x => x))
            have HC1 := hid fun w' (hf : Fr (fun _ => False) w5 w') => (hrf5.keep hf (fun x => x) (fun _ _ x => x)).c1
            have HB5 := hid hb5
            have hlle : r.1.length ≤ 3000 := by
              by_cases e : r.2.1 = 0
              · have := hll e; omega
              · rw [her e]; exact Nat.zero_le _
            clear hrun' HRUN hil2 his1 his2 hr5 hrf5 hf5 hr3 hrf3 hb5 hcells hlo1 hl1 hl2 hlt3 hib
            obtain ⟨l, er, pn⟩ := r
            simp only at hll her hlle
            by_cases he : er = 0
            · subst he
              clear her hll
              go_wp2_with fail
              have ce : ∀ p : Kp w5, p.w'.cell? ⟨qf, 1, none⟩ = some (.int .i64 (pn : Int)) := fun p => HC1.out p.w' p.h
              refine wp_region_quiet_kp (by kernel_rfl) (by kernel_rfl) ?_
              repeat (quiet_step (first | (go_at_call 30; exact kp_call (HUI.out _ (Kp.h _))) | (go_at_call 31; exact kp_same (HAT.out _ (Kp.h _))) | (go_at_call 16; exact kp_below (known_true _))))
              refine wpQuiet_nil ?_
              intro _ hw'
              obtain ⟨⟨wq, hq⟩, hw''⟩ := hw'
              subst hw''
              have hfin := fr_below0 HB5.out hq
              clear hq ce
              go_wp2_with fail
              go_ret
              exact ⟨rfl, hfin⟩
            · have hne := her he
              subst hne
              have g5 : (er == 0) = false := beq_eq_false_iff_ne.2 he
              have g6 : (er != 0) = true := bne_iff_ne.2 he
              clear he hll her
              go_wp2_with fail
              refine wp_region_quiet_kp (by kernel_rfl) (by kernel_rfl) ?_
              repeat (first | go_big_quiet_step ((first | (go_at_call 30; exact kp_call (HUI.out _ (Kp.h _))) | (go_at_call 16; exact kp_below (known_true _)))) | fail)
              refine wpQuiet_nil ?_
              intro _ hw'
              obtain ⟨⟨wq, hq⟩, hw''⟩ := hw'
              subst hw''
              have hfin := fr_below0 HB5.out hq
              clear hq
              go_wp2_with fail
              go_ret
              exact ⟨rfl, hfin⟩
    · have hd0 := decide_eq_false hk
      rw [hd0]
      go_wp2_with fail
      refine (rget_arg w2 _ n k (fun h => hk h.1)).mono ?_
      rintro e w3 ⟨rfl, rfl⟩
      go_wp2_with fail
      refine (known_true _).mono ?_
      rintro e w6 ⟨rfl, hb6⟩
      have hfin := hbw.trans (hb6.mono hbw.size)
      clear hb6
      go_wp2_with fail
      go_ret
      exact ⟨rfl, hfin⟩
end Go.Proofs.Ytleamamecgmmjaa.Runs
