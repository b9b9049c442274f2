/- RiceGets' walk: any bits are read as the numbers that the document says, or refused. Conditions: those of the memory's own form alone. -/
import Derived.Test.YtgojdhffhocceaaOb
import Derived.Test.YtgojdhffhocceaaKn
import Derived.Test.YtgojdhffhocceaaQc
import Derived.StillTailTactics
namespace Go.Proofs.Ytgojdhffhocceaa.Rice
open Go.RowKit Bit

theorem Fr.below {q : Nat} {a w w' : World} (h : Below a.heap.size a w) (hf : Fr (fun b => b = q) w w') (hq : a.heap.size ≤ q) : Below a.heap.size a w' :=
  h.trans ⟨hf.os, hf.tape, hf.output, hf.size, fun k hk => hf.block k (Nat.lt_of_lt_of_le hk h.size) (by omega)⟩
theorem Fr.below0 {a w w' : World} (h : Below a.heap.size a w) (hf : Fr (fun _ => False) w w') : Below a.heap.size a w' :=
  h.trans ⟨hf.os, hf.tape, hf.output, hf.size, fun k hk => hf.block k (Nat.lt_of_lt_of_le hk h.size) (fun x => x)⟩

/-- Which errors there are. -/
theorem GetR.err {M T p k : Nat} {x : Nat × Int × Nat} (h : GetR M T p k x) : x.2.1 = 0 ∨ x.2.1 = 10 ∨ x.2.1 = 12 := by
  obtain ⟨r, hr, rfl⟩ := h
  rcases ones_cases hr with ⟨q, c, hq, rfl, _, _, _⟩ | rfl
  · unfold getF getW
    rw [if_neg (show ¬ (0 : Int) ≠ 0 from fun h => h rfl)]
    repeat' split
    all_goals simp
  · exact .inr (.inl rfl)
theorem AllR.err {M T k p n : Nat} {x : List Nat × Int × Nat} (h : AllR M T k p n x) (hx : x.2.1 ≠ 0) : x.2.1 = 10 ∨ x.2.1 = 12 := by
  rcases h with ⟨_, h⟩ | ⟨_, _, j, l0, p0, u, _, _, h⟩
  · exact absurd h hx
  · rcases h.err with e | e
    · exact absurd e hx
    · exact e

set_option maxHeartbeats 1000000 in
set_option maxRecDepth 100000 in
theorem gets_walk (w : World) (a : Option Addr) (T cap M : Nat) (n k : Int) (h : Byts w a T M) :
    Calls Try.prog 5 #[.slice a T cap, .int .i64 n, .int .i64 k] w fun e w' => e = .returned (.bool true) ∧ Below w.heap.size w w' := by
  by_cases h2 : 300 < T
  · have h1 : (300 : Int) < (T : Int) := by omega
    go_enter Try.func5, Try.ntmps5
    go_wp2_with fail
    refine (known_true _).mono ?_
    rintro e w' ⟨rfl, hb⟩
    go_wp2_with fail
    go_ret
    exact ⟨rfl, hb⟩
  · have h1 : ¬ (300 : Int) < (T : Int) := by omega
    have H := hid h
    clear h
    go_enter Try.func5, Try.ntmps5
    go_wp2_with fail
    refine (read_b H.out (Below.refl _ _) (by omega)).mono ?_
    rintro e w1 ⟨q, rfl, hq, hb1, hr1⟩
    go_wp2_with fail
    refine (rread_b H.out hb1 (by omega)).mono ?_
    rintro e w2 ⟨qf, lo, lcap, rfl, hrf, hqf, hb2⟩
    have hq1 : q < w1.heap.size := World.block_lt_of_cell? w1 _ hr1.c0
    have hqf2 : qf < w2.heap.size := World.block_lt_of_cell? w2 _ hrf.c0
    have hr2 : Rd w2 q w.heap.size M T 0 := hr1.keep (X := fun b => w1.heap.size ≤ b) (Fr.of_below hb2) (by omega) (by have := hr1.row.lt; omega)
    have hlo : ∀ g, blk lo = some g → w1.heap.size ≤ g := fun g hg => (hrf.own.lt g (by rw [ownBlock_slice]; exact hg)).1
    have hbw : Below w.heap.size w w2 := hb1.trans (hb2.mono hb1.size)
    have hs1 := hb1.size
    clear hr1 hb1 hb2
    go_wp2_with fail
    by_cases hok : okK k ∧ 0 ≤ n ∧ n ≤ 1048576
    · obtain ⟨hk, hn0, hn1⟩ := hok
      obtain ⟨kk, rfl⟩ := Int.eq_ofNat_of_zero_le hk.1
      obtain ⟨nn, rfl⟩ := Int.eq_ofNat_of_zero_le hn0
      have hkk : kk ≤ 30 := by have := hk.2; omega
      have hd0 : decide (okK (kk : Int)) = true := decide_eq_true hk
      refine (getall_any hr2 (Nat.zero_le _) (by omega) kk hkk nn (by omega)).mono ?_
      rintro e w3 ⟨⟨l, er, pn⟩, lo1, lcap1, hx, rfl, hul, hr3, hf3⟩
      have hb3 : Below w.heap.size w w3 := Fr.below hbw hf3 (by omega)
      have hrf3 : Rf w3 w1.heap.size qf lo lcap M T 0 := hrf.keep hf3 (by omega) (fun g hg e => by have := hlo g hg; omega)
      have hs3 := hf3.size
      have HX := hid hx
      have HB3 := hid hb3
      clear hr2 hrf hf3 hbw hx hb3
      go_wp2_with fail
      refine (rparam _ _).mono ?_
      rintro e w4 ⟨rfl, rfl⟩
      rw [hd0]
      by_cases h4 : 4000 < nn
      · have g4 : (4000 : Int) < (nn : Int) := by omega
        have hne : l = [] ∧ er ≠ 0 := by
          rcases HX.out with ⟨hr, _⟩ | ⟨e1, e2, _⟩
          · have e3 : 0 + nn ≤ pn := hr.ge hkk
            have e4 : pn ≤ 8 * T := hr.le (Nat.zero_le _)
            omega
          · exact ⟨e1, e2⟩
        obtain ⟨rfl, her⟩ := hne
        have her2 : (er != 0) = true := bne_iff_ne.2 her
        clear her
        go_wp2_with fail
        refine (known_true _).mono ?_
        rintro e w5 ⟨rfl, hb5⟩
        have hfin := HB3.out.trans (hb5.mono HB3.out.size)
        clear hb5
        go_wp2_with fail
        go_ret
        exact ⟨rfl, hfin⟩
      · have g4 : ¬ (4000 : Int) < (nn : Int) := by omega
        go_wp2_with fail
        refine (rgetall_any hrf3 (Nat.zero_le _) (by omega) kk hkk nn (by omega)).mono ?_
        rintro e w5 ⟨y, lo2, lcap2, hy, rfl, hul2, hrf5, hf5⟩
        obtain rfl := HX.out.one hy
        have hll : l.length ≤ 4000 := by
          rcases HX.out with ⟨hr, _⟩ | ⟨e1, _⟩
          · have := hr.len; simp only at this; omega
          · simp only at e1; rw [e1]; decide
        have hlc : ∀ u ∈ l, u < 18446744073709551616 := by
          intro u hu
          rcases HX.out with ⟨hr, _⟩ | ⟨e1, _⟩
          · have := hr.coded hkk u hu; unfold coded at this; omega
          · simp only at e1; rw [e1] at hu; cases hu
        have hul5 := hul.fr hf5 fun g hg e => by have := (hul.lt g hg).1; omega
        obtain ⟨b1, hus1⟩ := hul5.us (by omega) hlc
        obtain ⟨b2, hus2⟩ := Ul.us hul2 (by show l.length ≤ _; omega) hlc
        have hr5 : Rd w5 q w.heap.size M T pn := hr3.keep hf5 (by omega) (by omega)
        have hb5 : Below w.heap.size w w5 := Fr.below HB3.out hf5 (by omega)
        have HUI := hid fun w' (hf : Fr (fun _ => False) w5 w') => uints_any w' lo1 lo2 l.length lcap1 lcap2 b1 0 b2 0 _ _ (hus1.fr hf fun _ x => x) (hus2.fr hf fun _ x => x) (fun _ _ => rfl)
        have HAT := hid fun w' (hf : Fr (fun _ => False) w5 w') => rat_any (hr5.keep hf (fun x => x) (fun x => x))
        have HC1 := hid fun w' (hf : Fr (fun _ => False) w5 w') => (hrf5.keep hf (fun x => x) (fun _ _ x => x)).c1
        have HB5 := hid hb5
        clear hul hul2 hul5 hus1 hus2 hr5 hrf5 hf5 hr3 hrf3 hb5 hy
        by_cases her : er = 0
        · subst her
          go_wp2_with fail
          have cc : ∀ p : Kp w5, p.w'.cell? ⟨qf, 1, none⟩ = some (.int .i64 (pn : Int)) := fun p => HC1.out p.w' p.h
          refine wp_region_quiet_kp (by kernel_rfl) (by kernel_rfl) ?_
          repeat (quiet_step (first | (go_at_call 28; exact kp_call (HUI.out _ (Kp.h _))) | (go_at_call 29; exact kp_same (HAT.out _ (Kp.h _))) | (go_at_call 9; exact kp_below (known_true _))))
          refine wpQuiet_nil ?_
          intro _ hw'
          obtain ⟨⟨wq, hq⟩, hw''⟩ := hw'
          subst hw''
          have hfin := Fr.below0 HB5.out hq
          clear hq cc
          go_wp2_with fail
          go_ret
          exact ⟨rfl, hfin⟩
        · rcases HX.out.err her with e | e
          · obtain rfl : er = 10 := e
            clear her
            go_wp2_with fail
            refine wp_region_quiet_kp (by kernel_rfl) (by kernel_rfl) ?_
            repeat (first | go_big_quiet_step ((first | (go_at_call 28; exact kp_call (HUI.out _ (Kp.h _))) | (go_at_call 9; exact kp_below (known_true _)))) | fail)
            refine wpQuiet_nil ?_
            intro _ hw'
            obtain ⟨⟨wq, hq⟩, hw''⟩ := hw'
            subst hw''
            have hfin := Fr.below0 HB5.out hq
            clear hq
            go_wp2_with fail
            go_ret
            exact ⟨rfl, hfin⟩
          · obtain rfl : er = 12 := e
            clear her
            go_wp2_with fail
            refine wp_region_quiet_kp (by kernel_rfl) (by kernel_rfl) ?_
            repeat (first | go_big_quiet_step ((first | (go_at_call 28; exact kp_call (HUI.out _ (Kp.h _))) | (go_at_call 9; exact kp_below (known_true _)))) | fail)
            refine wpQuiet_nil ?_
            intro _ hw'
            obtain ⟨⟨wq, hq⟩, hw''⟩ := hw'
            subst hw''
            have hfin := Fr.below0 HB5.out hq
            clear hq
            go_wp2_with fail
            go_ret
            exact ⟨rfl, hfin⟩
    · refine (getall_arg w2 _ n k hok).mono ?_
      rintro e w3 ⟨rfl, rfl⟩
      go_wp2_with fail
      refine (rparam _ _).mono ?_
      rintro e w4 ⟨rfl, rfl⟩
      by_cases hk : okK k
      · have hd0 : decide (okK k) = true := decide_eq_true hk
        obtain ⟨kk, rfl⟩ := Int.eq_ofNat_of_zero_le hk.1
        have hkk : kk ≤ 30 := by have := hk.2; omega
        rw [hd0]
        have hget := hid (rice_get hr2 (Nat.zero_le _) (by omega) kk hkk)
        by_cases hn : n < 0
        · clear hok
          go_wp2_with fail
          refine hget.out.mono ?_
          rintro e w5 ⟨x, hx, rfl, hr5, hf5⟩
          have hb5 := Fr.below hbw hf5 (by omega)
          clear hx hr5 hf5
          go_wp2_with fail
          refine (rparam _ _).mono ?_
          rintro e w4 ⟨rfl, rfl⟩
          rw [hd0]
          go_wp2_with fail
          refine (known_true _).mono ?_
          rintro e w6 ⟨rfl, hb6⟩
          have hfin := hb5.trans (hb6.mono hb5.size)
          clear hb5 hb6
          go_wp2_with fail
          go_ret
          exact ⟨rfl, hfin⟩
        · have hn1 : 1048576 < n := by
            by_cases e : n ≤ 1048576
            · exact absurd ⟨hk, by omega, e⟩ hok
            · omega
          clear hok
          go_wp2_with fail
          refine hget.out.mono ?_
          rintro e w5 ⟨x, hx, rfl, hr5, hf5⟩
          have hb5 := Fr.below hbw hf5 (by omega)
          clear hx hr5 hf5
          go_wp2_with fail
          refine (rparam _ _).mono ?_
          rintro e w4 ⟨rfl, rfl⟩
          rw [hd0]
          go_wp2_with fail
          refine (known_true _).mono ?_
          rintro e w6 ⟨rfl, hb6⟩
          have hfin := hb5.trans (hb6.mono hb5.size)
          clear hb5 hb6
          go_wp2_with fail
          go_ret
          exact ⟨rfl, hfin⟩
      · have hd0 : decide (okK k) = false := decide_eq_false hk
        rw [hd0]
        clear hok
        go_wp2_with fail
        refine (riceget_arg _ _ k hk).mono ?_
        rintro e w5 ⟨rfl, rfl⟩
        go_wp2_with fail
        refine (rparam _ _).mono ?_
        rintro e w4 ⟨rfl, rfl⟩
        rw [hd0]
        go_wp2_with fail
        refine (known_true _).mono ?_
        rintro e w6 ⟨rfl, hb6⟩
        have hfin := hbw.trans (hb6.mono hbw.size)
        clear hb6
        go_wp2_with fail
        go_ret
        exact ⟨rfl, hfin⟩
end Go.Proofs.Ytgojdhffhocceaa.Rice
