/- EvenGets' walk: any bits are read as the numbers that the document says, or refused. Conditions: those of the memory's own form alone. -/
import Derived.Test.YtfpmdfbggifjiaaEg
import Derived.Test.YtfpmdfbggifjiaaOb
import Derived.Test.YtfpmdfbggifjiaaQc
import Derived.StillTailTactics
namespace Go.Proofs.Ytfpmdfbggifjiaa.Even
open Go.RowKit Bit Rice

theorem fr_below {q : Nat} {a w w' : World} (h : Below a.heap.size a w) (hf : Fr (fun b => b = q) w w') (hq : a.heap.size ≤ q) : Below a.heap.size a w' :=
  h.trans ⟨hf.os, hf.tape, hf.output, hf.size, fun k hk => hf.block k (Nat.lt_of_lt_of_le hk h.size) (by omega)⟩
theorem fr_below0 {a w w' : World} (h : Below a.heap.size a w) (hf : Fr (fun _ => False) w w') : Below a.heap.size a w' :=
  h.trans ⟨hf.os, hf.tape, hf.output, hf.size, fun k hk => hf.block k (Nat.lt_of_lt_of_le hk h.size) (fun x => x)⟩

theorem allE_okv {M T n p : Nat} (hn : spn n) (hp : p ≤ 8 * T) : ∀ j, ∀ u ∈ (allE M T n p j).1, okv u n
  | 0, u, hu => by cases hu
  | j + 1, u, hu => by
    by_cases h1 : (allE M T n p j).2.1 = 0
    · by_cases h2 : (getE M T (allE M T n p j).2.2 n).2.1 = 0
      · rw [allE_ok h1 h2] at hu
        rcases List.mem_append.1 hu with e | e
        · exact allE_okv hn hp j u e
        · obtain rfl := List.mem_singleton.1 e
          have hl := allE_le M T n p hp j
          generalize (allE M T n p j).2.2 = a at *
          generalize hx : getE M T a n = x at *
          obtain ⟨x1, x2, x3⟩ := x
          simp only at h2
          subst h2
          exact (code_of_get hn hl hx).1
      · rw [allE_bad h1 h2] at hu; cases hu
    · rw [allE_stay h1 1] at hu; exact allE_okv hn hp j u hu

set_option maxHeartbeats 1000000 in
set_option maxRecDepth 100000 in
theorem gets_walk (w : World) (a : Option Addr) (T cap M : Nat) (c : Int) (n : Nat) (h : Byts w a T M) :
    Calls Try.prog 5 #[.slice a T cap, .int .i64 c, .int .u64 (n : Int)] w fun e w' => e = .returned (.bool true) ∧ Below w.heap.size w w' := by
  by_cases h2 : 200 < T
  · have h1 : (200 : Int) < (T : Int) := by omega
    go_enter Try.func5, Try.ntmps5
    go_wp2_with fail
    refine (known_true _).mono ?_
    rintro e w' ⟨rfl, hb⟩
    go_wp2_with fail
    go_ret
    exact ⟨rfl, hb⟩
  · have h1 : ¬ (200 : Int) < (T : Int) := by omega
    have H := hid h
    clear h
    go_enter Try.func5, Try.ntmps5
    go_wp2_with fail
    refine (read_b H.out (Below.refl _ _) (by omega)).mono ?_
    rintro e w1 ⟨q, rfl, hq, hb1, hr1⟩
    go_wp2_with fail
    refine (rread_b H.out hb1 (by omega)).mono ?_
    rintro e w2 ⟨qf, lo, lcap, rfl, hrf, hqf, hb2⟩
    have hq1 : q < w1.heap.size := World.block_lt_of_cell? w1 _ hr1.c0
    have hqf2 : qf < w2.heap.size := World.block_lt_of_cell? w2 _ hrf.c0
    have hr2 : Rd w2 q w.heap.size M T 0 := hr1.keep (X := fun b => w1.heap.size ≤ b) (Fr.of_below hb2) (by omega) (by have := hr1.row.lt; omega)
    have hlo : ∀ g, blk lo = some g → w1.heap.size ≤ g := fun g hg => (hrf.own.lt g (by rw [ownBlock_slice]; exact hg)).1
    have hbw : Below w.heap.size w w2 := hb1.trans (hb2.mono hb1.size)
    have hs1 := hb1.size
    clear hr1 hb1 hb2
    go_wp2_with fail
    refine (rspan n _).mono ?_
    rintro e w4 ⟨rfl, rfl⟩
    by_cases hn : spn n
    · have hd0 := decide_eq_true hn
      rw [hd0]
      by_cases hc0 : c < 0
      · go_wp2_with fail
        refine (getall_arg w2 _ c n (fun h => by omega)).mono ?_
        rintro e w3 ⟨rfl, rfl⟩
        go_wp2_with fail
        refine (known_true _).mono ?_
        rintro e w6 ⟨rfl, hb6⟩
        have hfin := hbw.trans (hb6.mono hbw.size)
        clear hb6
        go_wp2_with fail
        go_ret
        exact ⟨rfl, hfin⟩
      · by_cases hc1 : 1048576 < c
        · go_wp2_with fail
          refine (getall_arg w2 _ c n (fun h => by omega)).mono ?_
          rintro e w3 ⟨rfl, rfl⟩
          go_wp2_with fail
          refine (known_true _).mono ?_
          rintro e w6 ⟨rfl, hb6⟩
          have hfin := hbw.trans (hb6.mono hbw.size)
          clear hb6
          go_wp2_with fail
          go_ret
          exact ⟨rfl, hfin⟩
        · obtain ⟨cc, rfl⟩ := Int.eq_ofNat_of_zero_le (by omega : 0 ≤ c)
          by_cases h4 : 2000 < cc
          · have g4 : (2000 : Int) < (cc : Int) := by omega
            go_wp2_with fail
            refine (known_true _).mono ?_
            rintro e w6 ⟨rfl, hb6⟩
            have hfin := hbw.trans (hb6.mono hbw.size)
            clear hb6
            go_wp2_with fail
            go_ret
            exact ⟨rfl, hfin⟩
          · have g4 : ¬ (2000 : Int) < (cc : Int) := by omega
            go_wp2_with fail
            refine (getall_any hr2 (Nat.zero_le _) (by omega) n hn cc (by omega)).mono ?_
            rintro e w3 ⟨lo1, lcap1, rfl, hul, hr3, hf3⟩
            have hb3 : Below w.heap.size w w3 := fr_below hbw hf3 (by omega)
            have hrf3 : Rf w3 w1.heap.size qf lo lcap M T 0 := hrf.keep hf3 (by omega) (fun g hg e => by have := hlo g hg; omega)
            have hs3 := hf3.size
            have HB3 := hid hb3
            clear hr2 hrf hf3 hbw hb3
            go_wp2_with fail
            refine (rgetall_any hrf3 (Nat.zero_le _) (by omega) n hn cc (by omega)).mono ?_
            rintro e w5 ⟨lo2, lcap2, rfl, hul2, hrf5, hf5⟩
            have hll : (allE M T n 0 cc).1.length ≤ 2000 := by
              by_cases e : (allE M T n 0 cc).2.1 = 0
              · have := allE_len M T n 0 cc e; omega
              · rw [(allE_err M T n 0 cc e).1]; exact Nat.zero_le _
            have hlc : ∀ u ∈ (allE M T n 0 cc).1, u < 18446744073709551616 := fun u hu => by
              have := allE_okv hn (Nat.zero_le _) cc u hu
              have := this.2; have := hn.2; omega
            have her := allE_err M T n 0 cc
            have hul5 := hul.fr hf5 fun g hg e => by have := (hul.lt g hg).1; omega
            obtain ⟨b1, hus1⟩ := hul5.us (by omega) hlc
            obtain ⟨b2, hus2⟩ := Ul.us hul2 (by omega) hlc
            have hr5 : Rd w5 q w.heap.size M T (allE M T n 0 cc).2.2 := hr3.keep hf5 (by omega) (by omega)
            have hb5 : Below w.heap.size w w5 := fr_below HB3.out hf5 (by omega)
            have HUI := hid fun w' (hf : Fr (fun _ => False) w5 w') => uints_any w' lo1 lo2 (allE M T n 0 cc).1.length lcap1 lcap2 b1 0 b2 0 _ _ (hus1.fr hf fun _ x => x) (hus2.fr hf fun _ x => x) (fun _ _ => rfl)
            have HAT := hid fun w' (hf : Fr (fun _ => False) w5 w') => rat_any (hr5.keep hf (fun x => x) (fun x => x))
            have HC1 := hid fun w' (hf : Fr (fun _ => False) w5 w') => (hrf5.keep hf (fun x => x) (fun _ _ x => x)).c1
            have HB5 := hid hb5
            clear hul hul2 hul5 hus1 hus2 hr5 hrf5 hf5 hr3 hrf3 hb5
            generalize allE M T n 0 cc = x at *
            obtain ⟨l, er, pn⟩ := x
            simp only at hll hlc her
            by_cases he : er = 0
            · subst he
              clear her
              go_wp2_with fail
              have ce : ∀ p : Kp w5, p.w'.cell? ⟨qf, 1, none⟩ = some (.int .i64 (pn : Int)) := fun p => HC1.out p.w' p.h
              refine wp_region_quiet_kp (by kernel_rfl) (by kernel_rfl) ?_
              repeat (quiet_step (first | (go_at_call 26; exact kp_call (HUI.out _ (Kp.h _))) | (go_at_call 27; exact kp_same (HAT.out _ (Kp.h _))) | (go_at_call 9; exact kp_below (known_true _))))
              refine wpQuiet_nil ?_
              intro _ hw'
              obtain ⟨⟨wq, hq⟩, hw''⟩ := hw'
              subst hw''
              have hfin := fr_below0 HB5.out hq
              clear hq ce
              go_wp2_with fail
              go_ret
              exact ⟨rfl, hfin⟩
            · obtain ⟨rfl, rfl⟩ := her he
              clear he
              go_wp2_with fail
              refine wp_region_quiet_kp (by kernel_rfl) (by kernel_rfl) ?_
              repeat (first | go_big_quiet_step ((first | (go_at_call 26; exact kp_call (HUI.out _ (Kp.h _))) | (go_at_call 9; exact kp_below (known_true _)))) | fail)
              refine wpQuiet_nil ?_
              intro _ hw'
              obtain ⟨⟨wq, hq⟩, hw''⟩ := hw'
              subst hw''
              have hfin := fr_below0 HB5.out hq
              clear hq
              go_wp2_with fail
              go_ret
              exact ⟨rfl, hfin⟩
    · have hd0 := decide_eq_false hn
      rw [hd0]
      go_wp2_with fail
      refine (getall_arg w2 _ c n (fun h => hn h.1)).mono ?_
      rintro e w3 ⟨rfl, rfl⟩
      go_wp2_with fail
      refine (known_true _).mono ?_
      rintro e w6 ⟨rfl, hb6⟩
      have hfin := hbw.trans (hb6.mono hbw.size)
      clear hb6
      go_wp2_with fail
      go_ret
      exact ⟨rfl, hfin⟩
end Go.Proofs.Ytfpmdfbggifjiaa.Even
