/- The document's Coded, Cost and Best of runs; RunsCosts' walk. Conditions: those of the memory's own form alone. -/
import Derived.Test.YtjimamjhakainaaRl
import Derived.Test.YtjimamjhakainaaQc
namespace Go.Proofs.Ytjimamjhakainaa.Runs
open Go.RowKit Bit Rice

def CodedPost (w : World) (I : Nat → Int) (len : Nat) (e : Ending) (w' : World) : Prop := ∃ x : Bool, e = .returned (.bool x) ∧ w = w' ∧ (x = true ↔ allZ I len)
set_option maxRecDepth 100000 in
theorem rcoded_any (w : World) (a : Option Addr) (len cap b off : Nat) (I : Nat → Int) (h : Is w a len cap b off I) :
    Calls Try.prog 98 #[.slice a len cap] w (CodedPost w I len) := by
  have H := hid h
  have hl := h.hl
  have hc := h.hc
  clear h
  go_enter Try.func98, Try.ntmps98
  go_wp2_with fail
  go_loopg [3] len (fun g i wr => ∃ k : Nat, k ≤ len ∧ g = len - k ∧ i = .int .i64 k ∧ w = wr ∧ allZ I k)
  case atStart => exact ⟨0, Nat.zero_le _, rfl, rfl, rfl, fun j hj => absurd hj (Nat.not_lt_zero _)⟩
  case round =>
    obtain ⟨k, hk, hg, rfl, rfl, hall⟩ := hrel
    have HG := hid hg
    have HA := hid hall
    clear hg hall
    by_cases hlt : k < len
    · have hlt2 : (k : Int) < (len : Int) := by omega
      obtain rfl := H.out.addr (by omega)
      have ck := H.out.c k hlt
      go_wp2_with fail
      refine (rzig_any (I k) (H.out.ib k hlt) w).mono ?_
      rintro e w' ⟨rfl, rfl⟩
      by_cases hc : coded (zg (I k))
      · have g1 : ¬ (1099511627776 : Int) ≤ (zg (I k) : Int) := by unfold coded at hc; omega
        have HC := hid hc
        clear hc
        generalize hzz : zg (I k) = z at *
        have HZ := hid hzz
        clear hzz
        have g2 : decide ((1099511627776 : Int) ≤ (z : Int)) = false := decide_eq_false g1
        clear g1
        go_wp2_with fail
        go_roundg (len - (k + 1))
        case measure => rw [HG.out]; omega
        case rel => exact ⟨k + 1, by omega, rfl, by go_num, rfl, fun j hj => by
          by_cases e : j = k
          · rw [e, HZ.out]; exact HC.out
          · exact HA.out j (by omega)⟩
      · have g1 : (1099511627776 : Int) ≤ (zg (I k) : Int) := by unfold coded at hc; omega
        have HC := hid fun (h : allZ I len) => hc (h k hlt)
        clear hc
        generalize zg (I k) = z at *
        go_wp2_with fail
        go_ret
        exact ⟨_, rfl, rfl, by simp only [Bool.false_eq_true, false_iff]; exact HC.out⟩
    · have hge : ¬ (k : Int) < (len : Int) := by omega
      obtain rfl : k = len := by omega
      go_wp2_with fail
      go_ret
      exact ⟨_, rfl, rfl, by simp only [true_iff]; exact HA.out⟩

/-- What the codes of the first i numbers cost, but for the noughts at their end. -/
def rcs (I : Nat → Int) (k : Int) : Nat → Nat
  | 0 => 0
  | i + 1 => if I i = 0 then rcs I k i else rcs I k i + gl (rn I i + 1) + cost (zg (I i) - 1) k
def tl (k : Int) : List Nat → Nat
  | [] => 0
  | u :: l => cost u k + tl k l
theorem tl_app (k : Int) (u : Nat) : ∀ l, tl k (l ++ [u]) = tl k l + cost u k
  | [] => by simp [tl]
  | v :: l => by
    have := tl_app k u l
    show cost v k + tl k (l ++ [u]) = cost v k + tl k l + cost u k
    rw [this]; omega
theorem tot_congr (U V : Nat → Nat) (k : Int) : ∀ n, (∀ i, i < n → U i = V i) → tot U k n = tot V k n
  | 0, _ => rfl
  | n + 1, h => by
    have h1 := tot_congr U V k n fun i hi => h i (by omega)
    show tot U k n + cost (U n) k = tot V k n + cost (V n) k
    rw [h1, h n (by omega)]
theorem tot_shift (U : Nat → Nat) (k : Int) : ∀ n, tot U k (n + 1) = cost (U 0) k + tot (fun i => U (i + 1)) k n
  | 0 => by show 0 + cost (U 0) k = cost (U 0) k + 0; omega
  | n + 1 => by
    have h1 := tot_shift U k n
    show tot U k (n + 1) + cost (U (n + 1)) k = cost (U 0) k + (tot (fun i => U (i + 1)) k n + cost (U (n + 1)) k)
    rw [h1]; omega
theorem tot_tl (k : Int) : ∀ l : List Nat, tot (fun i => l.getD i 0) k l.length = tl k l
  | [] => rfl
  | u :: l => by
    have h1 := tot_tl k l
    show tot _ k (l.length + 1) = cost u k + tl k l
    rw [tot_shift, ← h1]
    rfl
theorem rcs_sp (I : Nat → Int) (k : Int) : ∀ i, rcs I k i = (sp I i).1 + tl k (sp I i).2
  | 0 => rfl
  | i + 1 => by
    have h := rcs_sp I k i
    show (if I i = 0 then rcs I k i else rcs I k i + gl (rn I i + 1) + cost (zg (I i) - 1) k) = (if I i = 0 then sp I i else ((sp I i).1 + gl (rn I i + 1), (sp I i).2 ++ [zg (I i) - 1]) : Nat × List Nat).1 + tl k (if I i = 0 then sp I i else ((sp I i).1 + gl (rn I i + 1), (sp I i).2 ++ [zg (I i) - 1]) : Nat × List Nat).2
    by_cases e : I i = 0
    · rw [if_pos e, if_pos e]; exact h
    · rw [if_neg e, if_neg e]
      show _ = (sp I i).1 + gl (rn I i + 1) + tl k ((sp I i).2 ++ [zg (I i) - 1])
      rw [tl_app, h]; omega
theorem cst_rcs (I : Nat → Int) (k : Int) (len : Nat) : cst I k len = if 0 < rn I len then rcs I k len + gl (rn I len + 1) else rcs I k len := by
  unfold cst ru
  rw [tot_tl, spf_snd, rcs_sp]
  unfold spf
  split
  · show (sp I len).1 + gl (rn I len + 1) + _ = _; omega
  · rfl
theorem rcs_le (I : Nat → Int) (k : Int) : ∀ i, rcs I k i ≤ 127 * i
  | 0 => Nat.le_refl _
  | i + 1 => by
    have h := rcs_le I k i
    have h1 := gl_le (rn I i + 1)
    have h2 := cost_le (zg (I i) - 1) k
    show (if I i = 0 then _ else _) ≤ _
    split <;> omega

theorem rwidthI (xi : Int) (x : Nat) (hxi : xi = x) (hx : x < 18446744073709551616) (w : World) : Calls Try.prog 37 #[.int .u64 xi] w fun e w' => e = .returned (.int .i64 (Lib.bitLen x : Int)) ∧ w = w' := by subst hxi; exact rwidth_any x hx w
theorem rcostI (ui : Int) (u : Nat) (hui : ui = u) (k : Int) (hu : u < 18446744073709551616) (w : World) : Calls Try.prog 96 #[.int .u64 ui, .int .i64 k] w fun e w' => e = .returned (.int .i64 (cost u k : Int)) ∧ w = w' := by subst hui; exact rcost_any u k hu w

def RCostPost (w : World) (x : Nat) (e : Ending) (w' : World) : Prop := e = .returned (.int .i64 (x : Int)) ∧ Fr (fun _ => False) w w'
set_option maxHeartbeats 1600000 in
set_option maxRecDepth 100000 in
theorem rrcost_any (w : World) (a : Option Addr) (len cap b off : Nat) (I : Nat → Int) (h : Is w a len cap b off I) (hlen : len ≤ 1048576) (k : Int) :
    Calls Try.prog 69 #[.slice a len cap, .int .i64 k] w (RCostPost w (cstI I k len)) := by
  unfold RCostPost cstI
  by_cases hk : okK k
  · have hd := decide_eq_true hk
    have HCO := hid (rcoded_any w a len cap b off I h)
    by_cases hz : allZ I len
    · rw [if_pos ⟨hk, hz⟩]
      have HCT := hid (cst_rcs I k len)
      have H := hid h
      clear h
      generalize cst I k len = ct at *
      go_enter Try.func69, Try.ntmps69
      go_wp2_with fail
      refine (rparam k w).mono ?_
      rintro e w1 ⟨rfl, rfl⟩
      rw [hd]
      go_wp2_with fail
      refine Calls.mono HCO.out ?_
      rintro e w1 ⟨y, rfl, rfl, hy⟩
      obtain rfl : y = true := hy.2 hz
      clear hy HCO
      go_wp2_with fail
      go_loopg [5, 6, 7] len (fun g s n i wr => ∃ j : Nat, j ≤ len ∧ g = len - j ∧ s = .int .i64 (rcs I k j : Int) ∧ n = .int .i64 (rn I j : Int) ∧ i = .int .i64 j ∧ Fr (fun _ => False) w wr)
      case atStart => exact ⟨0, Nat.zero_le _, rfl, rfl, rfl, rfl, Fr.refl _ _⟩
      case round =>
        obtain ⟨j, hj, hg, rfl, rfl, rfl, hf⟩ := hrel
        have HG := hid hg
        have hrl := rn_le I j
        have hrs := rcs_le I k j
        clear hg
        by_cases hlt : j < len
        · have hlt2 : (j : Int) < (len : Int) := by omega
          have his := H.out.fr hf (fun _ x => x)
          obtain rfl := H.out.addr (by omega)
          have ck := his.c j hlt
          by_cases h0 : I j = 0
          · have HE : Hid (rcs I k (j + 1) = rcs I k j ∧ rn I (j + 1) = rn I j + 1) := hid ⟨if_pos h0, if_pos h0⟩
            have e0 : ((I j) != 0) = false := by rw [h0]; rfl
            clear h0
            generalize rcs I k j = sj at *
            generalize rn I j = nj at *
            generalize I j = ij at *
            go_wp2_with fail
            go_roundg (len - (j + 1))
            case measure => rw [HG.out]; omega
            case rel => exact ⟨j + 1, by omega, rfl, by rw [HE.out.1], by rw [HE.out.2]; go_num, by go_num, hf⟩
          · have HE : Hid (rcs I k (j + 1) = rcs I k j + gl (rn I j + 1) + cost (zg (I j) - 1) k ∧ rn I (j + 1) = 0) := hid ⟨if_neg h0, if_neg h0⟩
            have e0 : ((I j) != 0) = true := bne_iff_ne.2 h0
            have hgk := gl_ok (v := rn I j + 1) ⟨by omega, by omega⟩
            have HWD := hid fun xi (hx : xi = ((rn I j + 1 : Nat) : Int)) w => rwidthI xi (rn I j + 1) hx (by omega) w
            have HZG := hid fun w => rzig_any (I j) (H.out.ib j hlt) w
            have hzl := zg_lt (H.out.ib j hlt)
            have hzp := zg_pos h0
            have HCS := hid fun ui (hu : ui = ((zg (I j) - 1 : Nat) : Int)) w => rcostI ui (zg (I j) - 1) hu k (by omega) w
            have hcl := cost_le (zg (I j) - 1) k
            have ckk : ∀ p : Kp wr, p.w'.cell? ⟨b, off + j, none⟩ = some (.int .i64 (I j)) := fun p => ((his.fr p.h (fun _ x => x)).c j hlt)
            obtain ⟨q1, q2, q3, _, _, _⟩ := hgk
            clear h0 his
            generalize cost (zg (I j) - 1) k = cj at *
            generalize gl (rn I j + 1) = gj at *
            generalize Lib.bitLen (rn I j + 1) = bj at *
            generalize zg (I j) = zj at *
            generalize rcs I k j = sj at *
            generalize rn I j = nj at *
            generalize I j = ij at *
            go_wp2_with fail
            clear ck
            refine wp_region_quiet_kp (by kernel_rfl) (by kernel_rfl) ?_
            repeat (quiet_step (first | (go_at_call 37; exact kp_same (HWD.out _ (by first | omega | (simp only [IntKind.wrap_u64]; omega)) _)) | (go_at_call 67; exact kp_same (HZG.out _)) | (go_at_call 96; exact kp_same (HCS.out _ (by first | omega | (simp only [IntKind.wrap_u64]; omega)) _))))
            refine wpQuiet_nil ?_
            intro _ hw'
            obtain ⟨⟨wq, hq⟩, hw''⟩ := hw'
            subst hw''
            have hf2 := hf.trans hq
            clear hq ckk hf
            go_wp2_with fail
            go_roundg (len - (j + 1))
            case measure => rw [HG.out]; omega
            case rel =>
              have e5 : IntKind.i64.wrap (IntKind.i64.wrap (IntKind.i64.wrap ((sj : Int) + IntKind.i64.wrap (2 * (bj : Int))) - 1) + (cj : Int)) = ((sj + gj + cj : Nat) : Int) := by
                rw [IntWalk.i64_in (2 * (bj : Int)) (by omega), IntWalk.i64_in ((sj : Int) + 2 * (bj : Int)) (by omega), IntWalk.i64_in ((sj : Int) + 2 * (bj : Int) - 1) (by omega), IntWalk.i64_in ((sj : Int) + 2 * (bj : Int) - 1 + (cj : Int)) (by omega)]
                omega
              have e6 : rcs I k (j + 1) = sj + gj + cj := HE.out.1
              have e7 : rn I (j + 1) = 0 := HE.out.2
              exact ⟨j + 1, by omega, rfl, by rw [e6, ← e5], by rw [e7]; rfl, by go_num, hf2⟩
        · have hge : ¬ (j : Int) < (len : Int) := by omega
          obtain rfl : j = len := by omega
          by_cases h0 : 0 < rn I j
          · have g0 : (0 : Int) < (rn I j : Int) := by omega
            have HE : Hid (ct = rcs I k j + gl (rn I j + 1)) := hid (by rw [HCT.out, if_pos h0])
            have hgk := gl_ok (v := rn I j + 1) ⟨by omega, by omega⟩
            have HWD := hid fun xi (hx : xi = ((rn I j + 1 : Nat) : Int)) w => rwidthI xi (rn I j + 1) hx (by omega) w
            obtain ⟨q1, q2, q3, _, _, _⟩ := hgk
            clear HCT
            generalize gl (rn I j + 1) = gj at *
            generalize Lib.bitLen (rn I j + 1) = bj at *
            generalize rcs I k j = sj at *
            generalize rn I j = nj at *
            go_wp2_with fail
            refine (HWD.out _ (by first | omega | (simp only [IntKind.wrap_u64]; omega)) _).mono ?_
            rintro e w1 ⟨rfl, rfl⟩
            go_wp2_with fail
            go_ret
            exact ⟨congrArg (fun z : Int => Ending.returned (.int .i64 z)) (by rw [HE.out]; omega), hf⟩
          · have g0 : ¬ (0 : Int) < (rn I j : Int) := by omega
            have HE : Hid (ct = rcs I k j) := hid (by rw [HCT.out, if_neg h0])
            clear HCT
            go_wp2_with fail
            go_ret
            exact ⟨congrArg (fun z : Nat => Ending.returned (.int .i64 (z : Int))) HE.out.symm, hf⟩
    · rw [if_neg (fun h => hz h.2)]
      clear h
      go_enter Try.func69, Try.ntmps69
      go_wp2_with fail
      refine (rparam k w).mono ?_
      rintro e w1 ⟨rfl, rfl⟩
      rw [hd]
      go_wp2_with fail
      refine Calls.mono HCO.out ?_
      rintro e w1 ⟨y, rfl, rfl, hy⟩
      obtain rfl : y = false := by
        cases y with
        | false => rfl
        | true => exact absurd (hy.1 rfl) hz
      clear hy HCO
      go_wp2_with fail
      go_ret
      exact ⟨rfl, Fr.refl _ _⟩
  · have hd := decide_eq_false hk
    rw [if_neg (fun h => hk h.1)]
    clear h
    go_enter Try.func69, Try.ntmps69
    go_wp2_with fail
    refine (rparam k w).mono ?_
    rintro e w1 ⟨rfl, rfl⟩
    rw [hd]
    go_wp2_with fail
    go_ret
    exact ⟨rfl, Fr.refl _ _⟩

def RBestPost (w : World) (x y : Nat) (e : Ending) (w' : World) : Prop := e = .returned (.tuple #[.int .i64 (x : Int), .int .i64 (y : Int)]) ∧ Fr (fun _ => False) w w'
set_option maxHeartbeats 800000 in
theorem rrbest_any (w : World) (a : Option Addr) (len cap b off : Nat) (I : Nat → Int) (h : Is w a len cap b off I) (hlen : len ≤ 1048576) :
    Calls Try.prog 39 #[.slice a len cap] w (RBestPost w (rbs I len 30) (cstI I (rbs I len 30 : Nat) len)) := by
  unfold RBestPost
  have HT := hid fun w' (hf : Fr (fun _ => False) w w') k => rrcost_any w' a len cap b off I (h.fr hf (fun _ x => x)) hlen k
  clear h hlen
  go_enter Try.func39, Try.ntmps39
  go_wp2_with fail
  go_loopg [4, 5] 31 (fun g b k wr => ∃ j : Nat, j ≤ 30 ∧ g = 31 - j ∧ b = .int .i64 (rbs I len j : Int) ∧ k = .int .i64 ((j : Int) + 1) ∧ Fr (fun _ => False) w wr)
  case atStart => exact ⟨0, Nat.zero_le _, by omega, rfl, rfl, Fr.refl _ _⟩
  case round =>
    obtain ⟨j, hj, hg, rfl, rfl, hf⟩ := hrel
    have HG := hid hg
    clear hg
    by_cases hlt : j < 30
    · have g1 : (j : Int) + 1 ≤ 30 := by omega
      have HN : Hid (rbs I len (j + 1) = if cstI I (j + 1 : Nat) len < cstI I (rbs I len j : Nat) len then j + 1 else rbs I len j) := hid rfl
      have HTK := hid fun w' hf => HT.out w' hf ((j : Int) + 1)
      have HTB := hid fun w' hf => HT.out w' hf (rbs I len j : Nat)
      rw [show ((j + 1 : Nat) : Int) = (j : Int) + 1 from rfl] at HN
      generalize rbs I len j = bj at *
      generalize cstI I (bj : Nat) len = bt at *
      generalize cstI I ((j : Int) + 1) len = nt at *
      go_wp2_with fail
      refine Calls.mono (HTK.out _ hf) ?_
      rintro e w2 ⟨rfl, hf2⟩
      have hf3 := hf.trans hf2
      clear hf hf2
      go_wp2_with fail
      refine Calls.mono (HTB.out _ hf3) ?_
      rintro e w4 ⟨rfl, hf4⟩
      have hf5 := hf3.trans hf4
      clear hf3 hf4
      by_cases hc : nt < bt
      · have g3 : (nt : Int) < (bt : Int) := by omega
        have HE : Hid (rbs I len (j + 1) = j + 1) := hid (by rw [HN.out, if_pos hc])
        go_wp2_with fail
        go_roundg (31 - (j + 1))
        case measure => rw [HG.out]; omega
        case rel => exact ⟨j + 1, by omega, rfl, by rw [HE.out]; rfl, by go_num, hf5⟩
      · have g3 : ¬ (nt : Int) < (bt : Int) := by omega
        have HE : Hid (rbs I len (j + 1) = bj) := hid (by rw [HN.out, if_neg hc])
        go_wp2_with fail
        go_roundg (31 - (j + 1))
        case measure => rw [HG.out]; omega
        case rel => exact ⟨j + 1, by omega, rfl, by rw [HE.out], by go_num, hf5⟩
    · obtain rfl : j = 30 := by omega
      have HTB := hid fun w' hf => HT.out w' hf (rbs I len 30 : Nat)
      go_wp2_with fail
      refine Calls.mono (HTB.out _ hf) ?_
      rintro e w2 ⟨rfl, hf2⟩
      have hf3 := hf.trans hf2
      clear hf hf2
      go_wp2_with fail
      go_ret2
      exact ⟨rfl, hf3⟩

theorem fr_below0 {a w w' : World} (h : Below a.heap.size a w) (hf : Fr (fun _ => False) w w') : Below a.heap.size a w' :=
  h.trans ⟨hf.os, hf.tape, hf.output, hf.size, fun k hk => hf.block k (Nat.lt_of_lt_of_le hk h.size) (fun x => x)⟩
end Go.Proofs.Ytjimamjhakainaa.Runs
