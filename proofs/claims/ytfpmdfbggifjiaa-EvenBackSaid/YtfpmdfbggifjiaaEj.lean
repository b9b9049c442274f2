/- EvenBack's walk: what is put is got; what is got is put as the bits that it was. Conditions: those of the memory's own form alone. -/
import Derived.Test.YtfpmdfbggifjiaaEh
import Derived.Test.YtfpmdfbggifjiaaEf
import Derived.Deep.DeepCutAuto
namespace Go.Proofs.Ytfpmdfbggifjiaa.Even
open Go.RowKit Bit Rice

/-- The first numbers of a list. -/
def upto (U : Nat → Nat) (j : Nat) : List Nat := (List.range j).map U
theorem upto_succ (U : Nat → Nat) (j : Nat) : upto U (j + 1) = upto U j ++ [U j] := by unfold upto; rw [List.range_succ, List.map_append]; rfl
theorem upto_len (U : Nat → Nat) (j : Nat) : (upto U j).length = j := by simp [upto]
theorem cds_pre (U : Nat → Nat) (n : Nat) : ∀ m j, j ≤ m → (cds U n 0 0 m).1 / 2 ^ ((cds U n 0 0 m).2 - (cds U n 0 0 j).2) = (cds U n 0 0 j).1 ∧ (cds U n 0 0 j).2 ≤ (cds U n 0 0 m).2
  | 0, j, h => by
    obtain rfl : j = 0 := by omega
    exact ⟨by simp, Nat.le_refl _⟩
  | m + 1, j, h => by
    by_cases e : j = m + 1
    · subst e; exact ⟨by rw [Nat.sub_self, Nat.pow_zero, Nat.div_one], Nat.le_refl _⟩
    · obtain ⟨h1, h2⟩ := cds_pre U n m j (by omega)
      have hl := cd_lt (U m) n
      show ((cds U n 0 0 m).1 * 2 ^ ct (U m) n + cd (U m) n) / 2 ^ ((cds U n 0 0 m).2 + ct (U m) n - (cds U n 0 0 j).2) = _ ∧ _ ≤ (cds U n 0 0 m).2 + ct (U m) n
      refine ⟨?_, by omega⟩
      rw [show (cds U n 0 0 m).2 + ct (U m) n - (cds U n 0 0 j).2 = ct (U m) n + ((cds U n 0 0 m).2 - (cds U n 0 0 j).2) from by omega, Nat.pow_add, ← Nat.div_div_eq_div_mul, Nat.mul_comm, Nat.mul_add_div (Nat.two_pow_pos _), Nat.div_eq_of_lt hl, Nat.add_zero, h1]
theorem all_of_cds (U : Nat → Nat) (n m : Nat) (hn : spn n) (hc : allB U n m) : ∀ j, j ≤ m → allE (pad (cds U n 0 0 m).1 (cds U n 0 0 m).2) (((cds U n 0 0 m).2 + 7) / 8) n 0 j = (upto U j, 0, (cds U n 0 0 j).2)
  | 0, _ => rfl
  | j + 1, h => by
    have ih := all_of_cds U n m hn hc j (by omega)
    obtain ⟨h1, h2⟩ := cds_pre U n m (j + 1) h
    have hl := cd_lt (U j) n
    have e2 : (cds U n 0 0 (j + 1)).2 = (cds U n 0 0 j).2 + ct (U j) n := rfl
    have e1 : (cds U n 0 0 (j + 1)).1 = (cds U n 0 0 j).1 * 2 ^ ct (U j) n + cd (U j) n := rfl
    rw [e2] at h1 h2 ⊢
    have hg : getE (pad (cds U n 0 0 m).1 (cds U n 0 0 m).2) (((cds U n 0 0 m).2 + 7) / 8) (cds U n 0 0 j).2 n = (U j, 0, (cds U n 0 0 j).2 + ct (U j) n) := by
      refine get_of_code ⟨hn, hc j (by omega)⟩ (by omega) ?_
      rw [seg_pad _ _ _ _ (by omega)]
      unfold seg
      rw [show (cds U n 0 0 m).2 - (cds U n 0 0 j).2 - ct (U j) n = (cds U n 0 0 m).2 - ((cds U n 0 0 j).2 + ct (U j) n) from by omega, h1, e1, Nat.mul_comm, Nat.mul_add_mod, Nat.mod_eq_of_lt hl]
    rw [allE_ok (by rw [ih]) (by rw [ih]; show (getE _ _ _ n).2.1 = 0; rw [hg])]
    rw [ih]
    show (upto U j ++ [(getE _ _ (cds U n 0 0 j).2 n).1], 0, (getE _ _ (cds U n 0 0 j).2 n).2.2) = _
    rw [hg, upto_succ]

theorem allE_before {M T n p m : Nat} (h : (allE M T n p m).2.1 = 0) {j : Nat} (hj : j ≤ m) : (allE M T n p j).2.1 = 0 := by
  by_cases e : (allE M T n p j).2.1 = 0
  · exact e
  · have := allE_stay e (m - j)
    rw [show j + (m - j) = m from by omega] at this
    rw [this] at h
    exact absurd h e
/-- What is read is put as the bits that it was. -/
theorem cds_of_all {M T n : Nat} (hn : spn n) (V : Nat → Nat) : ∀ j, (allE M T n 0 j).2.1 = 0 → (∀ i, i < j → V i = (allE M T n 0 j).1.getD i 0) → allB V n j ∧ (allE M T n 0 j).2.2 ≤ 8 * T ∧ cds V n 0 0 j = (seg M (8 * T) 0 (allE M T n 0 j).2.2, (allE M T n 0 j).2.2)
  | 0, _, _ => ⟨fun i hi => absurd hi (Nat.not_lt_zero _), Nat.zero_le _, by rw [show (allE M T n 0 0).2.2 = 0 from rfl, seg_zero]; rfl⟩
  | j + 1, h, hV => by
    have h0 := allE_before h (j := j) (by omega)
    have hlen := allE_len M T n 0 j h0
    have h2 : (getE M T (allE M T n 0 j).2.2 n).2.1 = 0 := by
      by_cases e : (getE M T (allE M T n 0 j).2.2 n).2.1 = 0
      · exact e
      · rw [allE_bad h0 e] at h; exact absurd h e
    have hok := allE_ok h0 h2
    obtain ⟨i1, i2, i3⟩ := cds_of_all hn V j h0 fun i hi => by
      rw [hV i (by omega), hok]
      simp only [List.getD_eq_getElem?_getD]
      rw [List.getElem?_append_left (by omega)]
    have hVj : V j = (getE M T (allE M T n 0 j).2.2 n).1 := by
      rw [hV j (by omega), hok]
      simp only [List.getD_eq_getElem?_getD]
      rw [List.getElem?_append_right (by omega), hlen, Nat.sub_self]; rfl
    rw [hok]
    generalize (allE M T n 0 j).2.2 = a at *
    generalize hx : getE M T a n = x at *
    obtain ⟨x1, x2, x3⟩ := x
    simp only at h2 hVj
    subst h2 hVj
    obtain ⟨c1, c2, c3, c4⟩ := code_of_get hn i2 hx
    refine ⟨fun i hi => ?_, c3, ?_⟩
    · by_cases e : i = j
      · rw [e]; exact c1.2
      · exact i1 i (by omega)
    · show ((cds V n 0 0 j).1 * 2 ^ ct (V j) n + cd (V j) n, (cds V n 0 0 j).2 + ct (V j) n) = (seg M (8 * T) 0 x3, x3)
      rw [i3]
      have := seg_app M (8 * T) 0 a (ct (V j) n) (by omega)
      rw [Nat.zero_add, c4, ← c2] at this
      show (seg M (8 * T) 0 a * 2 ^ ct (V j) n + cd (V j) n, a + ct (V j) n) = _
      rw [this, ← c2]

theorem seg_sub (M T p c a b : Nat) (h : a + b ≤ c) (hT : p + c ≤ T) : seg M T (p + a) b = seg M T p c / 2 ^ (c - a - b) % 2 ^ b := by
  unfold seg
  have e1 : 2 ^ c = 2 ^ (c - a - b) * 2 ^ (a + b) := by rw [← Nat.pow_add]; congr 1; omega
  have e2 : T - (p + a) - b = (T - p - c) + (c - a - b) := by omega
  rw [e1, Nat.mod_mul_right_div_self, e2, Nat.pow_add, ← Nat.div_div_eq_div_mul]
  have e3 : (2 : Nat) ^ b ∣ 2 ^ (a + b) := Nat.pow_dvd_pow 2 (by omega)
  rw [Nat.mod_mod_of_dvd _ e3]

def PaBoth (w : World) (B p : Nat) (U : Nat → Nat) (n len : Nat) (e : Ending) (w' : World) : Prop := ∃ x : Int, e = .returned (.int .i64 x) ∧ ((allB U n len ∧ x = 0 ∧ Wrote w B p 0 none 0 (cds U n 0 0 len).1 (cds U n 0 0 len).2 w') ∨ (¬ allB U n len ∧ x = 3 ∧ Below w.heap.size w w'))
theorem putall_both (B p : Nat) (a : Option Addr) (len cap b off : Nat) (U : Nat → Nat) (n : Nat) (hn : spn n) (acap : Nat) (w : World) (hw : WrN w B p 0 none acap 0 0) (h : Us w a len b off U) (hsep : 0 < len → b ≠ p) (hlen : len ≤ 1048576) :
    Calls Try.prog 10 #[.pointer (some ⟨p, 0, none⟩), .slice a len cap, .int .u64 (n : Int)] w (PaBoth w B p U n len) := by
  by_cases hc : allB U n len
  · refine (putall_ok B p 0 a len cap b off U n hn none acap 0 0 w hw h (fun h0 => ⟨hsep h0, by simp [blk]⟩) hc (by decide) hlen).mono ?_
    rintro e w' ⟨rfl, hx⟩
    exact ⟨0, rfl, .inl ⟨hc, rfl, hx⟩⟩
  · refine (putall_range _ a len cap b off U n hn w h hc).mono ?_
    rintro e w' ⟨rfl, hb⟩
    exact ⟨3, rfl, .inr ⟨hc, rfl, hb⟩⟩

/-- A list of bits in memory, at every index. -/
structure Bts (w : World) (g M T : Nat) : Prop where
  c : ∀ j, j < 8 * T → w.cell? ⟨g, j, none⟩ = some (.int .i64 (seg M (8 * T) j 1 : Int))
  lt : g < w.heap.size
theorem Bts.fr {w w' : World} {g M T : Nat} (h : Bts w g M T) (hf : Fr (fun _ => False) w w') : Bts w' g M T := ⟨fun j hj => (hf.cell (p := ⟨g, j, none⟩) h.lt (fun x => x)).trans (h.c j hj), Nat.lt_of_lt_of_le h.lt hf.size⟩
theorem of_bts {w : World} {M T : Nat} {e : Ending} {w' : World} (h : OfPost w M T e w') : ∃ lo lcap, e = .returned (.slice lo (8 * T) lcap) ∧ Below w.heap.size w w' ∧ (0 < T → ∃ g, lo = some ⟨g, 0, none⟩ ∧ Bts w' g M T) := by
  obtain ⟨lo, lcap, rfl, ho, hb⟩ := h
  refine ⟨lo, lcap, rfl, hb, fun h0 => ?_⟩
  rcases ownsRow_at ho with ⟨_, h1, _, _⟩ | ⟨g, rfl⟩
  · omega
  · exact ⟨g, rfl, fun j hj => ownsRow_cell ho j _ (bl_at M T _ j hj), (World.ownsRow.lt ho g (by rw [ownBlock_slice]; rfl)).2⟩

set_option maxHeartbeats 1600000 in
set_option maxRecDepth 100000 in
theorem back_walk (w : World) (a : Option Addr) (len cap b off : Nat) (U : Nat → Nat) (a' : Option Addr) (T cap' M : Nat) (n : Nat) (h : Us w a len b off U) (h' : Byts w a' T M) :
    Calls Try.prog 6 #[.slice a len cap, .slice a' T cap', .int .u64 (n : Int)] w fun e w' => e = .returned (.bool true) ∧ Below w.heap.size w w' := by
  by_cases h2 : 200 < len
  · have h1 : (200 : Int) < (len : Int) := by omega
    go_enter Try.func6, Try.ntmps6
    go_wp2_with fail
    refine (known_true _).mono ?_
    rintro e w' ⟨rfl, hb⟩
    go_wp2_with fail
    go_ret
    exact ⟨rfl, hb⟩
  have h1 : ¬ (200 : Int) < (len : Int) := by omega
  by_cases h4 : 200 < T
  · have h3 : (200 : Int) < (T : Int) := by omega
    go_enter Try.func6, Try.ntmps6
    go_wp2_with fail
    refine (known_true _).mono ?_
    rintro e w' ⟨rfl, hb⟩
    go_wp2_with fail
    go_ret
    exact ⟨rfl, hb⟩
  have h3 : ¬ (200 : Int) < (T : Int) := by omega
  by_cases hn : spn n
  · have hd0 := decide_eq_true hn
    have H := hid h
    have H' := hid h'
    have hw0 := new_writer' w 28 _ (Nat.le_refl _)
    have hb0 : Below w.heap.size w (w.alloc (.cells #[.slice none 0 0, .int .u64 0, .int .i64 0] 28)) := (Below.refl _ _).alloc (Nat.le_refl _) _
    have HB0 := hid hb0
    clear h h' hb0
    go_enter Try.func6, Try.ntmps6
    go_wp2_with fail
    refine (rspan n _).mono ?_
    rintro e w1 ⟨rfl, rfl⟩
    rw [hd0]
    go_wp2_with fail
    generalize hW : (w.alloc (.cells #[.slice none 0 0, .int .u64 0, .int .i64 0] 28)) = W at *
    have HW := hid hW
    clear hW
    refine (putall_both w.heap.size w.heap.size a len cap b off U n hn 0 W hw0 (H.out.below HB0.out H.out.lt) (fun h0 => by have := H.out.lt h0; omega) (by omega)).mono ?_
    rintro e w1 ⟨x, rfl, hpa⟩
    have HPA := hid hpa
    clear hpa
    go_upto_if 38 with fail
    go_cut [] (fun wx => Below w.heap.size w wx)
    case first =>
      rcases HPA.out with ⟨hc, rfl, ao1, acap1, hw1, hp1⟩ | ⟨hc, rfl, hb1⟩
      · have hb1 : Below w.heap.size w w1 := HB0.out.trans (pushed_below hp1 (Nat.le_refl _) (fun g hg => by simp [blk] at hg) HB0.out.size)
        have hL := (cds_le U n 0 0 len).2
        have HALL := hid (all_of_cds U n len hn hc len (Nat.le_refl _))
        have hus1 := H.out.below hb1 H.out.lt
        clear hp1 HPA hw0 hc
        generalize (cds U n 0 0 len) = r at *
        obtain ⟨N, L⟩ := r
        have hL2 : L ≤ 8000 := by simp only at hL; omega
        have HB1 := hid hb1
        clear hL hb1
        go_wp2_with fail
        refine (bytes_any hw1 (by show L ≤ _; omega)).mono ?_
        rintro e w2 ⟨rfl, hb2, hr2⟩
        go_wp2_with fail
        refine (read_any w2 (some ⟨w1.heap.size, 0, none⟩) ((L + 7) / 8) ((L + 7) / 8) (pad N L) (by omega) (fun j hj => ⟨_, rfl, by rw [Addr.add_lit, Nat.zero_add, hr2.cell hj]; rfl⟩) (fun a ha _ => by cases ha; exact hr2.lt)).mono ?_
        rintro e w3 ⟨q, rfl, hq, hb3, hr3⟩
        have hz2 := hb2.size
        have hz1 := HB1.out.size
        have hb13 : Below w1.heap.size w1 w3 := hb2.trans (hb3.mono hz2)
        have hw3 := WrN.upto hw1 hb13
        have hus3 := hus1.below hb13 hus1.lt
        have hrl : ∀ g, blk ao1 = some g → g < w1.heap.size := fun g hg => (Wr.rlt hw1 g hg).2
        have hpl := Wr.plt hw1
        have hbl := hus1.lt
        have HB3 := hid (HB1.out.trans (hb13.mono hz1))
        clear hw1 hus1 hb2 hb3 hb13 hr2
        go_wp2_with fail
        refine (getall_any hr3 (Nat.zero_le _) (by omega) n hn len (by omega)).mono ?_
        rintro e w4 ⟨lo2, lcap2, rfl, hul, hr4, hf4⟩
        have hall := HALL.out
        rw [hall] at hul hr4 ⊢
        simp only at hul hr4 ⊢
        have hus4 := hus3.fr hf4 (fun h0 => by have := hbl h0; omega)
        have hw4 := Wr.keep hw3 hf4 (by omega) (fun g hg => by have := hrl g hg; omega)
        obtain ⟨b4, hvs⟩ := Ul.us hul (by rw [upto_len]; omega) (fun u hu => by
          obtain ⟨i, hi, rfl⟩ := List.mem_map.1 hu
          exact H.out.ub i (List.mem_range.1 hi))
        rw [upto_len] at hvs
        have hb4 : Below w.heap.size w w4 := fr_below HB3.out hf4 (by omega)
        have HB4 := hid hb4
        have HLEN := hid (upto_len U len)
        clear hall HALL hul hf4 hus3 hw3 hr3 hb4
        simp only [upto_len]
        go_wp2_with fail
        refine (uints_any w4 a lo2 len cap lcap2 b off b4 0 U _ hus4 hvs (fun i hi => by simp [upto, hi])).mono ?_
        rintro e w5 ⟨rfl, hf5⟩
        have hr5 := hr4.keep hf5 (fun x => x) (fun x => x)
        have hw5 := Wr.keep hw4 hf5 (fun x => x) (fun _ _ x => x)
        have HB5 := hid (fr_below0 HB4.out hf5)
        clear hus4 hvs hr4 hw4 hf5
        go_wp2_with fail
        refine (rat_any hr5).mono ?_
        rintro e w6 ⟨rfl, rfl⟩
        go_wp2_with fail
        refine (len_any hw5 (by show L ≤ _; omega)).mono ?_
        rintro e w6 ⟨rfl, nq, rfl⟩
        have hfin : Below w.heap.size w (w5.drewN nq) := fr_below0 HB5.out ((Fr.refl _ _).drewN nq)
        clear hr5 hw5
        go_wp2_with fail
        go_meet
        exact hfin
      · have hfin := HB0.out.trans (hb1.mono HB0.out.size)
        go_wp2_with fail
        go_meet
        exact hfin
    case rest =>
      clear HPA hw0 HB0 HW
      go_wp2_with fail
      refine (read_b H'.out hcut (by omega)).mono ?_
      rintro e w2 ⟨q, rfl, hq, hb2, hr2⟩
      have hz0 := hcut.size
      have hbw : Below w.heap.size w w2 := hcut.trans (hb2.mono hz0)
      have hgq : w.heap.size ≤ wc.heap.size := hz0
      generalize wc.heap.size = g at *
      clear hcut hb2
      go_wp2_with fail
      refine (getall_any hr2 (Nat.zero_le _) (by omega) n hn 5 (by decide)).mono ?_
      rintro e w3 ⟨lo3, lcap3, rfl, hul, hr3, hf3⟩
      have hb3 : Below w.heap.size w w3 := fr_below hbw hf3 (by omega)
      have hlc : ∀ u ∈ (allE M T n 0 5).1, u < 18446744073709551616 := fun u hu => by
        have := allE_okv hn (Nat.zero_le _) 5 u hu
        have := this.2; have := hn.2; omega
      have hlen5 := allE_len M T n 0 5
      have HB3 := hid hb3
      have HCD := hid (cds_of_all (M := M) (T := T) hn (fun i => (allE M T n 0 5).1.getD i 0) 5)
      clear hr2 hf3 hbw hb3
      generalize allE M T n 0 5 = xx at *
      obtain ⟨l, er, pn⟩ := xx
      simp only at hul hr3 hlc hlen5 ⊢
      by_cases he : er = 0
      · subst he
        obtain ⟨hab, hpn, hcds⟩ := HCD.out rfl (fun _ _ => rfl)
        simp only at hab hpn hcds
        have hl5 := hlen5 rfl
        obtain ⟨b3, hus3⟩ := hul.us (by omega) hlc
        rw [hl5] at hus3 ⊢
        have hlo3 : 0 < 5 → b3 < w3.heap.size := hus3.lt
        have hwx := new_writer' w3 28 w.heap.size HB3.out.size
        have hb4 : Below w.heap.size w (w3.alloc (.cells #[.slice none 0 0, .int .u64 0, .int .i64 0] 28)) := HB3.out.alloc HB3.out.size _
        have hf4 : Fr (fun _ => False) w3 (w3.alloc (.cells #[.slice none 0 0, .int .u64 0, .int .i64 0] 28)) := (Fr.refl _ _).alloc _
        have hus4 := hus3.fr hf4 (fun _ x => x)
        have hr4 := hr3.keep hf4 (fun x => x) (fun x => x)
        have hq3 : q < w3.heap.size := World.block_lt_of_cell? _ _ hr3.c0
        have hg3 : g < w3.heap.size := hr3.row.lt
        have HB4 := hid hb4
        have HAB := hid hab
        have HCDS := hid hcds
        clear HCD hul hr3 hus3 hf4 hb4 hab hcds hlen5 hlc
        go_wp2_with fail
        generalize (w3.alloc (.cells #[.slice none 0 0, .int .u64 0, .int .i64 0] 28)) = W4 at *
        refine (putall_ok w.heap.size w3.heap.size 0 lo3 5 lcap3 b3 0 _ n hn none 0 0 0 W4 hwx hus4 (fun h0 => ⟨by have := hlo3 h0; omega, by simp [blk]⟩) HAB.out (by decide) (by decide)).mono ?_
        rintro e w5 ⟨rfl, ao5, cap5, hw5, hp5⟩
        rw [HCDS.out] at hw5
        simp only at hw5
        have hr5 := hr4.keep hp5.fr (by simp [blk]; omega) (by simp [blk]; omega)
        have hz3 : w.heap.size ≤ w3.heap.size := HB3.out.size
        have HB5 := hid (HB4.out.trans (pushed_below hp5 hz3 (fun g hg => by simp [blk] at hg) HB4.out.size))
        clear hwx hus4 hr4 hp5 HB4 HAB HCDS
        go_wp2_with fail
        refine (len_any hw5 (by omega)).mono ?_
        rintro e w6 ⟨rfl, nq, rfl⟩
        have hr6 := hr5.drewN nq
        have hw6 := hw5.drewN nq
        have HB6 := hid (fr_below0 HB5.out ((Fr.refl _ _).drewN nq))
        clear hr5 hw5 HB5
        generalize w5.drewN nq = w6 at *
        go_wp2_with fail
        refine (rat_any hr6).mono ?_
        rintro e w7 ⟨rfl, rfl⟩
        clear hr6
        go_wp2_with fail
        refine (bytes_any hw6 (by omega)).mono ?_
        rintro e w7 ⟨rfl, hb7, hr7⟩
        have hw7 := WrN.upto hw6 hb7
        have HB7 := hid (HB6.out.trans (hb7.mono HB6.out.size))
        clear hw6 HB6 hb7
        go_wp2_with fail
        refine (of_any w7 (some ⟨w6.heap.size, 0, none⟩) ((pn + 7) / 8) ((pn + 7) / 8) (pad (seg M (8 * T) 0 pn) pn) (by omega) (fun j hj => ⟨_, 0, rfl, by rw [Nat.zero_add, hr7.cell hj]; rfl, hr7.lt⟩)).mono ?_
        rintro e w8 hof8
        obtain ⟨lo8, lcap8, rfl, hb8, hbt8⟩ := of_bts hof8
        have hw8 := WrN.upto hw7 hb8
        have HB8 := hid (HB7.out.trans (hb8.mono HB7.out.size))
        clear hw7 HB7 hb8 hr7 hof8
        go_wp2_with fail
        refine (of_any w8 a' T cap' M (by omega) (fun j hj => H'.out.below HB8.out j hj)).mono ?_
        rintro e w9 hof9
        obtain ⟨lo9, lcap9, rfl, hb9, hbt9⟩ := of_bts hof9
        have hw9 := WrN.upto hw8 hb9
        have HB9 := hid (HB8.out.trans (hb9.mono HB8.out.size))
        have hbt8' : 0 < (pn + 7) / 8 → ∃ g, lo8 = some ⟨g, 0, none⟩ ∧ Bts w9 g (pad (seg M (8 * T) 0 pn) pn) ((pn + 7) / 8) := fun h0 => by
          obtain ⟨g, e, hbt⟩ := hbt8 h0
          exact ⟨g, e, hbt.fr (fr_of_below hb9)⟩
        have HW9 := hid hw9
        have HT8 := hid hbt8'
        have HT9 := hid hbt9
        clear hw8 HB8 hb9 hof9 hw9 hbt8 hbt8' hbt9
        go_wp2_with fail
        go_loopg [17] pn (fun m i wr => ∃ j : Nat, j ≤ pn ∧ m = pn - j ∧ i = .int .i64 j ∧ Fr (fun _ => False) w9 wr)
        case atStart => exact ⟨0, Nat.zero_le _, rfl, rfl, Fr.refl _ _⟩
        case round =>
          obtain ⟨j, hj, hg, rfl, hf⟩ := hrel
          have HG := hid hg
          clear hg
          go_wp2_with fail
          refine (len_any (Wr.keep HW9.out hf (fun x => x) (fun _ _ x => x)) (by omega)).mono ?_
          rintro e w10 ⟨rfl, nq2, rfl⟩
          have hf10 := hf.drewN nq2
          clear hf
          generalize wr.drewN nq2 = w10 at *
          by_cases hlt : j < pn
          · have hlt2 : (j : Int) < (pn : Int) := by omega
            have hT0 : 0 < T := by omega
            obtain ⟨g8, rfl, hbt8⟩ := HT8.out (by omega)
            obtain ⟨g9, rfl, hbt9⟩ := HT9.out hT0
            have c8 := (hbt8.fr hf10).c j (by omega)
            have c9 := (hbt9.fr hf10).c j (by omega)
            have hbit : seg (pad (seg M (8 * T) 0 pn) pn) (8 * ((pn + 7) / 8)) j 1 = seg M (8 * T) j 1 := by
              rw [seg_pad _ pn j 1 (by omega)]
              have := seg_sub M (8 * T) 0 pn j 1 (by omega) (by omega)
              rw [Nat.zero_add] at this
              rw [this]; rfl
            rw [hbit] at c8
            have hi4 : (j : Int) < ((8 * ((pn + 7) / 8) : Nat) : Int) := by omega
            have hi5 : (j : Int) < 8 * (((pn : Int) + 7) / 8) := by omega
            have hi6 : (j : Int) < 8 * (T : Int) := by omega
            clear hbit
            generalize seg M (8 * T) j 1 = sb at *
            go_wp2_with fail
            go_quiet (fail)
            have hf11 := hf10.drewN nq
            clear c8 c9 hf10
            go_wp2_with fail
            go_roundg (pn - (j + 1))
            case measure => rw [HG.out]; omega
            case rel => exact ⟨j + 1, by omega, rfl, by go_num, hf11⟩
          · have hge : ¬ (j : Int) < (pn : Int) := by omega
            have HBE := hid (fr_below0 HB9.out hf10)
            clear hf10
            go_wp2_with fail
            refine (known_true _).mono ?_
            rintro e w4 ⟨rfl, hb4⟩
            have hfin := HBE.out.trans (hb4.mono HBE.out.size)
            clear hb4
            go_wp2_with fail
            go_ret
            exact ⟨rfl, hfin⟩
      · have he2 : (er != 0) = true := bne_iff_ne.2 he
        clear he hr3 hul HCD hlen5 hlc
        go_wp2_with fail
        refine (known_true _).mono ?_
        rintro e w4 ⟨rfl, hb4⟩
        have hfin := HB3.out.trans (hb4.mono HB3.out.size)
        clear hb4
        go_wp2_with fail
        go_ret
        exact ⟨rfl, hfin⟩
  · have hd0 := decide_eq_false hn
    clear h h'
    go_enter Try.func6, Try.ntmps6
    go_wp2_with fail
    refine (rspan n _).mono ?_
    rintro e w1 ⟨rfl, rfl⟩
    rw [hd0]
    go_wp2_with fail
    refine (known_true _).mono ?_
    rintro e w' ⟨rfl, hb⟩
    go_wp2_with fail
    go_ret
    exact ⟨rfl, hb⟩
end Go.Proofs.Ytfpmdfbggifjiaa.Even
