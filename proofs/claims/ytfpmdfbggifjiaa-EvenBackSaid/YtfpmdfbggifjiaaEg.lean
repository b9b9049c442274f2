/- GetAll of even, and the document's: both answer the same numbers, and stand at the same place. Conditions: the span and the number may be; fewer than 2^20 bytes. -/
import Derived.Test.YtfpmdfbggifjiaaEe
import Derived.Test.YtfpmdfbggifjiaaGa
import Derived.Test.YtfpmdfbggifjiaaRf
namespace Go.Proofs.Ytfpmdfbggifjiaa.Even
open Go.RowKit Bit Rice

theorem rget_nI {w : World} {B q : Nat} {lo : Option Addr} {lcap M T p : Nat} (h : Rf w B q lo lcap M T p) (hp : p ≤ 8 * T) (hT : T ≤ 1048576) (ni : Int) (n : Nat) (hni : ni = n) (hn : n ≤ 64) : Calls Try.prog 52 #[.pointer (some ⟨q, 0, none⟩), .int .i64 ni] w (RGetNPost w B q lo lcap M T p n) := by subst hni; exact rget_n h hp hT n hn
def REGetPost (w : World) (B q : Nat) (lo : Option Addr) (lcap M T p n : Nat) (e : Ending) (w' : World) : Prop := e = .returned (.tuple #[.int .u64 ((getE M T p n).1 : Int), .int .i64 (getE M T p n).2.1]) ∧ Rf w' B q lo lcap M T (getE M T p n).2.2 ∧ Fr (fun b => b = q) w w'

set_option maxHeartbeats 800000 in
theorem reget_any {w : World} {B q : Nat} {lo : Option Addr} {lcap M T p : Nat} (h : Rf w B q lo lcap M T p) (hp : p ≤ 8 * T) (hT : T ≤ 1048576) (n : Nat) (hn : spn n) : Calls Try.prog 44 #[.pointer (some ⟨q, 0, none⟩), .int .u64 (n : Int)] w (REGetPost w B q lo lcap M T p n) := by
  unfold REGetPost
  by_cases h1 : n = 1
  · subst h1
    rw [show getE M T p 1 = (0, 0, p) from if_pos rfl]
    have HR := hid h
    clear h
    go_enter Try.func44, Try.ntmps44
    go_wp2_with fail
    go_ret2
    exact ⟨rfl, HR.out, Fr.refl _ _⟩
  · have hg1 : ((n : Int) == 1) = false := beq_eq_false_iff_ne.2 (by omega)
    have hw := fun xi hxi w => rwidthI xi (n - 1) hxi (by have := hn.2; omega) w
    change ∀ xi, xi = ((n - 1 : Nat) : Int) → ∀ w, Calls Try.prog 41 #[.int .u64 xi] w fun e w' => e = .returned (.int .i64 (lg n : Int)) ∧ w = w' at hw
    have hsh := rshort n hn
    have hlp := lg_pos hn h1
    have hll := lg_le hn
    have hsl := sh_lt hn h1
    have hpl : 2 ^ (lg n - 1) ≤ 2 ^ 39 := Nat.pow_le_pow_right (by decide) (by omega)
    have HX1 : Hid (8 * T < p + (lg n - 1) → getE M T p n = (0, 10, p)) := hid fun h => by unfold getE; rw [if_neg h1, if_pos h]
    have HX2 : Hid (¬ 8 * T < p + (lg n - 1) → seg M (8 * T) p (lg n - 1) < sh n → getE M T p n = (seg M (8 * T) p (lg n - 1), 0, p + (lg n - 1))) := hid fun h h' => by unfold getE; rw [if_neg h1, if_neg h, if_pos h']
    have HX3 : Hid (¬ 8 * T < p + (lg n - 1) → ¬ seg M (8 * T) p (lg n - 1) < sh n → 8 * T < p + (lg n - 1) + 1 → getE M T p n = (0, 10, p + (lg n - 1))) := hid fun h h' h'' => by unfold getE; rw [if_neg h1, if_neg h, if_neg h', if_pos h'']
    have HX4 : Hid (¬ 8 * T < p + (lg n - 1) → ¬ seg M (8 * T) p (lg n - 1) < sh n → ¬ 8 * T < p + (lg n - 1) + 1 → getE M T p n = (2 * seg M (8 * T) p (lg n - 1) + seg M (8 * T) (p + (lg n - 1)) 1 - sh n, 0, p + (lg n - 1) + 1)) := hid fun h h' h'' => by unfold getE; rw [if_neg h1, if_neg h, if_neg h', if_neg h'']
    have hseg := seg_lt M (8 * T) p (lg n - 1)
    have hge := fun ni hni => rget_nI h hp hT ni (lg n - 1) hni (by omega)
    have HW := hid hw; have HSH := hid hsh; have HGE := hid hge
    have hl1 := hlp.1
    have hs1 := hsl.1
    have hn4 : n ≤ 1099511627776 := hn.2
    have hn0 : 0 < n := hn.1
    clear hw hsh hge h hn hlp hsl
    generalize lg n = L at *
    generalize sh n = s at *
    generalize getE M T p n = x at *
    go_enter Try.func44, Try.ntmps44
    go_wp2_with fail
    refine (HW.out _ (by omega) _).mono ?_
    rintro e w1 ⟨rfl, rfl⟩
    go_wp2_with fail
    refine (HGE.out _ (by omega)).mono ?_
    rintro e w2 ⟨rfl, hr2, hf2⟩
    by_cases h2 : 8 * T < p + (L - 1)
    · obtain rfl := HX1.out h2
      rw [getN_end h2] at hr2 ⊢
      clear hg1
      go_wp2_with fail
      go_ret2
      exact ⟨rfl, hr2, hf2⟩
    · rw [getN_ok h2] at hr2 ⊢
      by_cases h3 : seg M (8 * T) p (L - 1) < s
      · obtain rfl := HX2.out h2 h3
        clear hg1 HX1 HX2 HX3 HX4
        generalize hv : seg M (8 * T) p (L - 1) = v at *
        have HV := hid hv
        clear hv
        have h3' : (v : Int) < (s : Int) := by omega
        go_wp2_with fail
        refine (HSH.out _).mono ?_
        rintro e w1 ⟨rfl, rfl⟩
        go_wp2_with fail
        go_ret2
        exact ⟨congrArg (fun z : Nat => Ending.returned (.tuple #[.int .u64 (z : Int), .int .i64 0])) HV.out.symm, hr2, hf2⟩
      · have HX3' := hid fun h => HX3.out h2 h3 h
        have HX4' := hid fun h => HX4.out h2 h3 h
        clear hg1 HX1 HX2 HX3 HX4
        generalize hv : seg M (8 * T) p (L - 1) = v at *
        have HV := hid hv
        clear hv
        have h3' : ¬ (v : Int) < (s : Int) := by omega
        have hvb : v < 549755813888 := by omega
        have hg3 := rget_n hr2 (by show p + (L - 1) ≤ 8 * T; omega) hT 1 (by decide)
        unfold RGetNPost at hg3
        clear hr2
        simp only [] at hg3
        go_wp2_with fail
        refine (HSH.out _).mono ?_
        rintro e w1 ⟨rfl, rfl⟩
        go_wp2_with fail
        refine hg3.mono ?_
        rintro e w3 ⟨rfl, hr3, hf3⟩
        have hf4 := hf2.trans hf3
        clear hg3 hf2 hf3
        by_cases h4 : 8 * T < p + (L - 1) + 1
        · obtain rfl := HX3'.out h4
          rw [getN_end h4] at hr3 ⊢
          go_wp2_with fail
          go_ret2
          exact ⟨rfl, hr3, hf4⟩
        · obtain rfl := HX4'.out h4
          rw [getN_ok h4] at hr3 ⊢
          have hbit := seg_lt M (8 * T) (p + (L - 1)) 1
          clear HX3' HX4'
          generalize hy : seg M (8 * T) (p + (L - 1)) 1 = y at *
          have HY := hid hy
          clear hy
          have hy2 : y ≤ 1 := by omega
          go_wp2_with fail
          refine (HSH.out _).mono ?_
          rintro e w1 ⟨rfl, rfl⟩
          go_wp2_with fail
          go_ret2
          exact ⟨congrArg (fun z : Int => Ending.returned (.tuple #[.int .u64 z, .int .i64 0])) (by have := HV.out; have := HY.out; omega), hr3, hf4⟩

/-- What GetAll has read, and where it stands, behind j numbers; it stays where an error is. -/
def allE (M T n p : Nat) : Nat → List Nat × Int × Nat
  | 0 => ([], 0, p)
  | j + 1 => if (allE M T n p j).2.1 = 0 then (if (getE M T (allE M T n p j).2.2 n).2.1 = 0 then ((allE M T n p j).1 ++ [(getE M T (allE M T n p j).2.2 n).1], 0, (getE M T (allE M T n p j).2.2 n).2.2) else ([], (getE M T (allE M T n p j).2.2 n).2.1, (getE M T (allE M T n p j).2.2 n).2.2)) else allE M T n p j
theorem allE_ok {M T n p j : Nat} (h : (allE M T n p j).2.1 = 0) (h2 : (getE M T (allE M T n p j).2.2 n).2.1 = 0) : allE M T n p (j + 1) = ((allE M T n p j).1 ++ [(getE M T (allE M T n p j).2.2 n).1], 0, (getE M T (allE M T n p j).2.2 n).2.2) := by
  show (if _ then _ else _) = _
  rw [if_pos h, if_pos h2]
theorem allE_bad {M T n p j : Nat} (h : (allE M T n p j).2.1 = 0) (h2 : (getE M T (allE M T n p j).2.2 n).2.1 ≠ 0) : allE M T n p (j + 1) = ([], (getE M T (allE M T n p j).2.2 n).2.1, (getE M T (allE M T n p j).2.2 n).2.2) := by
  show (if _ then _ else _) = _
  rw [if_pos h, if_neg h2]
theorem allE_stay {M T n p j : Nat} (h : (allE M T n p j).2.1 ≠ 0) : ∀ d, allE M T n p (j + d) = allE M T n p j
  | 0 => rfl
  | d + 1 => by
    have := allE_stay h d
    show (if (allE M T n p (j + d)).2.1 = 0 then _ else _) = _
    rw [this, if_neg h]
    exact this
theorem allE_le (M T n p : Nat) (hp : p ≤ 8 * T) : ∀ j, (allE M T n p j).2.2 ≤ 8 * T
  | 0 => hp
  | j + 1 => by
    have h := allE_le M T n p hp j
    have h2 := getE_le M T _ n h
    show (if _ then _ else _ : List Nat × Int × Nat).2.2 ≤ _
    split
    · split
      · exact h2
      · exact h2
    · exact h
theorem allE_len (M T n p : Nat) : ∀ j, (allE M T n p j).2.1 = 0 → (allE M T n p j).1.length = j
  | 0, _ => rfl
  | j + 1, h => by
    by_cases h1 : (allE M T n p j).2.1 = 0
    · by_cases h2 : (getE M T (allE M T n p j).2.2 n).2.1 = 0
      · rw [allE_ok h1 h2, List.length_append, allE_len M T n p j h1]; rfl
      · rw [allE_bad h1 h2] at h; exact absurd h h2
    · rw [allE_stay h1 1] at h; exact absurd h h1
theorem allE_err (M T n p : Nat) : ∀ j, (allE M T n p j).2.1 ≠ 0 → (allE M T n p j).1 = [] ∧ (allE M T n p j).2.1 = 10
  | 0, h => absurd rfl h
  | j + 1, h => by
    by_cases h1 : (allE M T n p j).2.1 = 0
    · by_cases h2 : (getE M T (allE M T n p j).2.2 n).2.1 = 0
      · rw [allE_ok h1 h2] at h; exact absurd rfl h
      · rw [allE_bad h1 h2]
        refine ⟨rfl, ?_⟩
        revert h2
        show (getE M T _ n).2.1 ≠ 0 → (getE M T _ n).2.1 = 10
        unfold getE
        repeat' split
        all_goals simp
    · rw [allE_stay h1 1] at h ⊢; exact allE_err M T n p j h

def GetAllPost (w : World) (q g M T p n c : Nat) (e : Ending) (w' : World) : Prop := ∃ (lo : Option Addr) (lcap : Nat), e = .returned (.tuple #[.slice lo (allE M T n p c).1.length lcap, .int .i64 (allE M T n p c).2.1]) ∧ Ul w' w.heap.size lo lcap (allE M T n p c).1 ∧ Rd w' q g M T (allE M T n p c).2.2 ∧ Fr (fun b => b = q) w w'
def RGetAllPost (w : World) (B q : Nat) (lo' : Option Addr) (lcap' M T p n c : Nat) (e : Ending) (w' : World) : Prop := ∃ (lo : Option Addr) (lcap : Nat), e = .returned (.tuple #[.slice lo (allE M T n p c).1.length lcap, .int .i64 (allE M T n p c).2.1]) ∧ Ul w' w.heap.size lo lcap (allE M T n p c).1 ∧ Rf w' B q lo' lcap' M T (allE M T n p c).2.2 ∧ Fr (fun b => b = q) w w'
/-- What is read so far. -/
def GS (w : World) (q g M T p n j : Nat) (v : Value) (wr : World) : Prop := ∃ (lo : Option Addr) (lcap : Nat), (allE M T n p j).2.1 = 0 ∧ v = .slice lo j lcap ∧ Ul wr w.heap.size lo lcap (allE M T n p j).1 ∧ Rd wr q g M T (allE M T n p j).2.2 ∧ Fr (fun b => b = q) w wr
def RGS (w : World) (B q : Nat) (lo' : Option Addr) (lcap' M T p n j : Nat) (v : Value) (wr : World) : Prop := ∃ (lo : Option Addr) (lcap : Nat), (allE M T n p j).2.1 = 0 ∧ v = .slice lo j lcap ∧ Ul wr w.heap.size lo lcap (allE M T n p j).1 ∧ Rf wr B q lo' lcap' M T (allE M T n p j).2.2 ∧ Fr (fun b => b = q) w wr

theorem getall_arg (w : World) (a : Addr) (c : Int) (n : Nat) (h : ¬ (spn n ∧ 0 ≤ c ∧ c ≤ 1048576)) : Calls Try.prog 24 #[.pointer (some a), .int .i64 c, .int .u64 (n : Int)] w fun e w' => e = .returned (.tuple #[.slice none 0 0, .int .i64 1]) ∧ w = w' := by
  by_cases h0 : spn n
  · have hd0 := decide_eq_true h0
    by_cases h1 : c < 0
    · clear h
      go_enter Try.func24, Try.ntmps24
      go_wp2_with fail
      refine (isspan n w).mono ?_
      rintro e w' ⟨rfl, rfl⟩
      rw [hd0]
      go_wp2_with fail
      go_ret2
      exact ⟨rfl, rfl⟩
    · have h2 : 1048576 < c := by
        by_cases e : c ≤ 1048576
        · exact absurd ⟨h0, by omega, e⟩ h
        · omega
      clear h
      go_enter Try.func24, Try.ntmps24
      go_wp2_with fail
      refine (isspan n w).mono ?_
      rintro e w' ⟨rfl, rfl⟩
      rw [hd0]
      go_wp2_with fail
      go_ret2
      exact ⟨rfl, rfl⟩
  · have hd0 := decide_eq_false h0
    clear h
    go_enter Try.func24, Try.ntmps24
    go_wp2_with fail
    refine (isspan n w).mono ?_
    rintro e w' ⟨rfl, rfl⟩
    rw [hd0]
    go_wp2_with fail
    go_ret2
    exact ⟨rfl, rfl⟩

set_option maxHeartbeats 1600000 in
theorem getall_any {w : World} {q g M T p : Nat} (h : Rd w q g M T p) (hp : p ≤ 8 * T) (hT : T ≤ 1048576) (n : Nat) (hn : spn n) (c : Nat) (hc : c ≤ 1048576) : Calls Try.prog 24 #[.pointer (some ⟨q, 0, none⟩), .int .i64 (c : Int), .int .u64 (n : Int)] w (GetAllPost w q g M T p n c) := by
  have hd0 := decide_eq_true hn
  have g1 : ¬ (c : Int) < 0 := by omega
  have g2 : ¬ (1048576 : Int) < (c : Int) := by omega
  obtain ⟨i0, hi, hz0, hz1, hz2⟩ := info_parts Try.info23
  have hq0 : q < w.heap.size := World.block_lt_of_cell? w _ h.c0
  have hg0 : g < w.heap.size := h.row.lt
  go_enter Try.func24, Try.ntmps24
  go_wp2_with fail
  refine (isspan n w).mono ?_
  rintro e w' ⟨rfl, rfl⟩
  rw [hd0]
  go_wp2_with (at_make; refine wpList_make_own _ rfl _ _ 22 rfl w.heap.size 23 i0 (.int .u64 0) 1 Try.underlying22 hi hz0 hz1 _ _ _ c rfl rfl rfl (by rw [hz2]; omega) (by unfold maxLen; omega) (Nat.le_refl _) ?_)
  intro w1 hown hgr
  have hst : GS w q g M T p n 0 (.slice (some ⟨w.heap.size, 0, none⟩) 0 c) w1 := by
    have hf : Fr (fun b => b = q) w w1 := (Fr.refl _ _).grown hgr (fun k hk => by cases hk)
    have hf0 : Fr (fun _ => False) w w1 := (Fr.refl _ _).grown hgr (fun k hk => by cases hk)
    exact ⟨_, c, rfl, rfl, hown, h.keep hf0 (fun x => x) (fun x => x), hf⟩
  clear hown hgr h
  go_wp2_with fail
  go_loopg [8, 29] c (fun g' v i wr => ∃ j : Nat, j ≤ c ∧ g' = c - j ∧ i = .int .i64 j ∧ GS w q g M T p n j v wr)
  case atStart => exact ⟨0, Nat.zero_le _, rfl, rfl, hst⟩
  case round =>
    obtain ⟨j, hj, hg, rfl, lo, lcap, hok, rfl, hul, hrd, hfr⟩ := hrel
    have HG := hid hg
    have HOK := hid hok
    have HP : Hid ((allE M T n p j).2.2 ≤ 8 * T) := hid (allE_le M T n p hp j)
    have HLEN := hid (allE_len M T n p j hok)
    clear hg hok hst
    by_cases hlt : j < c
    · have hlt2 : (j : Int) < (c : Int) := by omega
      have HNO := hid (allE_ok (M := M) (T := T) (n := n) (p := p) (j := j) HOK.out)
      have HNB := hid (allE_bad (M := M) (T := T) (n := n) (p := p) (j := j) HOK.out)
      have HST := hid (allE_stay (M := M) (T := T) (n := n) (p := p) (j := j + 1))
      generalize allE M T n p j = aj at *
      generalize haj : allE M T n p (j + 1) = aj1 at *
      have HA1 := hid haj
      clear haj
      go_wp2_with fail
      refine (eget_any hrd HP.out (by omega) n hn).mono ?_
      rintro e w2 ⟨rfl, hrd2, hf2⟩
      have hlo : ∀ g, blk lo = some g → w.heap.size ≤ g := fun g hg => (hul.lt g hg).1
      have hul2 := hul.fr hf2 fun g hg e => by have := hlo g hg; omega
      have hfr2 := hfr.trans hf2
      clear hul hfr hrd hf2
      generalize getE M T aj.2.2 n = x at *
      obtain ⟨u, er, pn⟩ := x
      by_cases he : er = 0
      · subst he
        obtain rfl := HNO.out rfl
        have hul3 : Ul (w2.alloc (.cells #[.int .u64 (u : Int)] 23)) w.heap.size lo lcap aj.1 := ownsRow_block hul2 fun g hg => RowKit.Below.heap_alloc _ _ _ (hul2.lt g hg).2
        have hcell : (w2.alloc (.cells #[.int .u64 (u : Int)] 23)).cell? ⟨w2.heap.size, 0, none⟩ = some (.int .u64 (u : Int)) := by simp
        unfold Ul at hul3
        rw [HLEN.out] at hul3
        have hsz : w.heap.size ≤ (w2.alloc (.cells #[.int .u64 (u : Int)] 23)).heap.size := by have := hfr2.size; simp; omega
        clear HNO HNB HST
        go_wp2_with (at_builtin; go_must (refine wpList_append_one rfl (.tmp 40) (.tmp 42) 22 rfl w.heap.size 23 i0 (.int .u64 0) 8 Try.underlying22 hi hz0 hz1 hz2 rfl lo j lcap (ul aj.1) rfl hul3 ⟨w2.heap.size, 0, none⟩ 1 (.int .u64 (u : Int)) rfl hcell rfl (by unfold maxLen; omega) (by omega) hsz ?_))
        intro gg cap' w4 hown4 hkept
        have hst2 : GS w q g M T p n (j + 1) (.slice (some ⟨gg, 0, none⟩) (j + 1) cap') w4 := by
          unfold GS
          rw [HA1.out]
          have hrow : ∀ b, blk lo = some b → b < w.heap.size → False := fun b hb hl => by have := hlo b hb; omega
          have ha : Fr (fun _ => False) w2 (w2.alloc (.cells #[.int .u64 (u : Int)] 23)) := (Fr.refl _ _).alloc _
          have hb : Fr (fun b => blk lo = some b) w2 w4 := (ha.mono fun _ _ x => x.elim).grown hkept.grown fun b hb _ => hb
          refine ⟨_, cap', rfl, rfl, ?_, hrd2.keep hb (fun e => by have := hlo q e; omega) (fun e => by have := hlo g e; omega), ?_⟩
          · unfold Ul
            rw [List.length_append, HLEN.out, ul_app]
            exact hown4
          · exact (hfr2.alloc _).grown hkept.grown fun b hb hl => (hrow b hb hl).elim
        clear hown4 hkept hul3 hcell hsz hul2 hfr2 hrd2 hlo
        go_wp2_with fail
        go_roundg (c - (j + 1))
        case measure => rw [HG.out]; omega
        case rel => exact ⟨j + 1, by omega, rfl, by go_num, hst2⟩
      · have he2 : (er != 0) = true := bne_iff_ne.2 he
        obtain rfl := HNB.out he
        have hall := HST.out he (c - (j + 1))
        rw [show j + 1 + (c - (j + 1)) = c from by omega] at hall
        have hfin : GetAllPost w q g M T p n c (.returned (.tuple #[.slice none 0 0, .int .i64 er])) w2 := by
          unfold GetAllPost
          rw [hall]
          exact ⟨none, 0, rfl, World.ownsRow_nil _ _ _ _, hrd2, hfr2⟩
        clear hul2 hfr2 hrd2 hlo he HNO HNB HST hall
        go_wp2_with fail
        go_ret2
        exact hfin
    · have hge : ¬ (j : Int) < (c : Int) := by omega
      obtain rfl : j = c := by omega
      have hfin : GetAllPost w q g M T p n j (.returned (.tuple #[.slice lo j lcap, .int .i64 0])) wr :=
        ⟨lo, lcap, by rw [HLEN.out, HOK.out], hul, hrd, hfr⟩
      clear hul hrd hfr
      go_wp2_with fail
      go_ret2
      exact hfin

set_option maxHeartbeats 1600000 in
theorem rgetall_any {w : World} {B q : Nat} {lo' : Option Addr} {lcap' M T p : Nat} (h : Rf w B q lo' lcap' M T p) (hp : p ≤ 8 * T) (hT : T ≤ 1048576) (n : Nat) (hn : spn n) (c : Nat) (hc : c ≤ 1048576) : Calls Try.prog 25 #[.pointer (some ⟨q, 0, none⟩), .int .i64 (c : Int), .int .u64 (n : Int)] w (RGetAllPost w B q lo' lcap' M T p n c) := by
  obtain ⟨i0, hi, hz0, hz1, hz2⟩ := info_parts Try.info23
  have hq0 : q < w.heap.size := World.block_lt_of_cell? w _ h.c0
  have hlo' : ∀ g, blk lo' = some g → g < w.heap.size := fun g hg => (h.own.lt g (by rw [ownBlock_slice]; exact hg)).2
  have hst : RGS w B q lo' lcap' M T p n 0 (.slice none 0 0) w := ⟨none, 0, rfl, rfl, World.ownsRow_nil _ _ _ _, h, Fr.refl _ _⟩
  have HLO' := hid hlo'
  clear h hlo'
  go_enter Try.func25, Try.ntmps25
  go_wp2_with fail
  go_loopg [8, 9] c (fun g' v i wr => ∃ j : Nat, j ≤ c ∧ g' = c - j ∧ i = .int .i64 j ∧ RGS w B q lo' lcap' M T p n j v wr)
  case atStart => exact ⟨0, Nat.zero_le _, rfl, rfl, hst⟩
  case round =>
    obtain ⟨j, hj, hg, rfl, lo, lcap, hok, rfl, hul, hrd, hfr⟩ := hrel
    have HG := hid hg
    have HOK := hid hok
    have HP : Hid ((allE M T n p j).2.2 ≤ 8 * T) := hid (allE_le M T n p hp j)
    have HLEN := hid (allE_len M T n p j hok)
    clear hg hok hst
    by_cases hlt : j < c
    · have hlt2 : (j : Int) < (c : Int) := by omega
      have HNO := hid (allE_ok (M := M) (T := T) (n := n) (p := p) (j := j) HOK.out)
      have HNB := hid (allE_bad (M := M) (T := T) (n := n) (p := p) (j := j) HOK.out)
      have HST := hid (allE_stay (M := M) (T := T) (n := n) (p := p) (j := j + 1))
      generalize allE M T n p j = aj at *
      generalize haj : allE M T n p (j + 1) = aj1 at *
      have HA1 := hid haj
      clear haj
      go_wp2_with fail
      refine (reget_any hrd HP.out hT n hn).mono ?_
      rintro e w2 ⟨rfl, hrd2, hf2⟩
      have hlo : ∀ g, blk lo = some g → w.heap.size ≤ g := fun g hg => (hul.lt g hg).1
      have hul2 := hul.fr hf2 fun g hg e => by have := hlo g hg; omega
      have hfr2 := hfr.trans hf2
      clear hul hfr hrd hf2
      generalize getE M T aj.2.2 n = x at *
      obtain ⟨u, er, pn⟩ := x
      by_cases he : er = 0
      · subst he
        obtain rfl := HNO.out rfl
        have hul3 : Ul (w2.alloc (.cells #[.int .u64 (u : Int)] 23)) w.heap.size lo lcap aj.1 := ownsRow_block hul2 fun g hg => RowKit.Below.heap_alloc _ _ _ (hul2.lt g hg).2
        have hcell : (w2.alloc (.cells #[.int .u64 (u : Int)] 23)).cell? ⟨w2.heap.size, 0, none⟩ = some (.int .u64 (u : Int)) := by simp
        unfold Ul at hul3
        rw [HLEN.out] at hul3
        have hsz : w.heap.size ≤ (w2.alloc (.cells #[.int .u64 (u : Int)] 23)).heap.size := by have := hfr2.size; simp; omega
        clear HNO HNB HST
        go_wp2_with (at_builtin; go_must (refine wpList_append_one rfl (.tmp 26) (.tmp 28) 22 rfl w.heap.size 23 i0 (.int .u64 0) 8 Try.underlying22 hi hz0 hz1 hz2 rfl lo j lcap (ul aj.1) rfl hul3 ⟨w2.heap.size, 0, none⟩ 1 (.int .u64 (u : Int)) rfl hcell rfl (by unfold maxLen; omega) (by omega) hsz ?_))
        intro gg cap' w4 hown4 hkept
        have hst2 : RGS w B q lo' lcap' M T p n (j + 1) (.slice (some ⟨gg, 0, none⟩) (j + 1) cap') w4 := by
          unfold RGS
          rw [HA1.out]
          have hrow : ∀ b, blk lo = some b → b < w.heap.size → False := fun b hb hl => by have := hlo b hb; omega
          have ha : Fr (fun _ => False) w2 (w2.alloc (.cells #[.int .u64 (u : Int)] 23)) := (Fr.refl _ _).alloc _
          have hb : Fr (fun b => blk lo = some b) w2 w4 := (ha.mono fun _ _ x => x.elim).grown hkept.grown fun b hb _ => hb
          refine ⟨_, cap', rfl, rfl, ?_, hrd2.keep hb (fun e => by have := hlo q e; omega) (fun g hg e => by have := hlo g e; have := HLO'.out g hg; omega), ?_⟩
          · unfold Ul
            rw [List.length_append, HLEN.out, ul_app]
            exact hown4
          · exact (hfr2.alloc _).grown hkept.grown fun b hb hl => (hrow b hb hl).elim
        clear hown4 hkept hul3 hcell hsz hul2 hfr2 hrd2 hlo
        go_wp2_with fail
        go_roundg (c - (j + 1))
        case measure => rw [HG.out]; omega
        case rel => exact ⟨j + 1, by omega, rfl, by go_num, hst2⟩
      · have he2 : (er != 0) = true := bne_iff_ne.2 he
        obtain rfl := HNB.out he
        have hall := HST.out he (c - (j + 1))
        rw [show j + 1 + (c - (j + 1)) = c from by omega] at hall
        have hfin : RGetAllPost w B q lo' lcap' M T p n c (.returned (.tuple #[.slice none 0 0, .int .i64 er])) w2 := by
          unfold RGetAllPost
          rw [hall]
          exact ⟨none, 0, rfl, World.ownsRow_nil _ _ _ _, hrd2, hfr2⟩
        clear hul2 hfr2 hrd2 hlo he HNO HNB HST hall
        go_wp2_with fail
        go_ret2
        exact hfin
    · have hge : ¬ (j : Int) < (c : Int) := by omega
      obtain rfl : j = c := by omega
      have hfin : RGetAllPost w B q lo' lcap' M T p n j (.returned (.tuple #[.slice lo j lcap, .int .i64 0])) wr :=
        ⟨lo, lcap, by rw [HLEN.out, HOK.out], hul, hrd, hfr⟩
      clear hul hrd hfr
      go_wp2_with fail
      go_ret2
      exact hfin
end Go.Proofs.Ytfpmdfbggifjiaa.Even
