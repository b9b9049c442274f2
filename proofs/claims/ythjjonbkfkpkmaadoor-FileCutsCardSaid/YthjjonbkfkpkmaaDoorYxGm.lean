/- FileCuts' walk: nothing that is cut off at its end, or has more behind it, is a file. Condition: the two tables of unicode/utf8 lie as their initialisers lay them. -/
import Derived.Test.YthjjonbkfkpkmaaDoorYxGj
import Derived.Test.YthjjonbkfkpkmaaDoorY32
namespace Go.Proofs.YthjjonbkfkpkmaaDoor.Fil
open Go.RowKit Gen
open Tl (il il_app rise TRt Tx)
attribute [local go_sem] Oper.semAt_some

/-- What Parse answers beside its error. -/
theorem parsep_err {w : World} {b : List Nat} {ty : Nat} {e : Ending} {w' : World} (h : ParseP w b ty e w') : Below w.heap.size w w' ∧ ∃ v : Array Value, v.size = 11 ∧ v.all (·.oneCell') = true ∧ e = .returned (.tuple #[.agg v, .int .i64 (pfE b)]) := by
  obtain ⟨hb, h⟩ := h
  refine ⟨hb, ?_⟩
  rcases h with ⟨_, rfl⟩ | ⟨h0, a1, c1, a2, c2, X, a3, c3, rfl, _⟩
  · exact ⟨fz, rfl, by simp [Value.oneCell'], rfl⟩
  · exact ⟨fcl (Inf.getI b) a1 (Tg.gL (b.drop 19)).length c1 a2 (psR b).1.n c2 (psR b).1.c (Inf.at_ (b.drop (psR b).1.at_) 6 4) a3 (psR b).1.n c3, rfl, by simp [Value.oneCell'], by rw [h0]⟩
theorem size43v {v : Array Value} (h : v.size = 11) : (Tryd.prog.info? 43).map (·.size) = some v.size := by rw [h]; exact size45
theorem wr_sub {a c k : Nat} (h : a ≤ 1073741824) (hk : k + c = a) : wrap64 ((a : Int) - (c : Int)) = (k : Int) := by
  rw [show (a : Int) - (c : Int) = (k : Int) by omega]
  exact IntWalk.wrap64_in _ (by omega)
set_option maxHeartbeats 8000000 in
set_option maxRecDepth 100000 in
theorem cuts_walk (w : World) (hT : Tg.Tabs w) (i : Inf.If) {a : Option Addr} {len b off capt : Nat} {T : Nat → Tg.Tag} (hl : Tg.Tb w a len b off T) (hct : len ≤ capt) (hlm : len ≤ 9223372036854775807)
    {ab : Option Addr} {n bb bo capb : Nat} {L : Nat → List Nat} (hb : Bb w ab n bb bo L) (hnm : n ≤ 9223372036854775807) (cut : Int) {am : Option Addr} {M : List Nat} {lm cm : Nat} (hM : Byts w am M) (hml : M.length = lm) (hmc : lm ≤ cm) (hmn : am = none → lm = 0 ∧ cm = 0) :
    Calls Tryd.prog 3 #[Inf.iv i, .slice a len capt, .slice ab n capb, .int .i64 cut, .slice am lm cm] w fun e w' => e = .returned (.bool true) ∧ Below w.heap.size w w' := by
  have hb0 := Inf.below_new w (.cells (Inf.ivl i) 25)
  have HB0 := hid hb0
  have HF1 := hid (Tg.few_any (w.alloc (.cells (Inf.ivl i) 25)) (hl.keep hb0) hlm capt)
  have HF2 := hid fun (w' : World) (hbw : Below w.heap.size w w') => rfew_any w' (hb.keep hbw) hnm capb
  have HK := hid fun (w' : World) (hbw : Below w.heap.size w w') => known_true w' (hT.keep hbw)
  have HM := hid fun w => Crc.make_any w
  have HBD := hid fun (w' : World) (g : Nat) (ht : Crc.Tab w' g) (hbw : Below w.heap.size w w') (hz : Tg.Sz T len) (hf : Fwb L n) => build_any (capb := capb) (s := 5) ht (hT.keep hbw) i (hl.keep hbw) hz hct (hb.keep hbw) hf (by decide)
  have HPA := hid fun (w' : World) (g : Nat) (ht : Crc.Tab w' g) (hbw : Below w.heap.size w w') {ba : Option Addr} {B : List Nat} {bn bc : Nat} (hB : Byts w' ba B) (hbn : B.length = bn) (hbc : bn ≤ bc) (hnn : ba = none → bc = 0) (hm : bn ≤ 1073741824) => parse_any ht (hT.keep hbw) hB hbn hbc hnn hm
  have HMB := hid hM
  have HMN := hid (And.intro hml (And.intro hmc hmn))
  have HX := hid (Inf.Bx.new w i)
  clear hT hl hb hb0 hM hml hmn
  obtain ⟨iw, hiw⟩ : ∃ iw : Inf.If, iw = i := ⟨_, rfl⟩
  subst hiw
  obtain ⟨ik, ich, ibits, irate, ibk, ish, hik⟩ : ∃ ik ich ibits irate ibk ish, iw = (⟨ik, ⟨ich, ibits, irate⟩, ibk, ish⟩ : Inf.If) := ⟨_, _, _, _, _, _, rfl⟩
  have ev : Inf.iv iw = .agg #[.int .i64 ik, .int .i64 ich, .int .i64 ibits, .int .i64 irate, .int .i64 ibk, .int .i64 ish] := by rw [hik]; rfl
  have el : Inf.ivl iw = #[.int .i64 ik, .int .i64 ich, .int .i64 ibits, .int .i64 irate, .int .i64 ibk, .int .i64 ish] := by rw [hik]; rfl
  rw [ev]
  rw [el] at HF1 HB0 HX
  have HIV := hid ev
  have HIK := hid hik
  clear ev el hik
  by_cases f1 : Tg.Fw T len
  rotate_left 1
  · rw [decide_eq_false f1] at HF1
    go_enter Tryd.func3, Tryd.ntmps3
    go_wp2_with fail
    refine HF1.out.mono ?_
    rintro e w1 ⟨rfl, hb1⟩
    have HB1 := hid (HB0.out.trans (hb1.mono HB0.out.size))
    clear hb1
    go_wp2_with fail
    refine (HK.out _ HB1.out).mono ?_
    rintro e wk ⟨rfl, hbk⟩
    have HBK := hid (HB1.out.trans (hbk.mono HB1.out.size))
    clear hbk
    go_wp2_with fail
    go_ret
    exact ⟨rfl, HBK.out⟩
  rw [decide_eq_true f1] at HF1
  by_cases f2 : Fwb L n
  rotate_left 1
  · rw [decide_eq_false f2] at HF2
    go_enter Tryd.func3, Tryd.ntmps3
    go_wp2_with fail
    refine HF1.out.mono ?_
    rintro e w1 ⟨rfl, hb1⟩
    have HB1 := hid (HB0.out.trans (hb1.mono HB0.out.size))
    clear hb1
    go_wp2_with fail
    refine (HF2.out _ HB1.out).mono ?_
    rintro e w1' ⟨rfl, rfl⟩
    go_wp2_with fail
    refine (HK.out _ HB1.out).mono ?_
    rintro e wk ⟨rfl, hbk⟩
    have HBK := hid (HB1.out.trans (hbk.mono HB1.out.size))
    clear hbk
    go_wp2_with fail
    go_ret
    exact ⟨rfl, HBK.out⟩
  rw [decide_eq_true f2] at HF2
  have HSZ := hid f1.sz
  have HFW := hid f2
  clear f1 f2
  by_cases hm100 : lm ≤ 100
  rotate_left 1
  · have hgt : (100 : Int) < (lm : Int) := by omega
    go_enter Tryd.func3, Tryd.ntmps3
    go_wp2_with fail
    refine HF1.out.mono ?_
    rintro e w1 ⟨rfl, hb1⟩
    have HB1 := hid (HB0.out.trans (hb1.mono HB0.out.size))
    clear hb1
    go_wp2_with fail
    refine (HF2.out _ HB1.out).mono ?_
    rintro e w1' ⟨rfl, rfl⟩
    go_wp2_with fail
    refine (HK.out _ HB1.out).mono ?_
    rintro e wk ⟨rfl, hbk⟩
    have HBK := hid (HB1.out.trans (hbk.mono HB1.out.size))
    clear hbk
    go_wp2_with fail
    go_ret
    exact ⟨rfl, HBK.out⟩
  have hgt : ¬ (100 : Int) < (lm : Int) := by omega
  go_enter Tryd.func3, Tryd.ntmps3
  go_wp2_with fail
  refine HF1.out.mono ?_
  rintro e w1 ⟨rfl, hb1⟩
  have HB1 := hid (HB0.out.trans (hb1.mono HB0.out.size))
  have HX1 := hid (HX.out.below hb1 HX.out.lt)
  clear hb1 HX HB0 HF1
  go_wp2_with fail
  refine (HF2.out _ HB1.out).mono ?_
  rintro e w1' ⟨rfl, rfl⟩
  clear HF2
  go_wp2_with fail
  refine (HM.out _).mono ?_
  rintro e w3 ⟨rfl, htab, hb3⟩
  have HX3 := hid (HX1.out.below hb3 HX1.out.lt)
  have HB3 := hid (HB1.out.trans (hb3.mono HB1.out.size))
  have HTA3 := hid htab
  clear hb3 htab HX1 HB1 HM
  have x0 : w3.cell? ⟨w.heap.size, 0, none⟩ = some (.int .i64 ik) := by rw [HX3.out.c0, HIK.out]
  have x1 : w3.cell? ⟨w.heap.size, 1, none⟩ = some (.int .i64 ich) := by rw [HX3.out.c1, HIK.out]
  have x2 : w3.cell? ⟨w.heap.size, 2, none⟩ = some (.int .i64 ibits) := by rw [HX3.out.c2, HIK.out]
  have x3 : w3.cell? ⟨w.heap.size, 3, none⟩ = some (.int .i64 irate) := by rw [HX3.out.c3, HIK.out]
  have x4 : w3.cell? ⟨w.heap.size, 4, none⟩ = some (.int .i64 ibk) := by rw [HX3.out.c4, HIK.out]
  have x5 : w3.cell? ⟨w.heap.size, 5, none⟩ = some (.int .i64 ish) := by rw [HX3.out.c5, HIK.out]
  go_wp2_with fail
  obtain ⟨E, hE⟩ : ∃ E, bdE iw T len L n = E := ⟨_, rfl⟩
  obtain ⟨R, hR⟩ : ∃ R, bdB iw T len L n 5 = R := ⟨_, rfl⟩
  have HBC := hid (HBD.out w3 _ HTA3.out HB3.out HSZ.out HFW.out)
  rw [hE, hR, HIV.out] at HBC
  refine HBC.out.mono ?_
  rintro e w4 ⟨ao, ca, rfl, hby, hcl, hnn, hnw, hb4⟩
  have HB4 := hid (HB3.out.trans (hb4.mono HB3.out.size))
  have HTA4 := hid (HTA3.out.keep (hb4.block _ HTA3.out.lt))
  have HBY4 := hid hby
  have HCL := hid (And.intro hcl hnn)
  clear hby hnn hnw hb4 HBC HX3 HB3 HTA3 HBD x0 x1 x2 x3 x4 x5
  by_cases hE0 : E = 0
  rotate_left 1
  · have hE' : (E != 0) = true := bne_iff_ne.2 hE0
    go_wp2_with fail
    refine (HK.out _ HB4.out).mono ?_
    rintro e wk ⟨rfl, hbk⟩
    have HBK := hid (HB4.out.trans (hbk.mono HB4.out.size))
    clear hbk
    go_wp2_with fail
    go_ret
    exact ⟨rfl, HBK.out⟩
  subst hE0
  have hpl : (Tg.pby (Tg.lst T len)).length ≤ 4210823 := by
    rw [pby_len]
    have := Tg.tbs_lst_le (bd_ok hE).2.1 len (Nat.le_refl _)
    omega
  have hpre : (bpre iw T len).length ≤ 4210842 := by rw [bpre_len]; omega
  have hfl : (flat L n).length ≤ 3600 := fwb_flat HFW.out (Nat.le_refl _)
  have hn12 : n ≤ 12 := HFW.out.1
  have hat : (bpre iw T len).length + (flat L n).length ≤ 1099511627776 := by omega
  have hRl : R.length ≤ 5000000 := by
    rw [← hR]
    unfold bdB
    rw [if_pos hE, ← bpre_len iw T len]
    show (bpre iw T len ++ flat L n ++ _).length ≤ _
    rw [List.length_append, List.length_append, Tl.tby_len, bst_P]
    omega
  have HCT := hid fun (k : Nat) (hk : k < R.length) => (show pfE (R.take k) = 10 from by rw [← hR] at hk ⊢; exact back_cut hE (by decide) hat (by omega) hk)
  have HMO := hid (show pfE (R ++ M) = if M = [] then 0 else 62 from by rw [← hR]; exact (back_lists hE (by decide) hat (by omega) M).2.2.2.2)
  have HM0 := hid (show pfE (R ++ []) = 0 from by have h := (back_lists (s := 5) hE (by decide) hat (by omega) []).2.2.2.2; rw [if_pos rfl, hR] at h; exact h)
  have HRL := hid hRl
  clear hpl hpre hfl hat hRl hE hR hn12
  have HR0 := hid (show 0 < R.length from by
    by_cases e : R.length = 0
    · exfalso
      have e2 : R = [] := List.eq_nil_of_length_eq_zero e
      have h1 := HMO.out
      rw [e2, List.nil_append] at h1
      have h2 : pfE (R ++ []) = 0 := HM0.out
      rw [e2] at h2
      exact absurd h2 (by decide)
    · omega)
  by_cases hcut : 1 ≤ cut ∧ cut ≤ (R.length : Int)
  · obtain ⟨cn, rfl⟩ : ∃ cn : Nat, cut = (cn : Int) := ⟨cut.toNat, by omega⟩
    obtain ⟨hc1, hc2⟩ := hcut
    obtain ⟨k, hk⟩ : ∃ k, k + cn = R.length := ⟨R.length - cn, by omega⟩
    have hklt : k < R.length := by omega
    have hkl : (R.take k).length = k := by rw [List.length_take]; omega
    have hkca : k ≤ ca := by have := HCL.out.1; omega
    have hkci : (k : Int) ≤ (ca : Int) := by omega
    have hwr := wr_sub (a := R.length) (c := cn) (k := k) (by have := HRL.out; omega) hk
    have HPK := hid (HPA.out w4 _ HTA4.out HB4.out (HBY4.out.take k) hkl hkca (fun e => (HCL.out.2 e).2) (by have := HRL.out; omega))
    have HCK := hid (HCT.out k hklt)
    obtain ⟨rq, ro, hao⟩ : ∃ rq ro, ao = some ⟨rq, ro, none⟩ := by
      obtain ⟨q, off, e, _⟩ := HBY4.out.at_ 0 _ (List.getElem?_eq_getElem HR0.out)
      exact ⟨q, off, e⟩
    subst hao
    have HCC := hid (And.intro hc1 hc2)
    clear hk hklt hkl
    go_wp2_with fail
    refine HPK.out.mono ?_
    rintro e w5 hp
    obtain ⟨hb5, v, hv, hv1, rfl⟩ := parsep_err hp
    rw [HCK.out]
    have HAN := hid (heap_alloc_new w5 (.cells #[.int .i64 0, .int .i64 0, .int .i64 0, .int .i64 0, .int .i64 0, .int .i64 0, .slice none 0 0, .slice none 0 0, .int .i64 0, .int .u32 0, .slice none 0 0] 43))
    have hb6 : Below w5.heap.size w5 ((w5.alloc (.cells #[.int .i64 0, .int .i64 0, .int .i64 0, .int .i64 0, .int .i64 0, .int .i64 0, .slice none 0 0, .slice none 0 0, .int .i64 0, .int .u32 0, .slice none 0 0] 43)).setRow w5.heap.size v) := Inf.fr_rowBelow (Inf.below_new w5 _) (Nat.le_refl _)
    have hb46 : Below w4.heap.size w4 ((w5.alloc (.cells #[.int .i64 0, .int .i64 0, .int .i64 0, .int .i64 0, .int .i64 0, .int .i64 0, .slice none 0 0, .slice none 0 0, .int .i64 0, .int .u32 0, .slice none 0 0] 43)).setRow w5.heap.size v) := hb5.trans (hb6.mono hb5.size)
    have HB6 := hid (HB4.out.trans (hb46.mono HB4.out.size))
    have HBY6 := hid (HBY4.out.keep hb46)
    have HTA6 := hid (HTA4.out.keep (hb46.block _ HTA4.out.lt))
    clear hp hb5 hb6 hb46 HPK hwr hkca hkci hc1 hc2
    obtain ⟨w6, hw6⟩ : ∃ w6, (w5.alloc (.cells #[.int .i64 0, .int .i64 0, .int .i64 0, .int .i64 0, .int .i64 0, .int .i64 0, .slice none 0 0, .slice none 0 0, .int .i64 0, .int .u32 0, .slice none 0 0] 43)).setRow w5.heap.size v = w6 := ⟨_, rfl⟩
    rw [hw6] at HB6 HBY6 HTA6
    have HW6 := hid hw6
    clear hw6
    have hrn : (some ⟨rq, ro, none⟩ : Option Addr) = none → R.length = 0 := fun e => (HCL.out.2 e).1
    have hmn : am = none → lm = 0 := fun e => (HMN.out.2.2 e).1
    have HMX := hid (HMB.out.keep HB6.out)
    have hr0 : 0 < R.length := HR0.out
    have hrl : R.length ≤ 5000000 := HRL.out
    obtain ⟨i5, hi5, hz50, hz51, hz52⟩ := info_parts Tryd.info5
    go_wp2_with (first | (refine wpList_store_row rfl 43 _ _ rfl w5.heap.size v rfl rfl 43 #[.int .i64 0, .int .i64 0, .int .i64 0, .int .i64 0, .int .i64 0, .int .i64 0, .slice none 0 0, .slice none 0 0, .int .i64 0, .int .u32 0, .slice none 0 0] HAN.out (size43v hv) (by rw [hv]; rfl) hv1 ?_; rw [HW6.out]) | (at_builtin; go_must (refine wpList_append_src w6 rfl (.tmp 66) (.tmp 67) 28 rfl w6.heap.size 5 i5 (.int .u8 0) 1 Tryd.underlying28 hi5 hz50 hz51 hz52 rfl none 0 0 [] rfl (World.ownsRow_nil _ _ _ _) (some ⟨rq, ro, none⟩ : Option Addr) R.length ca (bl R) rfl (bl_len R) hrn (fun ad had j u hj => HBY6.out.cells ad had j u hj) (bl_one _) (by unfold maxLen; omega) (by omega) (Nat.le_refl _) ?_)))
    intro a7 c7 w7 ho7 hg7 hat7
    have hb7 : Below w6.heap.size w6 w7 := ⟨hg7.os, hg7.tape, hg7.output, hg7.size, fun q hq => hg7.block q hq (by simp [blk])⟩
    have HO7 := hid (show w7.ownsRow w6.heap.size 5 1 (.slice a7 R.length c7) R.length (bl R) from by simpa using ho7)
    have HB7 := hid hb7
    have HM7 := hid (HMX.out.keep hb7)
    have hsz7 : w6.heap.size ≤ w7.heap.size := hb7.size
    clear ho7 hg7 hat7 hb7
    go_wp2_with (at_builtin; go_must (refine wpList_append_src w7 rfl (.tmp 68) (.tmp 69) 28 rfl w6.heap.size 5 i5 (.int .u8 0) 1 Tryd.underlying28 hi5 hz50 hz51 hz52 rfl a7 R.length c7 (bl R) rfl HO7.out am lm cm (bl M) rfl (by rw [bl_len]; exact HMN.out.1) hmn (fun ad had j u hj => HM7.out.cells ad had j u hj) (bl_one _) (by unfold maxLen; omega) (by omega) hsz7 ?_))
    intro a8 c8 w8 ho8 hg8 hat8
    have hb8 : Below w6.heap.size w6 w8 := HB7.out.trans ⟨hg8.os, hg8.tape, hg8.output, hg8.size, fun q hq => hg8.block q (Nat.lt_of_lt_of_le hq hsz7) (fun e => by have := (own_in HO7.out q e.symm).1; omega)⟩
    have ho8' : w8.ownsRow w6.heap.size 5 1 (.slice a8 (R.length + lm) c8) (R.length + lm) (bl (R ++ M)) := by rw [bl_app]; exact ho8
    have hlen8 : (R ++ M).length = R.length + lm := by rw [List.length_append, HMN.out.1]
    have hby8 : Byts w8 a8 (R ++ M) := Byts.of_row (fun x hx => by
      rcases List.mem_append.1 hx with hx | hx
      · exact HBY6.out.lt x hx
      · exact HMB.out.lt x hx) ho8'
    have hle8 : R.length + lm ≤ c8 := own_le ho8'
    have hnn8 : a8 = none → c8 = 0 := fun e => by
      rcases ownsRow_at ho8' with ⟨_, h0, _, _⟩ | ⟨q, hq⟩
      · omega
      · rw [e] at hq; cases hq
    have HB8 := hid (HB6.out.trans (hb8.mono HB6.out.size))
    have HTA8 := hid (HTA6.out.keep (hb8.block _ HTA6.out.lt))
    have HPB := hid (HPA.out w8 _ HTA8.out HB8.out hby8 hlen8 hle8 hnn8 (by omega))
    clear ho8 hg8 hat8 hb8 ho8' hby8 hle8 hnn8 hi5 hz50 hz51 hz52 HO7 HB7 HM7 HMX hsz7
    go_wp2_with fail
    refine HPB.out.mono ?_
    rintro e w9 hp
    obtain ⟨hb9, v9, hv9, hw9, rfl⟩ := parsep_err hp
    rw [HMO.out]
    have HAN9 := hid (heap_alloc_new w9 (.cells #[.int .i64 0, .int .i64 0, .int .i64 0, .int .i64 0, .int .i64 0, .int .i64 0, .slice none 0 0, .slice none 0 0, .int .i64 0, .int .u32 0, .slice none 0 0] 43))
    have hb10 : Below w9.heap.size w9 ((w9.alloc (.cells #[.int .i64 0, .int .i64 0, .int .i64 0, .int .i64 0, .int .i64 0, .int .i64 0, .slice none 0 0, .slice none 0 0, .int .i64 0, .int .u32 0, .slice none 0 0] 43)).setRow w9.heap.size v9) := Inf.fr_rowBelow (Inf.below_new w9 _) (Nat.le_refl _)
    have HB10 := hid ((HB8.out.trans (hb9.mono HB8.out.size)).trans (hb10.mono (HB8.out.trans (hb9.mono HB8.out.size)).size))
    have HV9 := hid (And.intro hv9 hw9)
    clear hp hb9 hb10 hv9 hw9 hrn hmn hr0 hrl hlen8
    by_cases hMe : M = []
    · have hl0 : lm = 0 := by rw [← HMN.out.1, hMe]; rfl
      rw [if_pos hMe]
      subst hl0
      go_wp2_with (refine wpList_store_row rfl 43 _ _ rfl w9.heap.size v9 rfl rfl 43 #[.int .i64 0, .int .i64 0, .int .i64 0, .int .i64 0, .int .i64 0, .int .i64 0, .slice none 0 0, .slice none 0 0, .int .i64 0, .int .u32 0, .slice none 0 0] HAN9.out (size43v HV9.out.1) (by rw [HV9.out.1]; rfl) HV9.out.2 ?_)
      refine (HK.out _ HB10.out).mono ?_
      rintro e wk ⟨rfl, hbk⟩
      have HBK := hid (HB10.out.trans (hbk.mono HB10.out.size))
      clear hbk
      go_wp2_with fail
      go_ret
      exact ⟨rfl, HBK.out⟩
    · have hl0 : 0 < lm := by rw [← HMN.out.1]; exact List.length_pos_iff.2 hMe
      rw [if_neg hMe]
      have hlb : ((lm : Int) == 0) = false := by rw [beq_eq_false_iff_ne]; omega
      have hlm0 : ¬ lm = 0 := by omega
      go_wp2_with (refine wpList_store_row rfl 43 _ _ rfl w9.heap.size v9 rfl rfl 43 #[.int .i64 0, .int .i64 0, .int .i64 0, .int .i64 0, .int .i64 0, .int .i64 0, .slice none 0 0, .slice none 0 0, .int .i64 0, .int .u32 0, .slice none 0 0] HAN9.out (size43v HV9.out.1) (by rw [HV9.out.1]; rfl) HV9.out.2 ?_)
      refine (HK.out _ HB10.out).mono ?_
      rintro e wk ⟨rfl, hbk⟩
      have HBK := hid (HB10.out.trans (hbk.mono HB10.out.size))
      clear hbk
      go_wp2_with fail
      go_ret
      exact ⟨rfl, HBK.out⟩
  have hnc : ¬ (1 ≤ cut ∧ cut ≤ (R.length : Int)) := hcut
  by_cases hc1 : 1 ≤ cut
  · have hc2 : ¬ cut ≤ (R.length : Int) := fun e => hcut ⟨hc1, e⟩
    clear hcut hnc
    have hrn : (ao : Option Addr) = none → R.length = 0 := fun e => (HCL.out.2 e).1
    have hmn : am = none → lm = 0 := fun e => (HMN.out.2.2 e).1
    have HMX := hid (HMB.out.keep HB4.out)
    have hr0 : 0 < R.length := HR0.out
    have hrl : R.length ≤ 5000000 := HRL.out
    obtain ⟨i5, hi5, hz50, hz51, hz52⟩ := info_parts Tryd.info5
    go_wp2_with ((at_builtin; go_must (refine wpList_append_src w4 rfl (.tmp 66) (.tmp 67) 28 rfl w4.heap.size 5 i5 (.int .u8 0) 1 Tryd.underlying28 hi5 hz50 hz51 hz52 rfl none 0 0 [] rfl (World.ownsRow_nil _ _ _ _) (ao : Option Addr) R.length ca (bl R) rfl (bl_len R) hrn (fun ad had j u hj => HBY4.out.cells ad had j u hj) (bl_one _) (by unfold maxLen; omega) (by omega) (Nat.le_refl _) ?_)))
    intro a7 c7 w7 ho7 hg7 hat7
    have hb7 : Below w4.heap.size w4 w7 := ⟨hg7.os, hg7.tape, hg7.output, hg7.size, fun q hq => hg7.block q hq (by simp [blk])⟩
    have HO7 := hid (show w7.ownsRow w4.heap.size 5 1 (.slice a7 R.length c7) R.length (bl R) from by simpa using ho7)
    have HB7 := hid hb7
    have HM7 := hid (HMX.out.keep hb7)
    have hsz7 : w4.heap.size ≤ w7.heap.size := hb7.size
    clear ho7 hg7 hat7 hb7
    go_wp2_with (at_builtin; go_must (refine wpList_append_src w7 rfl (.tmp 68) (.tmp 69) 28 rfl w4.heap.size 5 i5 (.int .u8 0) 1 Tryd.underlying28 hi5 hz50 hz51 hz52 rfl a7 R.length c7 (bl R) rfl HO7.out am lm cm (bl M) rfl (by rw [bl_len]; exact HMN.out.1) hmn (fun ad had j u hj => HM7.out.cells ad had j u hj) (bl_one _) (by unfold maxLen; omega) (by omega) hsz7 ?_))
    intro a8 c8 w8 ho8 hg8 hat8
    have hb8 : Below w4.heap.size w4 w8 := HB7.out.trans ⟨hg8.os, hg8.tape, hg8.output, hg8.size, fun q hq => hg8.block q (Nat.lt_of_lt_of_le hq hsz7) (fun e => by have := (own_in HO7.out q e.symm).1; omega)⟩
    have ho8' : w8.ownsRow w4.heap.size 5 1 (.slice a8 (R.length + lm) c8) (R.length + lm) (bl (R ++ M)) := by rw [bl_app]; exact ho8
    have hlen8 : (R ++ M).length = R.length + lm := by rw [List.length_append, HMN.out.1]
    have hby8 : Byts w8 a8 (R ++ M) := Byts.of_row (fun x hx => by
      rcases List.mem_append.1 hx with hx | hx
      · exact HBY4.out.lt x hx
      · exact HMB.out.lt x hx) ho8'
    have hle8 : R.length + lm ≤ c8 := own_le ho8'
    have hnn8 : a8 = none → c8 = 0 := fun e => by
      rcases ownsRow_at ho8' with ⟨_, h0, _, _⟩ | ⟨q, hq⟩
      · omega
      · rw [e] at hq; cases hq
    have HB8 := hid (HB4.out.trans (hb8.mono HB4.out.size))
    have HTA8 := hid (HTA4.out.keep (hb8.block _ HTA4.out.lt))
    have HPB := hid (HPA.out w8 _ HTA8.out HB8.out hby8 hlen8 hle8 hnn8 (by omega))
    clear ho8 hg8 hat8 hb8 ho8' hby8 hle8 hnn8 hi5 hz50 hz51 hz52 HO7 HB7 HM7 HMX hsz7
    go_wp2_with fail
    refine HPB.out.mono ?_
    rintro e w9 hp
    obtain ⟨hb9, v9, hv9, hw9, rfl⟩ := parsep_err hp
    rw [HMO.out]
    have HAN9 := hid (heap_alloc_new w9 (.cells #[.int .i64 0, .int .i64 0, .int .i64 0, .int .i64 0, .int .i64 0, .int .i64 0, .slice none 0 0, .slice none 0 0, .int .i64 0, .int .u32 0, .slice none 0 0] 43))
    have hb10 : Below w9.heap.size w9 ((w9.alloc (.cells #[.int .i64 0, .int .i64 0, .int .i64 0, .int .i64 0, .int .i64 0, .int .i64 0, .slice none 0 0, .slice none 0 0, .int .i64 0, .int .u32 0, .slice none 0 0] 43)).setRow w9.heap.size v9) := Inf.fr_rowBelow (Inf.below_new w9 _) (Nat.le_refl _)
    have HB10 := hid ((HB8.out.trans (hb9.mono HB8.out.size)).trans (hb10.mono (HB8.out.trans (hb9.mono HB8.out.size)).size))
    have HV9 := hid (And.intro hv9 hw9)
    clear hp hb9 hb10 hv9 hw9 hrn hmn hr0 hrl hlen8
    by_cases hMe : M = []
    · have hl0 : lm = 0 := by rw [← HMN.out.1, hMe]; rfl
      rw [if_pos hMe]
      subst hl0
      go_wp2_with (refine wpList_store_row rfl 43 _ _ rfl w9.heap.size v9 rfl rfl 43 #[.int .i64 0, .int .i64 0, .int .i64 0, .int .i64 0, .int .i64 0, .int .i64 0, .slice none 0 0, .slice none 0 0, .int .i64 0, .int .u32 0, .slice none 0 0] HAN9.out (size43v HV9.out.1) (by rw [HV9.out.1]; rfl) HV9.out.2 ?_)
      refine (HK.out _ HB10.out).mono ?_
      rintro e wk ⟨rfl, hbk⟩
      have HBK := hid (HB10.out.trans (hbk.mono HB10.out.size))
      clear hbk
      go_wp2_with fail
      go_ret
      exact ⟨rfl, HBK.out⟩
    · have hl0 : 0 < lm := by rw [← HMN.out.1]; exact List.length_pos_iff.2 hMe
      rw [if_neg hMe]
      have hlb : ((lm : Int) == 0) = false := by rw [beq_eq_false_iff_ne]; omega
      have hlm0 : ¬ lm = 0 := by omega
      go_wp2_with (refine wpList_store_row rfl 43 _ _ rfl w9.heap.size v9 rfl rfl 43 #[.int .i64 0, .int .i64 0, .int .i64 0, .int .i64 0, .int .i64 0, .int .i64 0, .slice none 0 0, .slice none 0 0, .int .i64 0, .int .u32 0, .slice none 0 0] HAN9.out (size43v HV9.out.1) (by rw [HV9.out.1]; rfl) HV9.out.2 ?_)
      refine (HK.out _ HB10.out).mono ?_
      rintro e wk ⟨rfl, hbk⟩
      have HBK := hid (HB10.out.trans (hbk.mono HB10.out.size))
      clear hbk
      go_wp2_with fail
      go_ret
      exact ⟨rfl, HBK.out⟩
  · clear hcut hnc
    have hrn : (ao : Option Addr) = none → R.length = 0 := fun e => (HCL.out.2 e).1
    have hmn : am = none → lm = 0 := fun e => (HMN.out.2.2 e).1
    have HMX := hid (HMB.out.keep HB4.out)
    have hr0 : 0 < R.length := HR0.out
    have hrl : R.length ≤ 5000000 := HRL.out
    obtain ⟨i5, hi5, hz50, hz51, hz52⟩ := info_parts Tryd.info5
    go_wp2_with ((at_builtin; go_must (refine wpList_append_src w4 rfl (.tmp 66) (.tmp 67) 28 rfl w4.heap.size 5 i5 (.int .u8 0) 1 Tryd.underlying28 hi5 hz50 hz51 hz52 rfl none 0 0 [] rfl (World.ownsRow_nil _ _ _ _) (ao : Option Addr) R.length ca (bl R) rfl (bl_len R) hrn (fun ad had j u hj => HBY4.out.cells ad had j u hj) (bl_one _) (by unfold maxLen; omega) (by omega) (Nat.le_refl _) ?_)))
    intro a7 c7 w7 ho7 hg7 hat7
    have hb7 : Below w4.heap.size w4 w7 := ⟨hg7.os, hg7.tape, hg7.output, hg7.size, fun q hq => hg7.block q hq (by simp [blk])⟩
    have HO7 := hid (show w7.ownsRow w4.heap.size 5 1 (.slice a7 R.length c7) R.length (bl R) from by simpa using ho7)
    have HB7 := hid hb7
    have HM7 := hid (HMX.out.keep hb7)
    have hsz7 : w4.heap.size ≤ w7.heap.size := hb7.size
    clear ho7 hg7 hat7 hb7
    go_wp2_with (at_builtin; go_must (refine wpList_append_src w7 rfl (.tmp 68) (.tmp 69) 28 rfl w4.heap.size 5 i5 (.int .u8 0) 1 Tryd.underlying28 hi5 hz50 hz51 hz52 rfl a7 R.length c7 (bl R) rfl HO7.out am lm cm (bl M) rfl (by rw [bl_len]; exact HMN.out.1) hmn (fun ad had j u hj => HM7.out.cells ad had j u hj) (bl_one _) (by unfold maxLen; omega) (by omega) hsz7 ?_))
    intro a8 c8 w8 ho8 hg8 hat8
    have hb8 : Below w4.heap.size w4 w8 := HB7.out.trans ⟨hg8.os, hg8.tape, hg8.output, hg8.size, fun q hq => hg8.block q (Nat.lt_of_lt_of_le hq hsz7) (fun e => by have := (own_in HO7.out q e.symm).1; omega)⟩
    have ho8' : w8.ownsRow w4.heap.size 5 1 (.slice a8 (R.length + lm) c8) (R.length + lm) (bl (R ++ M)) := by rw [bl_app]; exact ho8
    have hlen8 : (R ++ M).length = R.length + lm := by rw [List.length_append, HMN.out.1]
    have hby8 : Byts w8 a8 (R ++ M) := Byts.of_row (fun x hx => by
      rcases List.mem_append.1 hx with hx | hx
      · exact HBY4.out.lt x hx
      · exact HMB.out.lt x hx) ho8'
    have hle8 : R.length + lm ≤ c8 := own_le ho8'
    have hnn8 : a8 = none → c8 = 0 := fun e => by
      rcases ownsRow_at ho8' with ⟨_, h0, _, _⟩ | ⟨q, hq⟩
      · omega
      · rw [e] at hq; cases hq
    have HB8 := hid (HB4.out.trans (hb8.mono HB4.out.size))
    have HTA8 := hid (HTA4.out.keep (hb8.block _ HTA4.out.lt))
    have HPB := hid (HPA.out w8 _ HTA8.out HB8.out hby8 hlen8 hle8 hnn8 (by omega))
    clear ho8 hg8 hat8 hb8 ho8' hby8 hle8 hnn8 hi5 hz50 hz51 hz52 HO7 HB7 HM7 HMX hsz7
    go_wp2_with fail
    refine HPB.out.mono ?_
    rintro e w9 hp
    obtain ⟨hb9, v9, hv9, hw9, rfl⟩ := parsep_err hp
    rw [HMO.out]
    have HAN9 := hid (heap_alloc_new w9 (.cells #[.int .i64 0, .int .i64 0, .int .i64 0, .int .i64 0, .int .i64 0, .int .i64 0, .slice none 0 0, .slice none 0 0, .int .i64 0, .int .u32 0, .slice none 0 0] 43))
    have hb10 : Below w9.heap.size w9 ((w9.alloc (.cells #[.int .i64 0, .int .i64 0, .int .i64 0, .int .i64 0, .int .i64 0, .int .i64 0, .slice none 0 0, .slice none 0 0, .int .i64 0, .int .u32 0, .slice none 0 0] 43)).setRow w9.heap.size v9) := Inf.fr_rowBelow (Inf.below_new w9 _) (Nat.le_refl _)
    have HB10 := hid ((HB8.out.trans (hb9.mono HB8.out.size)).trans (hb10.mono (HB8.out.trans (hb9.mono HB8.out.size)).size))
    have HV9 := hid (And.intro hv9 hw9)
    clear hp hb9 hb10 hv9 hw9 hrn hmn hr0 hrl hlen8
    by_cases hMe : M = []
    · have hl0 : lm = 0 := by rw [← HMN.out.1, hMe]; rfl
      rw [if_pos hMe]
      subst hl0
      go_wp2_with (refine wpList_store_row rfl 43 _ _ rfl w9.heap.size v9 rfl rfl 43 #[.int .i64 0, .int .i64 0, .int .i64 0, .int .i64 0, .int .i64 0, .int .i64 0, .slice none 0 0, .slice none 0 0, .int .i64 0, .int .u32 0, .slice none 0 0] HAN9.out (size43v HV9.out.1) (by rw [HV9.out.1]; rfl) HV9.out.2 ?_)
      refine (HK.out _ HB10.out).mono ?_
      rintro e wk ⟨rfl, hbk⟩
      have HBK := hid (HB10.out.trans (hbk.mono HB10.out.size))
      clear hbk
      go_wp2_with fail
      go_ret
      exact ⟨rfl, HBK.out⟩
    · have hl0 : 0 < lm := by rw [← HMN.out.1]; exact List.length_pos_iff.2 hMe
      rw [if_neg hMe]
      have hlb : ((lm : Int) == 0) = false := by rw [beq_eq_false_iff_ne]; omega
      have hlm0 : ¬ lm = 0 := by omega
      go_wp2_with (refine wpList_store_row rfl 43 _ _ rfl w9.heap.size v9 rfl rfl 43 #[.int .i64 0, .int .i64 0, .int .i64 0, .int .i64 0, .int .i64 0, .int .i64 0, .slice none 0 0, .slice none 0 0, .int .i64 0, .int .u32 0, .slice none 0 0] HAN9.out (size43v HV9.out.1) (by rw [HV9.out.1]; rfl) HV9.out.2 ?_)
      refine (HK.out _ HB10.out).mono ?_
      rintro e wk ⟨rfl, hbk⟩
      have HBK := hid (HB10.out.trans (hbk.mono HB10.out.size))
      clear hbk
      go_wp2_with fail
      go_ret
      exact ⟨rfl, HBK.out⟩
end Go.Proofs.YthjjonbkfkpkmaaDoor.Fil
