/- FileBack's walk: what is built is parsed as it was, and built of its own parts as it was. Condition: the two tables of unicode/utf8 lie as their initialisers lay them. -/
import Derived.Test.YthjjonbkfkpkmaaGreatDoorY48
import Derived.Test.YthjjonbkfkpkmaaGreatDoorY46
import Derived.Test.YthjjonbkfkpkmaaGreatDoorYxGh
namespace Go.Proofs.YthjjonbkfkpkmaaGreatDoor.Fil
open Go.RowKit Gen
open Tl (il il_app rise TRt Tx)
attribute [local go_sem] Oper.semAt_some

/-- The file that Parse answers for what Build put together. -/
structure BkP (w : World) (B : Nat) (i : Inf.If) (T : Nat → Tg.Tag) (len : Nat) (L : Nat → List Nat) (n s : Nat) (a1 : Option Addr) (c1 : Nat) (a2 : Option Addr) (X : List Bv) : Prop where
  tg : Tg.Ow w B a1 c1 (Tg.lst T len)
  bo : BsAt w a2 X
  xn : X.length = n
  x : ∀ (k : Nat) (x : Bv), X[k]? = some x → x.h = Head.opH (L k) ∧ x.n = (Head.opP (L k)).length ∧ Byts w x.a (Head.opP (L k)) ∧ x.s = Head.opS (L k) ∧ x.at_ = (bst i L (bpre i T len).length k).at_
theorem BkP.keep {w w' : World} {B : Nat} {i : Inf.If} {T : Nat → Tg.Tag} {len : Nat} {L : Nat → List Nat} {n s : Nat} {a1 : Option Addr} {c1 : Nat} {a2 : Option Addr} {X : List Bv} (h : BkP w B i T len L n s a1 c1 a2 X) (hb : Below w.heap.size w w') : BkP w' B i T len L n s a1 c1 a2 X :=
  ⟨h.tg.keep hb, h.bo.keep hb, h.xn, fun k x hx => ⟨(h.x k x hx).1, (h.x k x hx).2.1, (h.x k x hx).2.2.1.keep hb, (h.x k x hx).2.2.2⟩⟩
theorem bkp_of {w w' : World} {i : Inf.If} {T : Nat → Tg.Tag} {len : Nat} {L : Nat → List Nat} {n s : Nat} {e : Ending} (h : bdE i T len L n = 0) (hs : s < 4294967296) (hat : (bpre i T len).length + (flat L n).length ≤ 1099511627776) (hn : n ≤ 16777216)
    (hp : ParseP w (bdB i T len L n s) 63 e w') :
    Below w.heap.size w w' ∧ ∃ a1 c1 a2 c2 X a3 c3, e = .returned (.tuple #[.agg (fcl i a1 len c1 a2 n c2 (bst i L (bpre i T len).length n).c s a3 n c3), .int .i64 0]) ∧ BkP w' w.heap.size i T len L n s a1 c1 a2 X := by
  have hl := back_lists (s := s) h hs hat hn []
  rw [List.append_nil, List.append_nil, if_pos rfl] at hl
  obtain ⟨e1, e2, e3, e4, e5⟩ := hl
  obtain ⟨hbel, hp⟩ := hp
  refine ⟨hbel, ?_⟩
  rcases hp with ⟨h0, _⟩ | ⟨_, a1, c1, a2, c2, X, a3, c3, rfl, k⟩
  · exact absurd e5 h0
  have htrt := bst_trt n (bd_ok h).2.2 (by omega) hn
  obtain ⟨_, _, _, t4, _⟩ := Tl.get_tby (bst i L (bpre i T len).length n).c s (bst i L (bpre i T len).length n).P htrt hs []
  rw [List.append_nil] at t4
  have f1 : (psR (bdB i T len L n s)).1 = bst i L (bpre i T len).length n := by rw [e3]
  have hbo := k.bo
  have hxs := k.xs
  have htg := k.tg
  rw [f1, bst_n] at hbo
  rw [f1] at hxs
  rw [e2] at htg
  have hxn : X.length = n := by rw [hxs.len, bst_P]
  refine ⟨a1, c1, a2, c2, X, a3, c3, by rw [e1, e2, f1, e4, t4, bst_n, Tg.lst_len], ⟨htg, BsAt.of_row hbo, hxn, fun j x hx => ?_⟩⟩
  obtain ⟨p, hpj, q⟩ := hxs.ok j x hx
  have hj : j < n := by rw [← hxn]; exact (List.getElem?_eq_some_iff.1 hx).1
  rw [bst_at i L _ n j hj] at hpj
  have ep : p = (bst i L (bpre i T len).length j).at_ := by have := Option.some.inj hpj; omega
  subst ep
  obtain ⟨ho, _, _, _, R, hR⟩ := back_blk (s := s) h hat hj
  obtain ⟨_, o2, o3, o4, _⟩ := Head.op_app ho R
  have qh := q.h
  have qn := q.n
  have qp := q.p
  have qs := q.s
  rw [hR, o2] at qh
  rw [hR, o3] at qn qp
  rw [hR, o4] at qs
  exact ⟨qh, qn, qp, qs, q.e⟩
/-- Its tags are the given ones. -/
theorem BkP.same {w : World} {B : Nat} {i : Inf.If} {T : Nat → Tg.Tag} {len : Nat} {L : Nat → List Nat} {n s : Nat} {a1 : Option Addr} {c1 : Nat} {a2 : Option Addr} {X : List Bv} (h : BkP w B i T len L n s a1 c1 a2 X) {a : Option Addr} {b off : Nat} (hl : Tg.Tb w a len b off T) (hm : len ≤ 1099511627776) (capt : Nat) :
    Calls Tryz.prog 17 #[.slice a1 len c1, .slice a len capt] w fun e w' => e = .returned (.bool true) ∧ Below w.heap.size w w' := by
  obtain ⟨q, htb, _, _⟩ := h.tg.tb
  rw [Tg.lst_len] at htb
  have hh := Tg.rsame_any w htb hl hm c1 capt
  rw [decide_eq_true (show Tg.Eqs (Tg.gt (Tg.lst T len)) T len len from ⟨rfl, fun j hj => gt_lst T len hj⟩)] at hh
  exact hh
/-- It is built again of its own parts. -/
theorem BkP.again {w : World} {t : Nat} (ht : Crc.Tab w t) (hT : Tg.Tabs w) {B : Nat} {i : Inf.If} {T : Nat → Tg.Tag} {len : Nat} {L : Nat → List Nat} {n s : Nat} {a1 : Option Addr} {c1 : Nat} {a2 : Option Addr} {X : List Bv} (h : BkP w B i T len L n s a1 c1 a2 X) (hz : Tg.Sz T len) (hf : Fwb L n) (hs : s < 4294967296)
    {B' : Nat} {aa : Option Addr} {ca : Nat} {vs : List Value} (hg : Ag w B' aa ca n L vs) :
    Calls Tryz.prog 9 #[.pointer (some ⟨t, 0, none⟩), Inf.iv i, .slice a1 len c1, .slice aa n ca, .int .u32 (s : Int)] w (PutF w (bdE i T len L n) (bdB i T len L n s)) := by
  obtain ⟨q, htb, _, _⟩ := h.tg.tb
  have hcap := h.tg.cap
  rw [Tg.lst_len] at htb hcap
  obtain ⟨g, hbb⟩ := hg.bb
  have hc := bd_congr (i := i) (T := T) (U := Tg.gt (Tg.lst T len)) (len := len) (fun j hj => (gt_lst T len hj).symm) L n s
  rw [hc.1, hc.2]
  exact build_any ht hT i htb ⟨hz.n, fun j hj => by rw [gt_lst T len hj]; exact hz.k j hj, fun j hj => by rw [gt_lst T len hj]; exact hz.v j hj⟩ hcap hbb hf hs

theorem wr_6 {a m : Nat} (h : a ≤ 1073741824) (hm : m ≤ 1073741824) : wrap64 ((a : Int) + (m : Int)) = (a : Int) + (m : Int) := IntWalk.wrap64_in _ (by omega)
theorem wr_7 {a m : Nat} (h : a ≤ 1073741824) (hm : m ≤ 1073741824) : IntKind.i64.wrap ((a : Int) + (m : Int)) = (a : Int) + (m : Int) := IntWalk.i64_in _ (by omega)
set_option maxHeartbeats 8000000 in
set_option maxRecDepth 100000 in
theorem back_walk (w : World) (hT : Tg.Tabs w) (i : Inf.If) {a : Option Addr} {len b off capt : Nat} {T : Nat → Tg.Tag} (hl : Tg.Tb w a len b off T) (hct : len ≤ capt) (hlm : len ≤ 9223372036854775807)
    {ab : Option Addr} {n bb bo capb : Nat} {L : Nat → List Nat} (hb : Bb w ab n bb bo L) (hnm : n ≤ 9223372036854775807) {s : Nat} (hs : s < 4294967296) :
    Calls Tryz.prog 5 #[Inf.iv i, .slice a len capt, .slice ab n capb, .int .u32 (s : Int)] w fun e w' => e = .returned (.bool true) ∧ Below w.heap.size w w' := by
  have hb0 := Inf.below_new w (.cells (Inf.ivl i) 25)
  have HB0 := hid hb0
  have HF1 := hid (Tg.few_any (w.alloc (.cells (Inf.ivl i) 25)) (hl.keep hb0) hlm capt)
  have HF2 := hid fun (w' : World) (hbw : Below w.heap.size w w') => rfew_any w' (hb.keep hbw) hnm capb
  have HK := hid fun (w' : World) (hbw : Below w.heap.size w w') => known_true w' (hT.keep hbw)
  have HM := hid fun w => Crc.make_any w
  have HBD := hid fun (w' : World) (g : Nat) (ht : Crc.Tab w' g) (hbw : Below w.heap.size w w') (hz : Tg.Sz T len) (hf : Fwb L n) => build_any (capb := capb) ht (hT.keep hbw) i (hl.keep hbw) hz hct (hb.keep hbw) hf hs
  have HTT := hid hT
  have HTB := hid hl
  have HBB := hid hb
  have HX := hid (Inf.Bx.new w i)
  clear hT hl hb hb0
  obtain ⟨iw, hiw⟩ : ∃ iw : Inf.If, iw = i := ⟨_, rfl⟩
  subst hiw
  obtain ⟨ik, ich, ibits, irate, ibk, ish, hik⟩ : ∃ ik ich ibits irate ibk ish, iw = (⟨ik, ⟨ich, ibits, irate⟩, ibk, ish⟩ : Inf.If) := ⟨_, _, _, _, _, _, rfl⟩
  have ev : Inf.iv iw = .agg #[.int .i64 ik, .int .i64 ich, .int .i64 ibits, .int .i64 irate, .int .i64 ibk, .int .i64 ish] := by rw [hik]; rfl
  have el : Inf.ivl iw = #[.int .i64 ik, .int .i64 ich, .int .i64 ibits, .int .i64 irate, .int .i64 ibk, .int .i64 ish] := by rw [hik]; rfl
  rw [ev]
  rw [el] at HF1 HB0 HX
  have HIV := hid ev
  have HIK := hid hik
  clear ev el hik
  by_cases f1 : Tg.Fw T len
  rotate_left 1
  · rw [decide_eq_false f1] at HF1
    go_enter Tryz.func5, Tryz.ntmps5
    go_wp2_with fail
    refine HF1.out.mono ?_
    rintro e w1 ⟨rfl, hb1⟩
    have HB1 := hid (HB0.out.trans (hb1.mono HB0.out.size))
    clear hb1
    go_wp2_with fail
    refine (HK.out _ HB1.out).mono ?_
    rintro e w2 ⟨rfl, hb2⟩
    have HB2 := hid (HB1.out.trans (hb2.mono HB1.out.size))
    clear hb2
    go_wp2_with fail
    go_ret
    exact ⟨rfl, HB2.out⟩
  rw [decide_eq_true f1] at HF1
  by_cases f2 : Fwb L n
  rotate_left 1
  · rw [decide_eq_false f2] at HF2
    go_enter Tryz.func5, Tryz.ntmps5
    go_wp2_with fail
    refine HF1.out.mono ?_
    rintro e w1 ⟨rfl, hb1⟩
    have HB1 := hid (HB0.out.trans (hb1.mono HB0.out.size))
    clear hb1
    go_wp2_with fail
    refine (HF2.out _ HB1.out).mono ?_
    rintro e w1' ⟨rfl, rfl⟩
    go_wp2_with fail
    refine (HK.out _ HB1.out).mono ?_
    rintro e w2 ⟨rfl, hb2⟩
    have HB2 := hid (HB1.out.trans (hb2.mono HB1.out.size))
    clear hb2
    go_wp2_with fail
    go_ret
    exact ⟨rfl, HB2.out⟩
  rw [decide_eq_true f2] at HF2
  have HSZ := hid f1.sz
  have HFW := hid f2
  clear f1 f2
  go_enter Tryz.func5, Tryz.ntmps5
  go_wp2_with fail
  refine HF1.out.mono ?_
  rintro e w1 ⟨rfl, hb1⟩
  have HB1 := hid (HB0.out.trans (hb1.mono HB0.out.size))
  have HX1 := hid (HX.out.below hb1 HX.out.lt)
  clear hb1 HX HB0 HF1
  go_wp2_with fail
  refine (HF2.out _ HB1.out).mono ?_
  rintro e w1' ⟨rfl, rfl⟩
  clear HF2
  go_wp2_with fail
  refine (HM.out _).mono ?_
  rintro e w3 ⟨rfl, htab, hb3⟩
  have HX3 := hid (HX1.out.below hb3 HX1.out.lt)
  have HB3 := hid (HB1.out.trans (hb3.mono HB1.out.size))
  have HTA3 := hid htab
  clear hb3 htab HX1 HB1 HM
  have x0 := HX3.out.c0
  have x1 := HX3.out.c1
  have x2 := HX3.out.c2
  have x3 := HX3.out.c3
  have x4 := HX3.out.c4
  have x5 := HX3.out.c5
  rw [HIK.out] at x0 x1 x2 x3 x4 x5
  go_wp2_with fail
  obtain ⟨E, hE⟩ : ∃ E, bdE iw T len L n = E := ⟨_, rfl⟩
  obtain ⟨R, hR⟩ : ∃ R, bdB iw T len L n s = R := ⟨_, rfl⟩
  have HBC := hid (HBD.out w3 _ HTA3.out HB3.out HSZ.out HFW.out)
  rw [hE, hR, HIV.out] at HBC
  refine HBC.out.mono ?_
  rintro e w4 ⟨ao, ca, rfl, hby, hcl, hnn, hnw, hb4⟩
  have HX4 := hid (HX3.out.below hb4 HX3.out.lt)
  have HB4 := hid (HB3.out.trans (hb4.mono HB3.out.size))
  have HTA4 := hid (HTA3.out.keep (hb4.block _ HTA3.out.lt))
  have HBY4 := hid hby
  have HCL := hid (And.intro hcl hnn)
  have HNW := hid (show ∀ q, blk ao = some q → w.heap.size ≤ q from fun q hq => Nat.le_trans HB3.out.size (hnw q hq))
  clear hby hcl hnn hnw hb4 HBC HX3 HB3 HTA3 HBD x0 x1 x2 x3 x4 x5
  by_cases hE0 : E = 0
  rotate_left 1
  · have hRn : R = [] := by rw [← hR]; unfold bdB; rw [if_neg (by rw [hE]; exact hE0)]
    subst hRn
    have hE' : (E != 0) = true := bne_iff_ne.2 hE0
    go_wp2_with fail
    refine (HK.out w4 HB4.out).mono ?_
    rintro e w5 ⟨rfl, hb5⟩
    have HB5 := hid (HB4.out.trans (hb5.mono HB4.out.size))
    clear hb5
    go_wp2_with fail
    go_ret
    exact ⟨rfl, HB5.out⟩
  subst hE0
  have hpl : (Tg.pby (Tg.lst T len)).length ≤ 4210823 := by
    rw [pby_len]
    have := Tg.tbs_lst_le (bd_ok hE).2.1 len (Nat.le_refl _)
    omega
  have hpre : (bpre iw T len).length ≤ 4210842 := by rw [bpre_len]; omega
  have hfl : (flat L n).length ≤ 3600 := fwb_flat HFW.out (Nat.le_refl _)
  have hn12 : n ≤ 12 := HFW.out.1
  have hat : (bpre iw T len).length + (flat L n).length ≤ 1099511627776 := by omega
  have hRl : R.length ≤ 1073741824 := by
    rw [← hR]
    unfold bdB
    rw [if_pos hE, ← bpre_len iw T len]
    show (bpre iw T len ++ flat L n ++ _).length ≤ _
    rw [List.length_append, List.length_append, Tl.tby_len, bst_P]
    omega
  have HPA := hid (parse_any HTA4.out (HTT.out.keep HB4.out) HBY4.out rfl HCL.out.1 (fun e => (HCL.out.2 e).2) hRl)
  have HBO := hid (fun w' e (hp : ParseP w4 R 63 e w') => bkp_of (w := w4) (w' := w') (e := e) hE hs hat (by omega) (by rw [hR]; exact hp))
  have HEB := hid hE
  have HRB := hid hR
  have HAT := hid hat
  have HRL := hid hRl
  have HN12 := hid hn12
  clear hpl hpre hfl hat hRl hE hR hn12
  go_wp2_with fail
  refine HPA.out.mono ?_
  rintro e w5 hp
  obtain ⟨hb5, a1, c1, a2, c2, X, a3, c3, rfl, hk⟩ := HBO.out w5 e hp
  obtain ⟨ct, hct'⟩ : ∃ ct, (bst iw L (bpre iw T len).length n).c = ct := ⟨_, rfl⟩
  rw [hct']
  have hv : fcl iw a1 len c1 a2 n c2 ct s a3 n c3 = #[.int .i64 ik, .int .i64 ich, .int .i64 ibits, .int .i64 irate, .int .i64 ibk, .int .i64 ish, .slice a1 len c1, .slice a2 n c2, .int .i64 ct, .int .u32 (s : Int), .slice a3 n c3] := by rw [HIK.out]
  rw [hv]
  have HX5 := hid (HX4.out.below hb5 HX4.out.lt)
  have HB5 := hid (HB4.out.trans (hb5.mono HB4.out.size))
  have HTA5 := hid (HTA4.out.keep (hb5.block _ HTA4.out.lt))
  have HBY5 := hid (HBY4.out.keep hb5)
  have HBK5 := hid hk
  clear hp hb5 hk hv hct' HPA HBO HX4 HB4 HTA4 HBY4
  have HAN := hid (cells_fz45 w5)
  have hb6 : Below w5.heap.size w5 ((w5.alloc (.cells #[.int .i64 0, .int .i64 0, .int .i64 0, .int .i64 0, .int .i64 0, .int .i64 0, .slice none 0 0, .slice none 0 0, .int .i64 0, .int .u32 0, .slice none 0 0] 45)).setRow w5.heap.size #[.int .i64 ik, .int .i64 ich, .int .i64 ibits, .int .i64 irate, .int .i64 ibk, .int .i64 ish, .slice a1 len c1, .slice a2 n c2, .int .i64 ct, .int .u32 (s : Int), .slice a3 n c3]) := Inf.fr_rowBelow (Inf.below_new w5 _) (Nat.le_refl _)
  have HV6 := hid (setRow_heap (w5.alloc (.cells #[.int .i64 0, .int .i64 0, .int .i64 0, .int .i64 0, .int .i64 0, .int .i64 0, .slice none 0 0, .slice none 0 0, .int .i64 0, .int .u32 0, .slice none 0 0] 45)) w5.heap.size #[.int .i64 0, .int .i64 0, .int .i64 0, .int .i64 0, .int .i64 0, .int .i64 0, .slice none 0 0, .slice none 0 0, .int .i64 0, .int .u32 0, .slice none 0 0] #[.int .i64 ik, .int .i64 ich, .int .i64 ibits, .int .i64 irate, .int .i64 ibk, .int .i64 ish, .slice a1 len c1, .slice a2 n c2, .int .i64 ct, .int .u32 (s : Int), .slice a3 n c3] 45 (0, 0) HAN.out)
  have HX6 := hid (HX5.out.below hb6 HX5.out.lt)
  have HB6 := hid (HB5.out.trans (hb6.mono HB5.out.size))
  have HTA6 := hid (HTA5.out.keep (hb6.block _ HTA5.out.lt))
  have HBY6 := hid (HBY5.out.keep hb6)
  have HBK6 := hid (HBK5.out.keep hb6)
  clear hb6 HX5 HB5 HTA5 HBY5 HBK5
  generalize w4.heap.size = B6 at *
  have y0 : ((w5.alloc (.cells #[.int .i64 0, .int .i64 0, .int .i64 0, .int .i64 0, .int .i64 0, .int .i64 0, .slice none 0 0, .slice none 0 0, .int .i64 0, .int .u32 0, .slice none 0 0] 45)).setRow w5.heap.size #[.int .i64 ik, .int .i64 ich, .int .i64 ibits, .int .i64 irate, .int .i64 ibk, .int .i64 ish, .slice a1 len c1, .slice a2 n c2, .int .i64 ct, .int .u32 (s : Int), .slice a3 n c3]).cell? ⟨w5.heap.size, 0, none⟩ = some (.int .i64 ik) := Inf.row_cell HV6.out 0 rfl
  have y1 : ((w5.alloc (.cells #[.int .i64 0, .int .i64 0, .int .i64 0, .int .i64 0, .int .i64 0, .int .i64 0, .slice none 0 0, .slice none 0 0, .int .i64 0, .int .u32 0, .slice none 0 0] 45)).setRow w5.heap.size #[.int .i64 ik, .int .i64 ich, .int .i64 ibits, .int .i64 irate, .int .i64 ibk, .int .i64 ish, .slice a1 len c1, .slice a2 n c2, .int .i64 ct, .int .u32 (s : Int), .slice a3 n c3]).cell? ⟨w5.heap.size, 1, none⟩ = some (.int .i64 ich) := Inf.row_cell HV6.out 1 rfl
  have y2 : ((w5.alloc (.cells #[.int .i64 0, .int .i64 0, .int .i64 0, .int .i64 0, .int .i64 0, .int .i64 0, .slice none 0 0, .slice none 0 0, .int .i64 0, .int .u32 0, .slice none 0 0] 45)).setRow w5.heap.size #[.int .i64 ik, .int .i64 ich, .int .i64 ibits, .int .i64 irate, .int .i64 ibk, .int .i64 ish, .slice a1 len c1, .slice a2 n c2, .int .i64 ct, .int .u32 (s : Int), .slice a3 n c3]).cell? ⟨w5.heap.size, 2, none⟩ = some (.int .i64 ibits) := Inf.row_cell HV6.out 2 rfl
  have y3 : ((w5.alloc (.cells #[.int .i64 0, .int .i64 0, .int .i64 0, .int .i64 0, .int .i64 0, .int .i64 0, .slice none 0 0, .slice none 0 0, .int .i64 0, .int .u32 0, .slice none 0 0] 45)).setRow w5.heap.size #[.int .i64 ik, .int .i64 ich, .int .i64 ibits, .int .i64 irate, .int .i64 ibk, .int .i64 ish, .slice a1 len c1, .slice a2 n c2, .int .i64 ct, .int .u32 (s : Int), .slice a3 n c3]).cell? ⟨w5.heap.size, 3, none⟩ = some (.int .i64 irate) := Inf.row_cell HV6.out 3 rfl
  have y4 : ((w5.alloc (.cells #[.int .i64 0, .int .i64 0, .int .i64 0, .int .i64 0, .int .i64 0, .int .i64 0, .slice none 0 0, .slice none 0 0, .int .i64 0, .int .u32 0, .slice none 0 0] 45)).setRow w5.heap.size #[.int .i64 ik, .int .i64 ich, .int .i64 ibits, .int .i64 irate, .int .i64 ibk, .int .i64 ish, .slice a1 len c1, .slice a2 n c2, .int .i64 ct, .int .u32 (s : Int), .slice a3 n c3]).cell? ⟨w5.heap.size, 4, none⟩ = some (.int .i64 ibk) := Inf.row_cell HV6.out 4 rfl
  have y5 : ((w5.alloc (.cells #[.int .i64 0, .int .i64 0, .int .i64 0, .int .i64 0, .int .i64 0, .int .i64 0, .slice none 0 0, .slice none 0 0, .int .i64 0, .int .u32 0, .slice none 0 0] 45)).setRow w5.heap.size #[.int .i64 ik, .int .i64 ich, .int .i64 ibits, .int .i64 irate, .int .i64 ibk, .int .i64 ish, .slice a1 len c1, .slice a2 n c2, .int .i64 ct, .int .u32 (s : Int), .slice a3 n c3]).cell? ⟨w5.heap.size, 5, none⟩ = some (.int .i64 ish) := Inf.row_cell HV6.out 5 rfl
  have y6 : ((w5.alloc (.cells #[.int .i64 0, .int .i64 0, .int .i64 0, .int .i64 0, .int .i64 0, .int .i64 0, .slice none 0 0, .slice none 0 0, .int .i64 0, .int .u32 0, .slice none 0 0] 45)).setRow w5.heap.size #[.int .i64 ik, .int .i64 ich, .int .i64 ibits, .int .i64 irate, .int .i64 ibk, .int .i64 ish, .slice a1 len c1, .slice a2 n c2, .int .i64 ct, .int .u32 (s : Int), .slice a3 n c3]).cell? ⟨w5.heap.size, 6, none⟩ = some (.slice a1 len c1) := Inf.row_cell HV6.out 6 rfl
  have y7 : ((w5.alloc (.cells #[.int .i64 0, .int .i64 0, .int .i64 0, .int .i64 0, .int .i64 0, .int .i64 0, .slice none 0 0, .slice none 0 0, .int .i64 0, .int .u32 0, .slice none 0 0] 45)).setRow w5.heap.size #[.int .i64 ik, .int .i64 ich, .int .i64 ibits, .int .i64 irate, .int .i64 ibk, .int .i64 ish, .slice a1 len c1, .slice a2 n c2, .int .i64 ct, .int .u32 (s : Int), .slice a3 n c3]).cell? ⟨w5.heap.size, 7, none⟩ = some (.slice a2 n c2) := Inf.row_cell HV6.out 7 rfl
  have y8 : ((w5.alloc (.cells #[.int .i64 0, .int .i64 0, .int .i64 0, .int .i64 0, .int .i64 0, .int .i64 0, .slice none 0 0, .slice none 0 0, .int .i64 0, .int .u32 0, .slice none 0 0] 45)).setRow w5.heap.size #[.int .i64 ik, .int .i64 ich, .int .i64 ibits, .int .i64 irate, .int .i64 ibk, .int .i64 ish, .slice a1 len c1, .slice a2 n c2, .int .i64 ct, .int .u32 (s : Int), .slice a3 n c3]).cell? ⟨w5.heap.size, 8, none⟩ = some (.int .i64 ct) := Inf.row_cell HV6.out 8 rfl
  have y9 : ((w5.alloc (.cells #[.int .i64 0, .int .i64 0, .int .i64 0, .int .i64 0, .int .i64 0, .int .i64 0, .slice none 0 0, .slice none 0 0, .int .i64 0, .int .u32 0, .slice none 0 0] 45)).setRow w5.heap.size #[.int .i64 ik, .int .i64 ich, .int .i64 ibits, .int .i64 irate, .int .i64 ibk, .int .i64 ish, .slice a1 len c1, .slice a2 n c2, .int .i64 ct, .int .u32 (s : Int), .slice a3 n c3]).cell? ⟨w5.heap.size, 9, none⟩ = some (.int .u32 (s : Int)) := Inf.row_cell HV6.out 9 rfl
  have y10 : ((w5.alloc (.cells #[.int .i64 0, .int .i64 0, .int .i64 0, .int .i64 0, .int .i64 0, .int .i64 0, .slice none 0 0, .slice none 0 0, .int .i64 0, .int .u32 0, .slice none 0 0] 45)).setRow w5.heap.size #[.int .i64 ik, .int .i64 ich, .int .i64 ibits, .int .i64 irate, .int .i64 ibk, .int .i64 ish, .slice a1 len c1, .slice a2 n c2, .int .i64 ct, .int .u32 (s : Int), .slice a3 n c3]).cell? ⟨w5.heap.size, 10, none⟩ = some (.slice a3 n c3) := Inf.row_cell HV6.out 10 rfl
  have x0 : ((w5.alloc (.cells #[.int .i64 0, .int .i64 0, .int .i64 0, .int .i64 0, .int .i64 0, .int .i64 0, .slice none 0 0, .slice none 0 0, .int .i64 0, .int .u32 0, .slice none 0 0] 45)).setRow w5.heap.size #[.int .i64 ik, .int .i64 ich, .int .i64 ibits, .int .i64 irate, .int .i64 ibk, .int .i64 ish, .slice a1 len c1, .slice a2 n c2, .int .i64 ct, .int .u32 (s : Int), .slice a3 n c3]).cell? ⟨w.heap.size, 0, none⟩ = some (.int .i64 ik) := by rw [HX6.out.c0, HIK.out]
  have x1 : ((w5.alloc (.cells #[.int .i64 0, .int .i64 0, .int .i64 0, .int .i64 0, .int .i64 0, .int .i64 0, .slice none 0 0, .slice none 0 0, .int .i64 0, .int .u32 0, .slice none 0 0] 45)).setRow w5.heap.size #[.int .i64 ik, .int .i64 ich, .int .i64 ibits, .int .i64 irate, .int .i64 ibk, .int .i64 ish, .slice a1 len c1, .slice a2 n c2, .int .i64 ct, .int .u32 (s : Int), .slice a3 n c3]).cell? ⟨w.heap.size, 1, none⟩ = some (.int .i64 ich) := by rw [HX6.out.c1, HIK.out]
  have x2 : ((w5.alloc (.cells #[.int .i64 0, .int .i64 0, .int .i64 0, .int .i64 0, .int .i64 0, .int .i64 0, .slice none 0 0, .slice none 0 0, .int .i64 0, .int .u32 0, .slice none 0 0] 45)).setRow w5.heap.size #[.int .i64 ik, .int .i64 ich, .int .i64 ibits, .int .i64 irate, .int .i64 ibk, .int .i64 ish, .slice a1 len c1, .slice a2 n c2, .int .i64 ct, .int .u32 (s : Int), .slice a3 n c3]).cell? ⟨w.heap.size, 2, none⟩ = some (.int .i64 ibits) := by rw [HX6.out.c2, HIK.out]
  have x3 : ((w5.alloc (.cells #[.int .i64 0, .int .i64 0, .int .i64 0, .int .i64 0, .int .i64 0, .int .i64 0, .slice none 0 0, .slice none 0 0, .int .i64 0, .int .u32 0, .slice none 0 0] 45)).setRow w5.heap.size #[.int .i64 ik, .int .i64 ich, .int .i64 ibits, .int .i64 irate, .int .i64 ibk, .int .i64 ish, .slice a1 len c1, .slice a2 n c2, .int .i64 ct, .int .u32 (s : Int), .slice a3 n c3]).cell? ⟨w.heap.size, 3, none⟩ = some (.int .i64 irate) := by rw [HX6.out.c3, HIK.out]
  have x4 : ((w5.alloc (.cells #[.int .i64 0, .int .i64 0, .int .i64 0, .int .i64 0, .int .i64 0, .int .i64 0, .slice none 0 0, .slice none 0 0, .int .i64 0, .int .u32 0, .slice none 0 0] 45)).setRow w5.heap.size #[.int .i64 ik, .int .i64 ich, .int .i64 ibits, .int .i64 irate, .int .i64 ibk, .int .i64 ish, .slice a1 len c1, .slice a2 n c2, .int .i64 ct, .int .u32 (s : Int), .slice a3 n c3]).cell? ⟨w.heap.size, 4, none⟩ = some (.int .i64 ibk) := by rw [HX6.out.c4, HIK.out]
  have x5 : ((w5.alloc (.cells #[.int .i64 0, .int .i64 0, .int .i64 0, .int .i64 0, .int .i64 0, .int .i64 0, .slice none 0 0, .slice none 0 0, .int .i64 0, .int .u32 0, .slice none 0 0] 45)).setRow w5.heap.size #[.int .i64 ik, .int .i64 ich, .int .i64 ibits, .int .i64 irate, .int .i64 ibk, .int .i64 ish, .slice a1 len c1, .slice a2 n c2, .int .i64 ct, .int .u32 (s : Int), .slice a3 n c3]).cell? ⟨w.heap.size, 5, none⟩ = some (.int .i64 ish) := by rw [HX6.out.c5, HIK.out]
  go_wp2_with (refine wpList_store_row rfl 45 _ _ rfl w5.heap.size #[.int .i64 ik, .int .i64 ich, .int .i64 ibits, .int .i64 irate, .int .i64 ibk, .int .i64 ish, .slice a1 len c1, .slice a2 n c2, .int .i64 ct, .int .u32 (s : Int), .slice a3 n c3] rfl rfl 45 #[.int .i64 0, .int .i64 0, .int .i64 0, .int .i64 0, .int .i64 0, .int .i64 0, .slice none 0 0, .slice none 0 0, .int .i64 0, .int .u32 0, .slice none 0 0] HAN.out size45 rfl (by simp [Value.oneCell']) ?_)
  clear HAN
  generalize ((w5.alloc (.cells #[.int .i64 0, .int .i64 0, .int .i64 0, .int .i64 0, .int .i64 0, .int .i64 0, .slice none 0 0, .slice none 0 0, .int .i64 0, .int .u32 0, .slice none 0 0] 45)).setRow w5.heap.size #[.int .i64 ik, .int .i64 ich, .int .i64 ibits, .int .i64 irate, .int .i64 ibk, .int .i64 ish, .slice a1 len c1, .slice a2 n c2, .int .i64 ct, .int .u32 (s : Int), .slice a3 n c3]) = w6 at *
  generalize w5.heap.size = g6 at *
  refine (HBK6.out.same (HTB.out.keep HB6.out) HSZ.out.n capt).mono ?_
  rintro e w7 ⟨rfl, hb7⟩
  have HV7 := hid ((hb7.block _ (World.block_lt_of_cell? _ _ y0)).trans HV6.out)
  have HB7 := hid (HB6.out.trans (hb7.mono HB6.out.size))
  have HTA7 := hid (HTA6.out.keep (hb7.block _ HTA6.out.lt))
  have HBY7 := hid (HBY6.out.keep hb7)
  have HBK7 := hid (HBK6.out.keep hb7)
  clear hb7 x0 x1 x2 x3 x4 x5 y0 y1 y2 y3 y4 y5 y6 y7 y8 y9 y10 HX6 HB6 HTA6 HBY6 HBK6 HV6
  have y0 : w7.cell? ⟨g6, 0, none⟩ = some (.int .i64 ik) := Inf.row_cell HV7.out 0 rfl
  have y1 : w7.cell? ⟨g6, 1, none⟩ = some (.int .i64 ich) := Inf.row_cell HV7.out 1 rfl
  have y2 : w7.cell? ⟨g6, 2, none⟩ = some (.int .i64 ibits) := Inf.row_cell HV7.out 2 rfl
  have y3 : w7.cell? ⟨g6, 3, none⟩ = some (.int .i64 irate) := Inf.row_cell HV7.out 3 rfl
  have y4 : w7.cell? ⟨g6, 4, none⟩ = some (.int .i64 ibk) := Inf.row_cell HV7.out 4 rfl
  have y5 : w7.cell? ⟨g6, 5, none⟩ = some (.int .i64 ish) := Inf.row_cell HV7.out 5 rfl
  have y6 : w7.cell? ⟨g6, 6, none⟩ = some (.slice a1 len c1) := Inf.row_cell HV7.out 6 rfl
  have y7 : w7.cell? ⟨g6, 7, none⟩ = some (.slice a2 n c2) := Inf.row_cell HV7.out 7 rfl
  have y8 : w7.cell? ⟨g6, 8, none⟩ = some (.int .i64 ct) := Inf.row_cell HV7.out 8 rfl
  have y9 : w7.cell? ⟨g6, 9, none⟩ = some (.int .u32 (s : Int)) := Inf.row_cell HV7.out 9 rfl
  have y10 : w7.cell? ⟨g6, 10, none⟩ = some (.slice a3 n c3) := Inf.row_cell HV7.out 10 rfl
  go_wp2_with fail
  clear y0 y1 y2 y3 y4 y5 y6 y7 y8 y9 y10
  go_loopg [14, 15] n (fun gh vg vk wr => ∃ (k : Nat) (aa : Option Addr) (cg : Nat) (vs : List Value), k ≤ n ∧ gh = n - k ∧ vg = .slice aa k cg ∧ vk = .int .i64 (k : Int) ∧ Ag wr w7.heap.size aa cg k L vs ∧ Below w7.heap.size w7 wr)
  case atStart => exact ⟨0, none, 0, [], Nat.zero_le _, rfl, rfl, rfl, Ag.nil _ _ _, Below.refl _ _⟩
  case round =>
    obtain ⟨k, aa, cg, vs, hk, hgh, rfl, rfl, hag, hbel⟩ := hrel
    have HG := hid hgh
    have HAG := hid hag
    have HBL := hid hbel
    have HVR := hid ((hbel.block _ (World.block_lt_of_cell? _ _ (Inf.row_cell HV7.out 0 rfl))).trans HV7.out)
    have HBR := hid (HB7.out.trans (hbel.mono HB7.out.size))
    have HTAR := hid (HTA7.out.keep (hbel.block _ HTA7.out.lt))
    have HBYR := hid (HBY7.out.keep hbel)
    have HBKR := hid (HBK7.out.keep hbel)
    clear hgh hag hbel
    have y7 : wr.cell? ⟨g6, 7, none⟩ = some (.slice a2 n c2) := Inf.row_cell HVR.out 7 rfl
    by_cases hlt : k < n
    rotate_left 1
    · obtain rfl : k = n := by omega
      have hkf : ¬ (k : Int) < (k : Int) := by omega
      have y0 : wr.cell? ⟨g6, 0, none⟩ = some (.int .i64 ik) := Inf.row_cell HVR.out 0 rfl
      have y1 : wr.cell? ⟨g6, 1, none⟩ = some (.int .i64 ich) := Inf.row_cell HVR.out 1 rfl
      have y2 : wr.cell? ⟨g6, 2, none⟩ = some (.int .i64 ibits) := Inf.row_cell HVR.out 2 rfl
      have y3 : wr.cell? ⟨g6, 3, none⟩ = some (.int .i64 irate) := Inf.row_cell HVR.out 3 rfl
      have y4 : wr.cell? ⟨g6, 4, none⟩ = some (.int .i64 ibk) := Inf.row_cell HVR.out 4 rfl
      have y5 : wr.cell? ⟨g6, 5, none⟩ = some (.int .i64 ish) := Inf.row_cell HVR.out 5 rfl
      have y6 : wr.cell? ⟨g6, 6, none⟩ = some (.slice a1 len c1) := Inf.row_cell HVR.out 6 rfl
      have y9 : wr.cell? ⟨g6, 9, none⟩ = some (.int .u32 (s : Int)) := Inf.row_cell HVR.out 9 rfl
      have HAN := hid (HBKR.out.again HTAR.out (HTT.out.keep HBR.out) HSZ.out HFW.out hs HAG.out)
      rw [HEB.out, HRB.out, HIV.out] at HAN
      go_wp2_with fail
      refine HAN.out.mono ?_
      rintro e w8 ⟨ad, cd, rfl, hby8, _, _, _, hb8⟩
      have HB8 := hid (HBR.out.trans (hb8.mono HBR.out.size))
      have cv1 := hby8.conv cd
      have cv2 := (HBYR.out.keep hb8).conv ca
      clear hby8 hb8 y0 y1 y2 y3 y4 y5 y6 y7 y9
      generalize R.length = RL at *
      go_wp2_with fail
      refine (HK.out w8 HB8.out).mono ?_
      rintro e w9 ⟨rfl, hb9⟩
      have HB9 := hid (HB8.out.trans (hb9.mono HB8.out.size))
      clear hb9
      go_wp2_with fail
      go_ret
      exact ⟨rfl, HB9.out⟩
    have hlt2 : (k : Int) < (n : Int) := by omega
    obtain ⟨x, hx⟩ : ∃ x, X[k]? = some x := ⟨_, List.getElem?_eq_getElem (by rw [HBKR.out.xn]; exact hlt)⟩
    obtain ⟨g, rfl, hcx⟩ := HBKR.out.bo.c k x hx
    have HCX := hid hcx
    have HXQ := hid (HBKR.out.x k x hx)
    have hk1 : wrap64 ((k : Int) + 1) = (k : Int) + 1 := wr_4 (by have := HN12.out; omega)
    clear hcx hx
    obtain ⟨xh, xa, xn, xc, xs, xat⟩ := x
    obtain ⟨q1, q2, q3, q4, q5⟩ := HXQ.out
    dsimp only at q1 q2 q3 q4 q5
    obtain ⟨ho, hlk, hle, htk, _⟩ := back_blk (s := s) HEB.out HAT.out hlt
    rw [HRB.out] at hle htk
    obtain ⟨bp, bcap, hbc, hbp, hbl⟩ := HBB.out.c k hlt
    have HSL := hid fun (w' : World) (hb' : Below wr.heap.size wr w') => Head.seal_back (w := w') (cap := xc) hbp.lt ho hlk (q3.keep hb')
    rw [← q5] at hle htk
    rw [← q1, ← q2, ← q4] at HSL
    have HBC := hid hbc
    have HBP := hid hbp
    have HLE := hid (And.intro hle htk)
    have h36 : 36 ≤ (L k).length := by omega
    have hl300 : (L k).length ≤ 300 := HFW.out.2 k hlt
    clear q1 q2 q3 q4 q5 ho hlk hle htk hbc hbp hbl HXQ
    go_wp2_with fail
    have HTT1 : Hid (∀ l, Pcm.Till (fun w' => Below wr.heap.size wr w') (fun _ => True) 99 l wr.drew) := hid fun l => ⟨(Below.refl _ _).drew, fun _ => trivial⟩
    refine Pcm.region_T (T := Pcm.Till (fun w' => Below wr.heap.size wr w') (fun _ => True) 99) (by kernel_rfl) ?_
    refine Pcm.take_1 (i := 0) (oi := ({ dst := some 92, op := Op.fieldAddr 45 (Operand.tmp 12) 2, type := 0, pos := _, after := #[], guard := none } : Oper)) (v := .pointer (some ⟨g6, 7, none⟩)) rfl (by kernel_rfl) (by kernel_rfl) (by kernel_rfl) (by decide) (fun _ _ _ h => h) (HTT1.out _) (.inl ⟨by rfl, fun w' hSw => ?_⟩) ?_
    · (try dsimp only at hSw)
      go_simp
    (try simp only [Act.put, List.setIfInBounds_toArray, List.set_cons_zero, List.set_cons_succ])
    refine Pcm.take_1 (i := 1) (oi := ({ dst := some 93, op := Op.load 40 (Operand.tmp 92), type := 40, pos := _, after := #[{ on := 0, ground := Ground.data }], guard := none } : Oper)) (v := .slice (some ⟨g, 0, none⟩) n c2) rfl (by kernel_rfl) (by kernel_rfl) (by kernel_rfl) (by decide) (fun _ _ _ h => h) (HTT1.out _) (.inl ⟨by rfl, fun w' hSw => ?_⟩) ?_
    · (try dsimp only at hSw)
      have cc := (hSw.cell (p := ⟨g6, 7, none⟩) (World.block_lt_of_cell? _ _ y7)).trans y7
      clear hSw
      go_simp
    (try simp only [Act.put, List.setIfInBounds_toArray, List.set_cons_zero, List.set_cons_succ])
    refine Pcm.take_1 (i := 2) (oi := ({ dst := some 94, op := Op.move (Operand.tmp 15), type := 3, pos := _, after := #[], guard := none } : Oper)) (v := .int .i64 (k : Int)) rfl (by kernel_rfl) (by kernel_rfl) (by kernel_rfl) (by decide) (fun _ _ _ h => h) (HTT1.out _) (.inl ⟨by rfl, fun w' hSw => ?_⟩) ?_
    · (try dsimp only at hSw)
      go_simp
    (try simp only [Act.put, List.setIfInBounds_toArray, List.set_cons_zero, List.set_cons_succ])
    refine Pcm.take_1 (i := 3) (oi := ({ dst := some 95, op := Op.indexAddr 40 (Operand.tmp 93) (Operand.tmp 94), type := 0, pos := _, after := #[{ on := 1, ground := Ground.data }, { on := 2, ground := Ground.data }], guard := none } : Oper)) (v := .pointer (some ⟨g, k * 11, none⟩)) rfl (by kernel_rfl) (by kernel_rfl) (by kernel_rfl) (by decide) (fun _ _ _ h => h) (HTT1.out _) (.inl ⟨by rfl, fun w' hSw => ?_⟩) ?_
    · (try dsimp only at hSw)
      go_simp
    (try simp only [Act.put, List.setIfInBounds_toArray, List.set_cons_zero, List.set_cons_succ])
    refine Pcm.take_1 (i := 4) (oi := ({ dst := some 96, op := Op.fieldAddr 63 (Operand.tmp 95) 0, type := 0, pos := _, after := #[{ on := 3, ground := Ground.data }], guard := none } : Oper)) (v := .pointer (some ⟨g, k * 11, none⟩)) rfl (by kernel_rfl) (by kernel_rfl) (by kernel_rfl) (by decide) (fun _ _ _ h => h) (HTT1.out _) (.inl ⟨by rfl, fun w' hSw => ?_⟩) ?_
    · (try dsimp only at hSw)
      go_simp
    (try simp only [Act.put, List.setIfInBounds_toArray, List.set_cons_zero, List.set_cons_succ])
    refine Pcm.take_1 (i := 5) (oi := ({ dst := some 97, op := Op.load 61 (Operand.tmp 96), type := 61, pos := _, after := #[{ on := 4, ground := Ground.data }], guard := none } : Oper)) (v := .agg #[.int .i64 xh.k, .int .i64 xh.ix, .int .i64 xh.ln, .int .i64 xh.st, .int .i64 xh.bd, .bool xh.la, .int .u32 (xh.lk : Int), .int .i64 xh.sz]) rfl (by kernel_rfl) (by kernel_rfl) (by kernel_rfl) (by decide) (fun _ _ _ h => h) (HTT1.out _) (.inl ⟨by rfl, fun w' hSw => ?_⟩) ?_
    · (try dsimp only at hSw)
      have f0 : w'.cell? ⟨g, k * 11, none⟩ = some (.int .i64 xh.k) := (hSw.cell (p := ⟨g, k * 11, none⟩) (World.block_lt_of_cell? _ _ (HCX.out 0 _ rfl))).trans (HCX.out 0 _ rfl)
      have f1 : w'.cell? ⟨g, k * 11 + 1, none⟩ = some (.int .i64 xh.ix) := (hSw.cell (p := ⟨g, k * 11 + 1, none⟩) (World.block_lt_of_cell? _ _ (HCX.out 1 _ rfl))).trans (HCX.out 1 _ rfl)
      have f2 : w'.cell? ⟨g, k * 11 + 2, none⟩ = some (.int .i64 xh.ln) := (hSw.cell (p := ⟨g, k * 11 + 2, none⟩) (World.block_lt_of_cell? _ _ (HCX.out 2 _ rfl))).trans (HCX.out 2 _ rfl)
      have f3 : w'.cell? ⟨g, k * 11 + 3, none⟩ = some (.int .i64 xh.st) := (hSw.cell (p := ⟨g, k * 11 + 3, none⟩) (World.block_lt_of_cell? _ _ (HCX.out 3 _ rfl))).trans (HCX.out 3 _ rfl)
      have f4 : w'.cell? ⟨g, k * 11 + 4, none⟩ = some (.int .i64 xh.bd) := (hSw.cell (p := ⟨g, k * 11 + 4, none⟩) (World.block_lt_of_cell? _ _ (HCX.out 4 _ rfl))).trans (HCX.out 4 _ rfl)
      have f5 : w'.cell? ⟨g, k * 11 + 5, none⟩ = some (.bool xh.la) := (hSw.cell (p := ⟨g, k * 11 + 5, none⟩) (World.block_lt_of_cell? _ _ (HCX.out 5 _ rfl))).trans (HCX.out 5 _ rfl)
      have f6 : w'.cell? ⟨g, k * 11 + 6, none⟩ = some (.int .u32 (xh.lk : Int)) := (hSw.cell (p := ⟨g, k * 11 + 6, none⟩) (World.block_lt_of_cell? _ _ (HCX.out 6 _ rfl))).trans (HCX.out 6 _ rfl)
      have f7 : w'.cell? ⟨g, k * 11 + 7, none⟩ = some (.int .i64 xh.sz) := (hSw.cell (p := ⟨g, k * 11 + 7, none⟩) (World.block_lt_of_cell? _ _ (HCX.out 7 _ rfl))).trans (HCX.out 7 _ rfl)
      clear hSw
      go_simp
    (try simp only [Act.put, List.setIfInBounds_toArray, List.set_cons_zero, List.set_cons_succ])
    refine Pcm.take_1 (i := 6) (oi := ({ dst := some 98, op := Op.fieldAddr 45 (Operand.tmp 12) 2, type := 0, pos := _, after := #[], guard := none } : Oper)) (v := .pointer (some ⟨g6, 7, none⟩)) rfl (by kernel_rfl) (by kernel_rfl) (by kernel_rfl) (by decide) (fun _ _ _ h => h) (HTT1.out _) (.inl ⟨by rfl, fun w' hSw => ?_⟩) ?_
    · (try dsimp only at hSw)
      go_simp
    (try simp only [Act.put, List.setIfInBounds_toArray, List.set_cons_zero, List.set_cons_succ])
    refine Pcm.take_1 (i := 7) (oi := ({ dst := some 99, op := Op.load 40 (Operand.tmp 98), type := 40, pos := _, after := #[{ on := 6, ground := Ground.data }], guard := none } : Oper)) (v := .slice (some ⟨g, 0, none⟩) n c2) rfl (by kernel_rfl) (by kernel_rfl) (by kernel_rfl) (by decide) (fun _ _ _ h => h) (HTT1.out _) (.inl ⟨by rfl, fun w' hSw => ?_⟩) ?_
    · (try dsimp only at hSw)
      have cc := (hSw.cell (p := ⟨g6, 7, none⟩) (World.block_lt_of_cell? _ _ y7)).trans y7
      clear hSw
      go_simp
    (try simp only [Act.put, List.setIfInBounds_toArray, List.set_cons_zero, List.set_cons_succ])
    refine Pcm.take_1 (i := 8) (oi := ({ dst := some 100, op := Op.move (Operand.tmp 15), type := 3, pos := _, after := #[], guard := none } : Oper)) (v := .int .i64 (k : Int)) rfl (by kernel_rfl) (by kernel_rfl) (by kernel_rfl) (by decide) (fun _ _ _ h => h) (HTT1.out _) (.inl ⟨by rfl, fun w' hSw => ?_⟩) ?_
    · (try dsimp only at hSw)
      go_simp
    (try simp only [Act.put, List.setIfInBounds_toArray, List.set_cons_zero, List.set_cons_succ])
    refine Pcm.take_1 (i := 9) (oi := ({ dst := some 101, op := Op.indexAddr 40 (Operand.tmp 99) (Operand.tmp 100), type := 0, pos := _, after := #[{ on := 7, ground := Ground.data }, { on := 8, ground := Ground.data }], guard := none } : Oper)) (v := .pointer (some ⟨g, k * 11, none⟩)) rfl (by kernel_rfl) (by kernel_rfl) (by kernel_rfl) (by decide) (fun _ _ _ h => h) (HTT1.out _) (.inl ⟨by rfl, fun w' hSw => ?_⟩) ?_
    · (try dsimp only at hSw)
      go_simp
    (try simp only [Act.put, List.setIfInBounds_toArray, List.set_cons_zero, List.set_cons_succ])
    refine Pcm.take_1 (i := 10) (oi := ({ dst := some 102, op := Op.fieldAddr 63 (Operand.tmp 101) 1, type := 0, pos := _, after := #[{ on := 9, ground := Ground.data }], guard := none } : Oper)) (v := .pointer (some ⟨g, k * 11 + 8, none⟩)) rfl (by kernel_rfl) (by kernel_rfl) (by kernel_rfl) (by decide) (fun _ _ _ h => h) (HTT1.out _) (.inl ⟨by rfl, fun w' hSw => ?_⟩) ?_
    · (try dsimp only at hSw)
      go_simp
    (try simp only [Act.put, List.setIfInBounds_toArray, List.set_cons_zero, List.set_cons_succ])
    refine Pcm.take_1 (i := 11) (oi := ({ dst := some 103, op := Op.load 32 (Operand.tmp 102), type := 32, pos := _, after := #[{ on := 10, ground := Ground.data }], guard := none } : Oper)) (v := .slice xa xn xc) rfl (by kernel_rfl) (by kernel_rfl) (by kernel_rfl) (by decide) (fun _ _ _ h => h) (HTT1.out _) (.inl ⟨by rfl, fun w' hSw => ?_⟩) ?_
    · (try dsimp only at hSw)
      have f8 : w'.cell? ⟨g, k * 11 + 8, none⟩ = some (.slice xa xn xc) := (hSw.cell (p := ⟨g, k * 11 + 8, none⟩) (World.block_lt_of_cell? _ _ (HCX.out 8 _ rfl))).trans (HCX.out 8 _ rfl)
      clear hSw
      go_simp
    (try simp only [Act.put, List.setIfInBounds_toArray, List.set_cons_zero, List.set_cons_succ])
    refine Pcm.anyT_one (i := 12) (o := ({ dst := some 104, op := Op.call { callee := Callee.value (Operand.func 18), args := #[Operand.tmp 97, Operand.tmp 103], argTypes := #[61, 32] }, type := 58, pos := _, after := #[{ on := 5, ground := Ground.data }, { on := 11, ground := Ground.data }], guard := none } : Oper)) (by kernel_rfl) rfl (fun K HK2 => ?_)
    go_simp
    refine (HSL.out _ (Below.refl _ _).drew).mono ?_
    rintro e w8 ⟨ac, cc, rfl, hnl⟩
    have HB8 := hid (show Below wr.heap.size wr w8 from (Below.refl _ _).drew.trans hnl.bel)
    have HNL := hid (And.intro hnl.byts (And.intro (own_le hnl.own) (show ∀ q, blk ac = some q → wr.heap.size ≤ q ∧ q < w8.heap.size from fun q hq => own_in hnl.own q hq)))
    refine HK2.out _ _ ⟨HB8.out, fun _ => trivial⟩ ?_
    have HTT2 : Hid (∀ l, Pcm.Till (fun w' => Below wr.heap.size wr w') (fun _ => True) 99 l w8) := hid fun l => ⟨HB8.out, fun _ => trivial⟩
    clear HK2 K hnl HTT1 HSL
    (try simp only [Act.put, List.setIfInBounds_toArray, List.set_cons_zero, List.set_cons_succ])
    refine Pcm.take_1 (i := 13) (oi := ({ dst := some 91, op := Op.move (Operand.tmp 104), type := 58, pos := _, after := #[{ on := 12, ground := Ground.data }], guard := none } : Oper)) (v := .tuple #[.slice ac (L k).length cc, .int .u32 (xs : Int), .int .i64 0]) rfl (by kernel_rfl) (by kernel_rfl) (by kernel_rfl) (by decide) (fun _ _ _ h => h) (HTT2.out _) (.inl ⟨by rfl, fun w' hSw => ?_⟩) ?_
    · (try dsimp only at hSw)
      go_simp
    (try simp only [Act.put, List.setIfInBounds_toArray, List.set_cons_zero, List.set_cons_succ])
    refine Pcm.take_1 (i := 14) (oi := ({ dst := some 105, op := Op.extract (Operand.tmp 91) 0, type := 32, pos := _, after := #[{ on := 13, ground := Ground.data }], guard := none } : Oper)) (v := .slice ac (L k).length cc) rfl (by kernel_rfl) (by kernel_rfl) (by kernel_rfl) (by decide) (fun _ _ _ h => h) (HTT2.out _) (.inl ⟨by rfl, fun w' hSw => ?_⟩) ?_
    · (try dsimp only at hSw)
      go_simp
    (try simp only [Act.put, List.setIfInBounds_toArray, List.set_cons_zero, List.set_cons_succ])
    refine Pcm.take_1 (i := 15) (oi := ({ dst := some 106, op := Op.extract (Operand.tmp 91) 1, type := 28, pos := _, after := #[{ on := 13, ground := Ground.data }, { on := 17, ground := Ground.gcOnly Departure.lateStores }], guard := none } : Oper)) (v := .int .u32 (xs : Int)) rfl (by kernel_rfl) (by kernel_rfl) (by kernel_rfl) (by decide) (fun _ _ _ h => h) (HTT2.out _) (.inl ⟨by rfl, fun w' hSw => ?_⟩) ?_
    · (try dsimp only at hSw)
      go_simp
    (try simp only [Act.put, List.setIfInBounds_toArray, List.set_cons_zero, List.set_cons_succ])
    refine Pcm.take_1 (i := 16) (oi := ({ dst := some 107, op := Op.extract (Operand.tmp 91) 2, type := 33, pos := _, after := #[{ on := 13, ground := Ground.data }, { on := 18, ground := Ground.gcOnly Departure.lateStores }], guard := none } : Oper)) (v := .int .i64 0) rfl (by kernel_rfl) (by kernel_rfl) (by kernel_rfl) (by decide) (fun _ _ _ h => h) (HTT2.out _) (.inl ⟨by rfl, fun w' hSw => ?_⟩) ?_
    · (try dsimp only at hSw)
      go_simp
    (try simp only [Act.put, List.setIfInBounds_toArray, List.set_cons_zero, List.set_cons_succ])
    refine Pcm.take_1 (i := 17) (oi := ({ dst := some 16, op := Op.assign (Operand.tmp 105), type := 32, pos := _, after := #[{ on := 14, ground := Ground.data }, { on := 12, ground := Ground.chain }, { on := 0, ground := Ground.phase }, { on := 1, ground := Ground.phase }, { on := 2, ground := Ground.phase }, { on := 3, ground := Ground.phase }, { on := 4, ground := Ground.phase }, { on := 5, ground := Ground.phase }, { on := 6, ground := Ground.phase }, { on := 7, ground := Ground.phase }, { on := 8, ground := Ground.phase }, { on := 9, ground := Ground.phase }, { on := 10, ground := Ground.phase }, { on := 11, ground := Ground.phase }, { on := 12, ground := Ground.phase }, { on := 13, ground := Ground.phase }, { on := 14, ground := Ground.phase }, { on := 15, ground := Ground.textOnly Departure.lateStores }, { on := 16, ground := Ground.textOnly Departure.lateStores }], guard := none } : Oper)) (v := .slice ac (L k).length cc) rfl (by kernel_rfl) (by kernel_rfl) (by kernel_rfl) (by decide) (fun _ _ _ h => h) (HTT2.out _) (.inl ⟨by rfl, fun w' hSw => ?_⟩) ?_
    · (try dsimp only at hSw)
      go_simp
    (try simp only [Act.put, List.setIfInBounds_toArray, List.set_cons_zero, List.set_cons_succ])
    refine Pcm.take_1 (i := 18) (oi := ({ dst := some 17, op := Op.assign (Operand.tmp 106), type := 28, pos := _, after := #[{ on := 15, ground := Ground.data }, { on := 17, ground := Ground.chain }, { on := 0, ground := Ground.phase }, { on := 1, ground := Ground.phase }, { on := 2, ground := Ground.phase }, { on := 3, ground := Ground.phase }, { on := 4, ground := Ground.phase }, { on := 5, ground := Ground.phase }, { on := 6, ground := Ground.phase }, { on := 7, ground := Ground.phase }, { on := 8, ground := Ground.phase }, { on := 9, ground := Ground.phase }, { on := 10, ground := Ground.phase }, { on := 11, ground := Ground.phase }, { on := 12, ground := Ground.phase }, { on := 13, ground := Ground.phase }, { on := 14, ground := Ground.phase }, { on := 15, ground := Ground.phase }, { on := 16, ground := Ground.textOnly Departure.lateStores }, { on := 17, ground := Ground.phase }], guard := none } : Oper)) (v := .int .u32 (xs : Int)) rfl (by kernel_rfl) (by kernel_rfl) (by kernel_rfl) (by decide) (fun _ _ _ h => h) (HTT2.out _) (.inl ⟨by rfl, fun w' hSw => ?_⟩) ?_
    · (try dsimp only at hSw)
      go_simp
    (try simp only [Act.put, List.setIfInBounds_toArray, List.set_cons_zero, List.set_cons_succ])
    refine Pcm.take_1 (i := 19) (oi := ({ dst := some 18, op := Op.assign (Operand.tmp 107), type := 33, pos := _, after := #[{ on := 16, ground := Ground.data }, { on := 18, ground := Ground.chain }, { on := 0, ground := Ground.phase }, { on := 1, ground := Ground.phase }, { on := 2, ground := Ground.phase }, { on := 3, ground := Ground.phase }, { on := 4, ground := Ground.phase }, { on := 5, ground := Ground.phase }, { on := 6, ground := Ground.phase }, { on := 7, ground := Ground.phase }, { on := 8, ground := Ground.phase }, { on := 9, ground := Ground.phase }, { on := 10, ground := Ground.phase }, { on := 11, ground := Ground.phase }, { on := 12, ground := Ground.phase }, { on := 13, ground := Ground.phase }, { on := 14, ground := Ground.phase }, { on := 15, ground := Ground.phase }, { on := 16, ground := Ground.phase }, { on := 17, ground := Ground.phase }, { on := 18, ground := Ground.phase }], guard := none } : Oper)) (v := .int .i64 0) rfl (by kernel_rfl) (by kernel_rfl) (by kernel_rfl) (by decide) (fun _ _ _ h => h) (HTT2.out _) (.inl ⟨by rfl, fun w' hSw => ?_⟩) ?_
    · (try dsimp only at hSw)
      go_simp
    (try simp only [Act.put, List.setIfInBounds_toArray, List.set_cons_zero, List.set_cons_succ])
    refine Pcm.anyT_done (by kernel_rfl) ?_ _
    have HVX := hid ((HB8.out.block _ (World.block_lt_of_cell? _ _ y7)).trans HVR.out)
    have HCX8 := hid (show ∀ (j : Nat) (u : Value), (bvl ⟨xh, xa, xn, xc, xs, xat⟩)[j]? = some u → w8.cell? ⟨g, k * 11 + j, none⟩ = some u from fun j u hu => (HB8.out.cell (p := ⟨g, k * 11 + j, none⟩) (World.block_lt_of_cell? _ _ (HCX.out j u hu))).trans (HCX.out j u hu))
    have HBB8 := hid (show w8.cell? ⟨bb, bo + k, none⟩ = some (.slice bp (L k).length bcap) from ((HBR.out.trans (HB8.out.mono HBR.out.size)).cell (p := ⟨bb, bo + k, none⟩) (World.block_lt_of_cell? _ _ HBC.out)).trans HBC.out)
    have HBP8 := hid (HBP.out.keep (HBR.out.trans (HB8.out.mono HBR.out.size)))
    have HBY8 := hid (HBYR.out.keep HB8.out)
    have HAG8 := hid (HAG.out.keep HB8.out)
    obtain ⟨rq, ro, rfl⟩ : ∃ rq ro, ao = some ⟨rq, ro, none⟩ := by
      obtain ⟨q, off, e, _⟩ := HBY8.out.at_ 0 _ (List.getElem?_eq_getElem (by have := HLE.out.1; omega))
      exact ⟨q, off, e⟩
    have habk : ab = some ⟨bb, bo, none⟩ := HBB.out.addr (by omega)
    subst habk
    have hsub := (HBY8.out.drop xat).take (L k).length
    rw [HLE.out.2] at hsub
    have HSUB := hid hsub
    clear hsub HTT2 HBC HBP HVR HCX y7
    go_wp2_with fail
    have z7 : w8.cell? ⟨g6, 7, none⟩ = some (.slice (some ⟨g, 0, none⟩) n c2) := Inf.row_cell HVX.out 7 rfl
    have e1 := HLE.out.1
    have e2 := HCL.out.1
    have sl1 : xat + (L k).length ≤ ca := by omega
    have sl2 : (xat : Int) ≤ (xat : Int) + ((L k).length : Int) := by omega
    have sl3 : (xat : Int) + ((L k).length : Int) ≤ (R.length : Int) := by omega
    have sl4 : (xat : Int) + ((L k).length : Int) ≤ (ca : Int) := by omega
    have sl5 : ¬ ca = xat := by omega
    have sl6 : xat ≤ ca := by omega
    have sl7 : ((xat : Int) + ((L k).length : Int)).toNat = xat + (L k).length := by omega
    have hrl := HRL.out
    have bd1 : xat ≤ 1073741824 := by omega
    have bd2 : (L k).length ≤ 1073741824 := by omega
    have sl8 : wrap64 ((xat : Int) + ((L k).length : Int)) = (xat : Int) + ((L k).length : Int) := wr_6 bd1 bd2
    have sl9 : IntKind.i64.wrap ((xat : Int) + ((L k).length : Int)) = (xat : Int) + ((L k).length : Int) := wr_7 bd1 bd2
    clear e1 e2 hrl bd1 bd2
    have HTT : Hid (∀ l, Pcm.Till (fun w' => Below w8.heap.size w8 w') (fun _ => True) 99 l w8.drew) := hid fun l => ⟨(Below.refl _ _).drew, fun _ => trivial⟩
    refine Pcm.region_T (T := Pcm.Till (fun w' => Below w8.heap.size w8 w') (fun _ => True) 99) (by kernel_rfl) ?_
    refine Pcm.take_1 (i := 0) (oi := ({ dst := some 108, op := Op.move (Operand.tmp 18), type := 33, pos := _, after := #[], guard := none } : Oper)) (v := .int .i64 0) rfl (by kernel_rfl) (by kernel_rfl) (by kernel_rfl) (by decide) (fun _ _ _ h => h) (HTT.out _) (.inl ⟨by rfl, fun w' hSw => ?_⟩) ?_
    · (try dsimp only at hSw)
      go_simp
    (try simp only [Act.put, List.setIfInBounds_toArray, List.set_cons_zero, List.set_cons_succ])
    refine Pcm.take_1 (i := 1) (oi := ({ dst := some 109, op := Op.binOp BinOp.neq 33 (Operand.tmp 108) (Operand.const (Value.int IntKind.i64 0)) 33, type := 4, pos := _, after := #[{ on := 0, ground := Ground.data }], guard := none } : Oper)) (v := .bool false) rfl (by kernel_rfl) (by kernel_rfl) (by kernel_rfl) (by decide) (fun _ _ _ h => h) (HTT.out _) (.inl ⟨by rfl, fun w' hSw => ?_⟩) ?_
    · (try dsimp only at hSw)
      go_simp
    (try simp only [Act.put, List.setIfInBounds_toArray, List.set_cons_zero, List.set_cons_succ])
    refine Pcm.take_1 (i := 2) (oi := ({ dst := some 110, op := Op.move (Operand.tmp 109), type := 4, pos := _, after := #[{ on := 1, ground := Ground.data }], guard := none } : Oper)) (v := .bool false) rfl (by kernel_rfl) (by kernel_rfl) (by kernel_rfl) (by decide) (fun _ _ _ h => h) (HTT.out _) (.inl ⟨by rfl, fun w' hSw => ?_⟩) ?_
    · (try dsimp only at hSw)
      go_simp
    (try simp only [Act.put, List.setIfInBounds_toArray, List.set_cons_zero, List.set_cons_succ])
    refine Pcm.take_1 (i := 3) (oi := ({ dst := some 111, op := Op.move (Operand.tmp 17), type := 28, pos := _, after := #[{ on := 2, ground := Ground.guard }], guard := some (2, false) } : Oper)) (v := .int .u32 (xs : Int)) rfl (by kernel_rfl) (by kernel_rfl) (by kernel_rfl) (by decide) (fun _ _ _ h => h) (HTT.out _) (.inl ⟨by rfl, fun w' hSw => ?_⟩) ?_
    · (try dsimp only at hSw)
      go_simp
    (try simp only [Act.put, List.setIfInBounds_toArray, List.set_cons_zero, List.set_cons_succ])
    refine Pcm.take_1 (i := 4) (oi := ({ dst := some 112, op := Op.fieldAddr 45 (Operand.tmp 12) 2, type := 0, pos := _, after := #[{ on := 2, ground := Ground.guard }], guard := some (2, false) } : Oper)) (v := .pointer (some ⟨g6, 7, none⟩)) rfl (by kernel_rfl) (by kernel_rfl) (by kernel_rfl) (by decide) (fun _ _ _ h => h) (HTT.out _) (.inl ⟨by rfl, fun w' hSw => ?_⟩) ?_
    · (try dsimp only at hSw)
      go_simp
    (try simp only [Act.put, List.setIfInBounds_toArray, List.set_cons_zero, List.set_cons_succ])
    refine Pcm.take_1 (i := 5) (oi := ({ dst := some 113, op := Op.load 40 (Operand.tmp 112), type := 40, pos := _, after := #[{ on := 4, ground := Ground.data }, { on := 2, ground := Ground.guard }], guard := some (2, false) } : Oper)) (v := .slice (some ⟨g, 0, none⟩) n c2) rfl (by kernel_rfl) (by kernel_rfl) (by kernel_rfl) (by decide) (fun _ _ _ h => h) (HTT.out _) (.inl ⟨by rfl, fun w' hSw => ?_⟩) ?_
    · (try dsimp only at hSw)
      have cc7 := (hSw.cell (p := ⟨g6, 7, none⟩) (World.block_lt_of_cell? _ _ z7)).trans z7
      clear hSw
      go_simp
    (try simp only [Act.put, List.setIfInBounds_toArray, List.set_cons_zero, List.set_cons_succ])
    refine Pcm.take_1 (i := 6) (oi := ({ dst := some 114, op := Op.move (Operand.tmp 15), type := 3, pos := _, after := #[{ on := 2, ground := Ground.guard }], guard := some (2, false) } : Oper)) (v := .int .i64 (k : Int)) rfl (by kernel_rfl) (by kernel_rfl) (by kernel_rfl) (by decide) (fun _ _ _ h => h) (HTT.out _) (.inl ⟨by rfl, fun w' hSw => ?_⟩) ?_
    · (try dsimp only at hSw)
      go_simp
    (try simp only [Act.put, List.setIfInBounds_toArray, List.set_cons_zero, List.set_cons_succ])
    refine Pcm.take_1 (i := 7) (oi := ({ dst := some 115, op := Op.indexAddr 40 (Operand.tmp 113) (Operand.tmp 114), type := 0, pos := _, after := #[{ on := 5, ground := Ground.data }, { on := 6, ground := Ground.data }, { on := 2, ground := Ground.guard }], guard := some (2, false) } : Oper)) (v := .pointer (some ⟨g, k * 11, none⟩)) rfl (by kernel_rfl) (by kernel_rfl) (by kernel_rfl) (by decide) (fun _ _ _ h => h) (HTT.out _) (.inl ⟨by rfl, fun w' hSw => ?_⟩) ?_
    · (try dsimp only at hSw)
      go_simp
    (try simp only [Act.put, List.setIfInBounds_toArray, List.set_cons_zero, List.set_cons_succ])
    refine Pcm.take_1 (i := 8) (oi := ({ dst := some 116, op := Op.fieldAddr 63 (Operand.tmp 115) 2, type := 0, pos := _, after := #[{ on := 7, ground := Ground.data }, { on := 2, ground := Ground.guard }], guard := some (2, false) } : Oper)) (v := .pointer (some ⟨g, k * 11 + 9, none⟩)) rfl (by kernel_rfl) (by kernel_rfl) (by kernel_rfl) (by decide) (fun _ _ _ h => h) (HTT.out _) (.inl ⟨by rfl, fun w' hSw => ?_⟩) ?_
    · (try dsimp only at hSw)
      go_simp
    (try simp only [Act.put, List.setIfInBounds_toArray, List.set_cons_zero, List.set_cons_succ])
    refine Pcm.take_1 (i := 9) (oi := ({ dst := some 117, op := Op.load 28 (Operand.tmp 116), type := 28, pos := _, after := #[{ on := 8, ground := Ground.data }, { on := 2, ground := Ground.guard }], guard := some (2, false) } : Oper)) (v := .int .u32 (xs : Int)) rfl (by kernel_rfl) (by kernel_rfl) (by kernel_rfl) (by decide) (fun _ _ _ h => h) (HTT.out _) (.inl ⟨by rfl, fun w' hSw => ?_⟩) ?_
    · (try dsimp only at hSw)
      have f9 : w'.cell? ⟨g, k * 11 + 9, none⟩ = some (.int .u32 (xs : Int)) := (hSw.cell (p := ⟨g, k * 11 + 9, none⟩) (World.block_lt_of_cell? _ _ (HCX8.out 9 _ rfl))).trans (HCX8.out 9 _ rfl)
      clear hSw
      go_simp
    (try simp only [Act.put, List.setIfInBounds_toArray, List.set_cons_zero, List.set_cons_succ])
    refine Pcm.take_1 (i := 10) (oi := ({ dst := some 118, op := Op.binOp BinOp.neq 28 (Operand.tmp 111) (Operand.tmp 117) 28, type := 4, pos := _, after := #[{ on := 3, ground := Ground.data }, { on := 9, ground := Ground.data }, { on := 2, ground := Ground.guard }], guard := some (2, false) } : Oper)) (v := .bool false) rfl (by kernel_rfl) (by kernel_rfl) (by kernel_rfl) (by decide) (fun _ _ _ h => h) (HTT.out _) (.inl ⟨by rfl, fun w' hSw => ?_⟩) ?_
    · (try dsimp only at hSw)
      go_simp
    (try simp only [Act.put, List.setIfInBounds_toArray, List.set_cons_zero, List.set_cons_succ])
    refine Pcm.take_1 (i := 11) (oi := ({ dst := some 119, op := Op.pick (Operand.tmp 110) (Operand.const (Value.bool true)) (Operand.tmp 118), type := 4, pos := _, after := #[{ on := 2, ground := Ground.data }, { on := 10, ground := Ground.data }], guard := none } : Oper)) (v := .bool false) rfl (by kernel_rfl) (by kernel_rfl) (by kernel_rfl) (by decide) (fun _ _ _ h => h) (HTT.out _) (.inl ⟨by rfl, fun w' hSw => ?_⟩) ?_
    · (try dsimp only at hSw)
      go_simp
    (try simp only [Act.put, List.setIfInBounds_toArray, List.set_cons_zero, List.set_cons_succ])
    refine Pcm.take_1 (i := 12) (oi := ({ dst := some 120, op := Op.move (Operand.tmp 119), type := 4, pos := _, after := #[{ on := 11, ground := Ground.data }, { on := 2, ground := Ground.chain }], guard := none } : Oper)) (v := .bool false) rfl (by kernel_rfl) (by kernel_rfl) (by kernel_rfl) (by decide) (fun _ _ _ h => h) (HTT.out _) (.inl ⟨by rfl, fun w' hSw => ?_⟩) ?_
    · (try dsimp only at hSw)
      go_simp
    (try simp only [Act.put, List.setIfInBounds_toArray, List.set_cons_zero, List.set_cons_succ])
    refine Pcm.take_1 (i := 13) (oi := ({ dst := some 121, op := Op.move (Operand.tmp 16), type := 32, pos := _, after := #[{ on := 12, ground := Ground.guard }], guard := some (12, false) } : Oper)) (v := .slice ac (L k).length cc) rfl (by kernel_rfl) (by kernel_rfl) (by kernel_rfl) (by decide) (fun _ _ _ h => h) (HTT.out _) (.inl ⟨by rfl, fun w' hSw => ?_⟩) ?_
    · (try dsimp only at hSw)
      go_simp
    (try simp only [Act.put, List.setIfInBounds_toArray, List.set_cons_zero, List.set_cons_succ])
    refine Pcm.take_1 (i := 14) (oi := ({ dst := some 122, op := Op.convert 32 9 (Operand.tmp 121), type := 9, pos := _, after := #[{ on := 13, ground := Ground.data }, { on := 12, ground := Ground.guard }], guard := some (12, false) } : Oper)) (v := .string (tos (L k))) rfl (by kernel_rfl) (by kernel_rfl) (by kernel_rfl) (by decide) (fun _ _ _ h => h) (HTT.out _) (.inl ⟨by rfl, fun w' hSw => ?_⟩) ?_
    · (try dsimp only at hSw)
      have cv := (HNL.out.1.keep hSw).conv cc
      clear hSw
      go_simp
    (try simp only [Act.put, List.setIfInBounds_toArray, List.set_cons_zero, List.set_cons_succ])
    refine Pcm.take_1 (i := 15) (oi := ({ dst := some 123, op := Op.move (Operand.tmp 2), type := 27, pos := _, after := #[{ on := 12, ground := Ground.guard }], guard := some (12, false) } : Oper)) (v := .slice (some ⟨bb, bo, none⟩) n capb) rfl (by kernel_rfl) (by kernel_rfl) (by kernel_rfl) (by decide) (fun _ _ _ h => h) (HTT.out _) (.inl ⟨by rfl, fun w' hSw => ?_⟩) ?_
    · (try dsimp only at hSw)
      go_simp
    (try simp only [Act.put, List.setIfInBounds_toArray, List.set_cons_zero, List.set_cons_succ])
    refine Pcm.take_1 (i := 16) (oi := ({ dst := some 124, op := Op.move (Operand.tmp 15), type := 3, pos := _, after := #[{ on := 12, ground := Ground.guard }], guard := some (12, false) } : Oper)) (v := .int .i64 (k : Int)) rfl (by kernel_rfl) (by kernel_rfl) (by kernel_rfl) (by decide) (fun _ _ _ h => h) (HTT.out _) (.inl ⟨by rfl, fun w' hSw => ?_⟩) ?_
    · (try dsimp only at hSw)
      go_simp
    (try simp only [Act.put, List.setIfInBounds_toArray, List.set_cons_zero, List.set_cons_succ])
    refine Pcm.take_1 (i := 17) (oi := ({ dst := some 125, op := Op.indexAddr 27 (Operand.tmp 123) (Operand.tmp 124), type := 0, pos := _, after := #[{ on := 15, ground := Ground.data }, { on := 16, ground := Ground.data }, { on := 12, ground := Ground.guard }], guard := some (12, false) } : Oper)) (v := .pointer (some ⟨bb, bo + k, none⟩)) rfl (by kernel_rfl) (by kernel_rfl) (by kernel_rfl) (by decide) (fun _ _ _ h => h) (HTT.out _) (.inl ⟨by rfl, fun w' hSw => ?_⟩) ?_
    · (try dsimp only at hSw)
      go_simp
    (try simp only [Act.put, List.setIfInBounds_toArray, List.set_cons_zero, List.set_cons_succ])
    refine Pcm.take_1 (i := 18) (oi := ({ dst := some 126, op := Op.load 32 (Operand.tmp 125), type := 32, pos := _, after := #[{ on := 17, ground := Ground.data }, { on := 12, ground := Ground.guard }], guard := some (12, false) } : Oper)) (v := .slice bp (L k).length bcap) rfl (by kernel_rfl) (by kernel_rfl) (by kernel_rfl) (by decide) (fun _ _ _ h => h) (HTT.out _) (.inl ⟨by rfl, fun w' hSw => ?_⟩) ?_
    · (try dsimp only at hSw)
      have cc8 := (hSw.cell (p := ⟨bb, bo + k, none⟩) (World.block_lt_of_cell? _ _ HBB8.out)).trans HBB8.out
      clear hSw
      go_simp
    (try simp only [Act.put, List.setIfInBounds_toArray, List.set_cons_zero, List.set_cons_succ])
    refine Pcm.take_1 (i := 19) (oi := ({ dst := some 127, op := Op.convert 32 9 (Operand.tmp 126), type := 9, pos := _, after := #[{ on := 18, ground := Ground.data }, { on := 12, ground := Ground.guard }], guard := some (12, false) } : Oper)) (v := .string (tos (L k))) rfl (by kernel_rfl) (by kernel_rfl) (by kernel_rfl) (by decide) (fun _ _ _ h => h) (HTT.out _) (.inl ⟨by rfl, fun w' hSw => ?_⟩) ?_
    · (try dsimp only at hSw)
      have cv := (HBP8.out.keep hSw).conv bcap
      clear hSw
      go_simp
    (try simp only [Act.put, List.setIfInBounds_toArray, List.set_cons_zero, List.set_cons_succ])
    refine Pcm.take_1 (i := 20) (oi := ({ dst := some 128, op := Op.binOp BinOp.neq 9 (Operand.tmp 122) (Operand.tmp 127) 9, type := 4, pos := _, after := #[{ on := 14, ground := Ground.data }, { on := 19, ground := Ground.data }, { on := 12, ground := Ground.guard }], guard := some (12, false) } : Oper)) (v := .bool false) rfl (by kernel_rfl) (by kernel_rfl) (by kernel_rfl) (by decide) (fun _ _ _ h => h) (HTT.out _) (.inl ⟨by rfl, fun w' hSw => ?_⟩) ?_
    · (try dsimp only at hSw)
      go_simp
    (try simp only [Act.put, List.setIfInBounds_toArray, List.set_cons_zero, List.set_cons_succ])
    refine Pcm.take_1 (i := 21) (oi := ({ dst := some 129, op := Op.pick (Operand.tmp 120) (Operand.const (Value.bool true)) (Operand.tmp 128), type := 4, pos := _, after := #[{ on := 12, ground := Ground.data }, { on := 20, ground := Ground.data }], guard := none } : Oper)) (v := .bool false) rfl (by kernel_rfl) (by kernel_rfl) (by kernel_rfl) (by decide) (fun _ _ _ h => h) (HTT.out _) (.inl ⟨by rfl, fun w' hSw => ?_⟩) ?_
    · (try dsimp only at hSw)
      go_simp
    (try simp only [Act.put, List.setIfInBounds_toArray, List.set_cons_zero, List.set_cons_succ])
    refine Pcm.take_1 (i := 22) (oi := ({ dst := some 130, op := Op.move (Operand.tmp 129), type := 4, pos := _, after := #[{ on := 21, ground := Ground.data }, { on := 12, ground := Ground.chain }], guard := none } : Oper)) (v := .bool false) rfl (by kernel_rfl) (by kernel_rfl) (by kernel_rfl) (by decide) (fun _ _ _ h => h) (HTT.out _) (.inl ⟨by rfl, fun w' hSw => ?_⟩) ?_
    · (try dsimp only at hSw)
      go_simp
    (try simp only [Act.put, List.setIfInBounds_toArray, List.set_cons_zero, List.set_cons_succ])
    refine Pcm.take_1 (i := 23) (oi := ({ dst := some 131, op := Op.move (Operand.tmp 10), type := 32, pos := _, after := #[{ on := 22, ground := Ground.guard }], guard := some (22, false) } : Oper)) (v := .slice (some ⟨rq, ro, none⟩) R.length ca) rfl (by kernel_rfl) (by kernel_rfl) (by kernel_rfl) (by decide) (fun _ _ _ h => h) (HTT.out _) (.inl ⟨by rfl, fun w' hSw => ?_⟩) ?_
    · (try dsimp only at hSw)
      go_simp
    (try simp only [Act.put, List.setIfInBounds_toArray, List.set_cons_zero, List.set_cons_succ])
    refine Pcm.take_1 (i := 24) (oi := ({ dst := some 132, op := Op.fieldAddr 45 (Operand.tmp 12) 2, type := 0, pos := _, after := #[{ on := 22, ground := Ground.guard }], guard := some (22, false) } : Oper)) (v := .pointer (some ⟨g6, 7, none⟩)) rfl (by kernel_rfl) (by kernel_rfl) (by kernel_rfl) (by decide) (fun _ _ _ h => h) (HTT.out _) (.inl ⟨by rfl, fun w' hSw => ?_⟩) ?_
    · (try dsimp only at hSw)
      go_simp
    (try simp only [Act.put, List.setIfInBounds_toArray, List.set_cons_zero, List.set_cons_succ])
    refine Pcm.take_1 (i := 25) (oi := ({ dst := some 133, op := Op.load 40 (Operand.tmp 132), type := 40, pos := _, after := #[{ on := 24, ground := Ground.data }, { on := 22, ground := Ground.guard }], guard := some (22, false) } : Oper)) (v := .slice (some ⟨g, 0, none⟩) n c2) rfl (by kernel_rfl) (by kernel_rfl) (by kernel_rfl) (by decide) (fun _ _ _ h => h) (HTT.out _) (.inl ⟨by rfl, fun w' hSw => ?_⟩) ?_
    · (try dsimp only at hSw)
      have cc7 := (hSw.cell (p := ⟨g6, 7, none⟩) (World.block_lt_of_cell? _ _ z7)).trans z7
      clear hSw
      go_simp
    (try simp only [Act.put, List.setIfInBounds_toArray, List.set_cons_zero, List.set_cons_succ])
    refine Pcm.take_1 (i := 26) (oi := ({ dst := some 134, op := Op.move (Operand.tmp 15), type := 3, pos := _, after := #[{ on := 22, ground := Ground.guard }], guard := some (22, false) } : Oper)) (v := .int .i64 (k : Int)) rfl (by kernel_rfl) (by kernel_rfl) (by kernel_rfl) (by decide) (fun _ _ _ h => h) (HTT.out _) (.inl ⟨by rfl, fun w' hSw => ?_⟩) ?_
    · (try dsimp only at hSw)
      go_simp
    (try simp only [Act.put, List.setIfInBounds_toArray, List.set_cons_zero, List.set_cons_succ])
    refine Pcm.take_1 (i := 27) (oi := ({ dst := some 135, op := Op.indexAddr 40 (Operand.tmp 133) (Operand.tmp 134), type := 0, pos := _, after := #[{ on := 25, ground := Ground.data }, { on := 26, ground := Ground.data }, { on := 22, ground := Ground.guard }], guard := some (22, false) } : Oper)) (v := .pointer (some ⟨g, k * 11, none⟩)) rfl (by kernel_rfl) (by kernel_rfl) (by kernel_rfl) (by decide) (fun _ _ _ h => h) (HTT.out _) (.inl ⟨by rfl, fun w' hSw => ?_⟩) ?_
    · (try dsimp only at hSw)
      go_simp
    (try simp only [Act.put, List.setIfInBounds_toArray, List.set_cons_zero, List.set_cons_succ])
    refine Pcm.take_1 (i := 28) (oi := ({ dst := some 136, op := Op.fieldAddr 63 (Operand.tmp 135) 3, type := 0, pos := _, after := #[{ on := 27, ground := Ground.data }, { on := 22, ground := Ground.guard }], guard := some (22, false) } : Oper)) (v := .pointer (some ⟨g, k * 11 + 10, none⟩)) rfl (by kernel_rfl) (by kernel_rfl) (by kernel_rfl) (by decide) (fun _ _ _ h => h) (HTT.out _) (.inl ⟨by rfl, fun w' hSw => ?_⟩) ?_
    · (try dsimp only at hSw)
      go_simp
    (try simp only [Act.put, List.setIfInBounds_toArray, List.set_cons_zero, List.set_cons_succ])
    refine Pcm.take_1 (i := 29) (oi := ({ dst := some 137, op := Op.load 3 (Operand.tmp 136), type := 3, pos := _, after := #[{ on := 28, ground := Ground.data }, { on := 22, ground := Ground.guard }], guard := some (22, false) } : Oper)) (v := .int .i64 (xat : Int)) rfl (by kernel_rfl) (by kernel_rfl) (by kernel_rfl) (by decide) (fun _ _ _ h => h) (HTT.out _) (.inl ⟨by rfl, fun w' hSw => ?_⟩) ?_
    · (try dsimp only at hSw)
      have f10 : w'.cell? ⟨g, k * 11 + 10, none⟩ = some (.int .i64 (xat : Int)) := (hSw.cell (p := ⟨g, k * 11 + 10, none⟩) (World.block_lt_of_cell? _ _ (HCX8.out 10 _ rfl))).trans (HCX8.out 10 _ rfl)
      clear hSw
      go_simp
    (try simp only [Act.put, List.setIfInBounds_toArray, List.set_cons_zero, List.set_cons_succ])
    refine Pcm.take_1 (i := 30) (oi := ({ dst := some 138, op := Op.fieldAddr 45 (Operand.tmp 12) 2, type := 0, pos := _, after := #[{ on := 22, ground := Ground.guard }], guard := some (22, false) } : Oper)) (v := .pointer (some ⟨g6, 7, none⟩)) rfl (by kernel_rfl) (by kernel_rfl) (by kernel_rfl) (by decide) (fun _ _ _ h => h) (HTT.out _) (.inl ⟨by rfl, fun w' hSw => ?_⟩) ?_
    · (try dsimp only at hSw)
      go_simp
    (try simp only [Act.put, List.setIfInBounds_toArray, List.set_cons_zero, List.set_cons_succ])
    refine Pcm.take_1 (i := 31) (oi := ({ dst := some 139, op := Op.load 40 (Operand.tmp 138), type := 40, pos := _, after := #[{ on := 30, ground := Ground.data }, { on := 22, ground := Ground.guard }], guard := some (22, false) } : Oper)) (v := .slice (some ⟨g, 0, none⟩) n c2) rfl (by kernel_rfl) (by kernel_rfl) (by kernel_rfl) (by decide) (fun _ _ _ h => h) (HTT.out _) (.inl ⟨by rfl, fun w' hSw => ?_⟩) ?_
    · (try dsimp only at hSw)
      have cc7 := (hSw.cell (p := ⟨g6, 7, none⟩) (World.block_lt_of_cell? _ _ z7)).trans z7
      clear hSw
      go_simp
    (try simp only [Act.put, List.setIfInBounds_toArray, List.set_cons_zero, List.set_cons_succ])
    refine Pcm.take_1 (i := 32) (oi := ({ dst := some 140, op := Op.move (Operand.tmp 15), type := 3, pos := _, after := #[{ on := 22, ground := Ground.guard }], guard := some (22, false) } : Oper)) (v := .int .i64 (k : Int)) rfl (by kernel_rfl) (by kernel_rfl) (by kernel_rfl) (by decide) (fun _ _ _ h => h) (HTT.out _) (.inl ⟨by rfl, fun w' hSw => ?_⟩) ?_
    · (try dsimp only at hSw)
      go_simp
    (try simp only [Act.put, List.setIfInBounds_toArray, List.set_cons_zero, List.set_cons_succ])
    refine Pcm.take_1 (i := 33) (oi := ({ dst := some 141, op := Op.indexAddr 40 (Operand.tmp 139) (Operand.tmp 140), type := 0, pos := _, after := #[{ on := 31, ground := Ground.data }, { on := 32, ground := Ground.data }, { on := 22, ground := Ground.guard }], guard := some (22, false) } : Oper)) (v := .pointer (some ⟨g, k * 11, none⟩)) rfl (by kernel_rfl) (by kernel_rfl) (by kernel_rfl) (by decide) (fun _ _ _ h => h) (HTT.out _) (.inl ⟨by rfl, fun w' hSw => ?_⟩) ?_
    · (try dsimp only at hSw)
      go_simp
    (try simp only [Act.put, List.setIfInBounds_toArray, List.set_cons_zero, List.set_cons_succ])
    refine Pcm.take_1 (i := 34) (oi := ({ dst := some 142, op := Op.fieldAddr 63 (Operand.tmp 141) 3, type := 0, pos := _, after := #[{ on := 33, ground := Ground.data }, { on := 22, ground := Ground.guard }], guard := some (22, false) } : Oper)) (v := .pointer (some ⟨g, k * 11 + 10, none⟩)) rfl (by kernel_rfl) (by kernel_rfl) (by kernel_rfl) (by decide) (fun _ _ _ h => h) (HTT.out _) (.inl ⟨by rfl, fun w' hSw => ?_⟩) ?_
    · (try dsimp only at hSw)
      go_simp
    (try simp only [Act.put, List.setIfInBounds_toArray, List.set_cons_zero, List.set_cons_succ])
    refine Pcm.take_1 (i := 35) (oi := ({ dst := some 143, op := Op.load 3 (Operand.tmp 142), type := 3, pos := _, after := #[{ on := 34, ground := Ground.data }, { on := 22, ground := Ground.guard }], guard := some (22, false) } : Oper)) (v := .int .i64 (xat : Int)) rfl (by kernel_rfl) (by kernel_rfl) (by kernel_rfl) (by decide) (fun _ _ _ h => h) (HTT.out _) (.inl ⟨by rfl, fun w' hSw => ?_⟩) ?_
    · (try dsimp only at hSw)
      have f10 : w'.cell? ⟨g, k * 11 + 10, none⟩ = some (.int .i64 (xat : Int)) := (hSw.cell (p := ⟨g, k * 11 + 10, none⟩) (World.block_lt_of_cell? _ _ (HCX8.out 10 _ rfl))).trans (HCX8.out 10 _ rfl)
      clear hSw
      go_simp
    (try simp only [Act.put, List.setIfInBounds_toArray, List.set_cons_zero, List.set_cons_succ])
    refine Pcm.take_1 (i := 36) (oi := ({ dst := some 144, op := Op.move (Operand.tmp 16), type := 32, pos := _, after := #[{ on := 22, ground := Ground.guard }], guard := some (22, false) } : Oper)) (v := .slice ac (L k).length cc) rfl (by kernel_rfl) (by kernel_rfl) (by kernel_rfl) (by decide) (fun _ _ _ h => h) (HTT.out _) (.inl ⟨by rfl, fun w' hSw => ?_⟩) ?_
    · (try dsimp only at hSw)
      go_simp
    (try simp only [Act.put, List.setIfInBounds_toArray, List.set_cons_zero, List.set_cons_succ])
    refine Pcm.take_1 (i := 37) (oi := ({ dst := some 145, op := Op.call { callee := Callee.builtin Builtin.len, args := #[Operand.tmp 144], argTypes := #[32] }, type := 3, pos := _, after := #[{ on := 36, ground := Ground.data }, { on := 22, ground := Ground.guard }], guard := some (22, false) } : Oper)) (v := .int .i64 ((L k).length : Int)) rfl (by kernel_rfl) (by kernel_rfl) (by kernel_rfl) (by decide) (fun _ _ _ h => h) (HTT.out _) (.inl ⟨by rfl, fun w' hSw => ?_⟩) ?_
    · (try dsimp only at hSw)
      go_simp
    (try simp only [Act.put, List.setIfInBounds_toArray, List.set_cons_zero, List.set_cons_succ])
    refine Pcm.take_1 (i := 38) (oi := ({ dst := some 146, op := Op.binOp BinOp.add 3 (Operand.tmp 143) (Operand.tmp 145) 3, type := 3, pos := _, after := #[{ on := 35, ground := Ground.data }, { on := 37, ground := Ground.data }, { on := 22, ground := Ground.guard }], guard := some (22, false) } : Oper)) (v := .int .i64 ((xat : Int) + ((L k).length : Int))) rfl (by kernel_rfl) (by kernel_rfl) (by kernel_rfl) (by decide) (fun _ _ _ h => h) (HTT.out _) (.inl ⟨by rfl, fun w' hSw => ?_⟩) ?_
    · (try dsimp only at hSw)
      go_simp
    (try simp only [Act.put, List.setIfInBounds_toArray, List.set_cons_zero, List.set_cons_succ])
    refine Pcm.take_1 (i := 39) (oi := ({ dst := some 147, op := Op.slice 32 (Operand.tmp 131) (some (Operand.tmp 137)) (some (Operand.tmp 146)) none, type := 32, pos := _, after := #[{ on := 23, ground := Ground.data }, { on := 29, ground := Ground.data }, { on := 38, ground := Ground.data }, { on := 22, ground := Ground.guard }], guard := some (22, false) } : Oper)) (v := .slice (some ⟨rq, ro + xat, none⟩) (L k).length (ca - xat)) rfl (by kernel_rfl) (by kernel_rfl) (by kernel_rfl) (by decide) (fun _ _ _ h => h) (HTT.out _) (.inl ⟨by rfl, fun w' hSw => ?_⟩) ?_
    · (try dsimp only at hSw)
      go_simp
    (try simp only [Act.put, List.setIfInBounds_toArray, List.set_cons_zero, List.set_cons_succ])
    refine Pcm.take_1 (i := 40) (oi := ({ dst := some 148, op := Op.convert 32 9 (Operand.tmp 147), type := 9, pos := _, after := #[{ on := 39, ground := Ground.data }, { on := 22, ground := Ground.guard }], guard := some (22, false) } : Oper)) (v := .string (tos (L k))) rfl (by kernel_rfl) (by kernel_rfl) (by kernel_rfl) (by decide) (fun _ _ _ h => h) (HTT.out _) (.inl ⟨by rfl, fun w' hSw => ?_⟩) ?_
    · (try dsimp only at hSw)
      have cv := (HSUB.out.keep hSw).conv (ca - xat)
      clear hSw
      go_simp
    (try simp only [Act.put, List.setIfInBounds_toArray, List.set_cons_zero, List.set_cons_succ])
    refine Pcm.take_1 (i := 41) (oi := ({ dst := some 149, op := Op.move (Operand.tmp 16), type := 32, pos := _, after := #[{ on := 22, ground := Ground.guard }], guard := some (22, false) } : Oper)) (v := .slice ac (L k).length cc) rfl (by kernel_rfl) (by kernel_rfl) (by kernel_rfl) (by decide) (fun _ _ _ h => h) (HTT.out _) (.inl ⟨by rfl, fun w' hSw => ?_⟩) ?_
    · (try dsimp only at hSw)
      go_simp
    (try simp only [Act.put, List.setIfInBounds_toArray, List.set_cons_zero, List.set_cons_succ])
    refine Pcm.take_1 (i := 42) (oi := ({ dst := some 150, op := Op.convert 32 9 (Operand.tmp 149), type := 9, pos := _, after := #[{ on := 41, ground := Ground.data }, { on := 22, ground := Ground.guard }], guard := some (22, false) } : Oper)) (v := .string (tos (L k))) rfl (by kernel_rfl) (by kernel_rfl) (by kernel_rfl) (by decide) (fun _ _ _ h => h) (HTT.out _) (.inl ⟨by rfl, fun w' hSw => ?_⟩) ?_
    · (try dsimp only at hSw)
      have cv := (HNL.out.1.keep hSw).conv cc
      clear hSw
      go_simp
    (try simp only [Act.put, List.setIfInBounds_toArray, List.set_cons_zero, List.set_cons_succ])
    refine Pcm.take_1 (i := 43) (oi := ({ dst := some 151, op := Op.binOp BinOp.neq 9 (Operand.tmp 148) (Operand.tmp 150) 9, type := 4, pos := _, after := #[{ on := 40, ground := Ground.data }, { on := 42, ground := Ground.data }, { on := 22, ground := Ground.guard }], guard := some (22, false) } : Oper)) (v := .bool false) rfl (by kernel_rfl) (by kernel_rfl) (by kernel_rfl) (by decide) (fun _ _ _ h => h) (HTT.out _) (.inl ⟨by rfl, fun w' hSw => ?_⟩) ?_
    · (try dsimp only at hSw)
      go_simp
    (try simp only [Act.put, List.setIfInBounds_toArray, List.set_cons_zero, List.set_cons_succ])
    refine Pcm.take_1 (i := 44) (oi := ({ dst := some 152, op := Op.pick (Operand.tmp 130) (Operand.const (Value.bool true)) (Operand.tmp 151), type := 4, pos := _, after := #[{ on := 22, ground := Ground.data }, { on := 43, ground := Ground.data }], guard := none } : Oper)) (v := .bool false) rfl (by kernel_rfl) (by kernel_rfl) (by kernel_rfl) (by decide) (fun _ _ _ h => h) (HTT.out _) (.inl ⟨by rfl, fun w' hSw => ?_⟩) ?_
    · (try dsimp only at hSw)
      go_simp
    (try simp only [Act.put, List.setIfInBounds_toArray, List.set_cons_zero, List.set_cons_succ])
    refine Pcm.anyT_done (by kernel_rfl) ?_ _
    have HVD := hid (show w8.drew.heap[g6]? = _ from HVX.out)
    clear HTT z7 sl1 sl2 sl3 sl4 sl5 sl6 sl7 sl8 sl9
    have HB9 := hid (HB8.out.drew)
    have HAG9 := hid (HAG8.out.keep ((Below.refl _ _).drew))
    obtain ⟨i32, hi32, hz0, hz1, hz2⟩ := info_parts info32
    have hrow := HAG9.out.row
    have hsz7 := HBL.out.size
    have hsz8 := HB8.out.size
    have hn12 := HN12.out
    go_wp2_with (at_builtin; go_must (refine wpList_append_one rfl (.tmp 153) (.tmp 155) 27 rfl w7.heap.size 32 i32 (.slice none 0 0) 24 Tryz.underlying27 hi32 hz0 hz1 hz2 rfl aa k cg vs rfl (hrow.alloc _) ⟨w8.heap.size, 0, none⟩ 1 (.slice ac (L k).length cc) rfl (cell_newp _ _) rfl (by unfold maxLen; omega) (by omega) (by show w7.heap.size ≤ (w8.heap.push _).size; rw [Array.size_push]; omega) ?_))
    intro gg cap1 w9 how9 hk9
    obtain ⟨hag9, hfr9⟩ := HAG9.out.add (HNL.out.1.keep ((Below.refl _ _).drew)) HNL.out.2.1 (fun q hq => by
      have h1 := HNL.out.2.2 q hq
      exact ⟨by omega, h1.2, fun e => by have h2 := (own_in HAG.out.row q e).2; omega⟩) how9 hk9
    have HAGN := hid hag9
    have HBLN := hid (show Below w7.heap.size w7 w9 from HBL.out.trans ((HB9.out.mono hsz7).trans ⟨hfr9.os, hfr9.tape, hfr9.output, hfr9.size, fun q hq => hfr9.block q (by show q < w8.heap.size; omega) (fun e => by have h2 := (own_in HAG.out.row q e).1; omega)⟩))
    have HLT := hid hlt
    clear hag9 hfr9 how9 hk9 hi32 hz0 hz1 hz2 hrow hsz7 hsz8
    go_wp2_with fail
    go_roundg (n - (k + 1))
    case measure => rw [HG.out]; have := HLT.out; omega
    case rel => exact ⟨k + 1, _, _, _, by have := HLT.out; omega, rfl, rfl, by go_num, HAGN.out, HBLN.out⟩
end Go.Proofs.YthjjonbkfkpkmaaGreatDoor.Fil
