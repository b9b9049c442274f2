/- Get of the program: what it answers. Conditions: a table in memory, fewer than 2^39 bytes, the two tables of unicode/utf8. -/
import Derived.Test.YtfkklmklbmdlhaaDoorP5
namespace Go.Proofs.YtfkklmklbmdlhaaDoor.Tg
open Go.RowKit Gen Fld
open Crc hiding hid

theorem nx_sum (s : TS) (n : Int) (f : Bool) : (nx s n f).2.pos + (nx s n f).2.l.length ≤ s.pos + s.l.length ∧ (nx s n f).1.length ≤ s.l.length := by
  unfold nx
  split
  · exact ⟨Nat.le_refl _, Nat.zero_le _⟩
  · split
    · exact ⟨by show s.pos + 0 ≤ _; omega, Nat.zero_le _⟩
    · split
      · exact ⟨by show s.pos + 0 ≤ _; omega, Nat.zero_le _⟩
      · refine ⟨?_, ?_⟩
        · show s.pos + n.toNat + (s.l.drop n.toNat).length ≤ _
          rw [List.length_drop]; omega
        · show (s.l.take n.toNat).length ≤ _
          rw [List.length_take]; omega
theorem tx_sum (s : TS) (n : Int) : (tx s n).2.pos + (tx s n).2.l.length ≤ s.pos + s.l.length ∧ (tx s n).1.length ≤ s.l.length := by
  unfold tx
  split
  · exact ⟨by show s.pos + 0 ≤ _; omega, Nat.zero_le _⟩
  · have h1 := nx_sum s n true
    have h2 := nx_sum (nx s n true).2 (lev (nx s n true).1 : Nat) false
    refine ⟨by omega, ?_⟩
    refine Nat.le_trans h2.2 ?_
    unfold nx
    split
    · exact Nat.le_refl _
    · split
      · exact Nat.zero_le _
      · split
        · exact Nat.zero_le _
        · show (s.l.drop n.toNat).length ≤ _
          rw [List.length_drop]; omega
theorem st_sum (s : TS) : ∀ n, (st s n).pos + (st s n).l.length ≤ s.pos + s.l.length
  | 0 => Nat.le_refl _
  | n + 1 => by
    have h1 := st_sum s n
    have h2 := (tx_sum (st s n) 1).1
    have h3 := (tx_sum (tx (st s n) 1).2 2).1
    show (tx (tx (st s n) 1).2 2).2.pos + (tx (tx (st s n) 1).2 2).2.l.length ≤ _
    omega
/-- The state ahead of the tags; how many there are; the state behind them; the sum. -/
def g0 (b : List Nat) : TS := (nx (nx ⟨0, b, 0⟩ 2 false).2 1 true).2
def gc (b : List Nat) : Nat := lev (nx (nx ⟨0, b, 0⟩ 2 false).2 1 true).1
def gE (b : List Nat) : TS := st (g0 b) (gc b)
def gX (b : List Nat) : List Nat × TS := nx (gE b) 4 true
def gT (b : List Nat) : Nat → Tag := tgx (g0 b)
/-- What is wrong with bytes; the tags that are read; how many bytes these have. -/
def gF (b : List Nat) : Int := if Bgn b then (if (gX b).2.F = 0 then (if lev (gX b).1 = cs (b.take (gE b).pos) then (chk (gT b) (gc b)).2 else 33) else ((gX b).2.F : Int)) else 31
def gL (b : List Nat) : List Tag := if gF b = 0 then lst (gT b) (gc b) else []
def gP (b : List Nat) : Nat := if gF b = 0 then (gX b).2.pos else 0
theorem g0_sum (b : List Nat) : (g0 b).pos + (g0 b).l.length ≤ b.length := by
  have h1 := (nx_sum ⟨0, b, 0⟩ 2 false).1
  have h2 := (nx_sum (nx ⟨0, b, 0⟩ 2 false).2 1 true).1
  show (nx (nx ⟨0, b, 0⟩ 2 false).2 1 true).2.pos + (nx (nx ⟨0, b, 0⟩ 2 false).2 1 true).2.l.length ≤ _
  have h3 : (TS.mk 0 b 0).pos + (TS.mk 0 b 0).l.length = b.length := by show 0 + b.length = _; omega
  omega
theorem gE_sum (b : List Nat) : (gE b).pos + (gE b).l.length ≤ b.length := Nat.le_trans (st_sum (g0 b) (gc b)) (g0_sum b)
theorem gX_sum (b : List Nat) : (gX b).2.pos + (gX b).2.l.length ≤ b.length := Nat.le_trans (nx_sum (gE b) 4 true).1 (gE_sum b)
theorem gT_sz (b : List Nat) (hb : b.length ≤ 549755813888) (i : Nat) : (gT b i).k.size ≤ 1099511627776 ∧ (gT b i).v.size ≤ 1099511627776 := by
  have h0 := g0_sum b
  have h1 := st_sum (g0 b) i
  have h2 := tx_sum (st (g0 b) i) 1
  have h3 := tx_sum (tx (st (g0 b) i) 1).2 2
  refine ⟨?_, ?_⟩
  · show (tos (tx (st (g0 b) i) 1).1).size ≤ _
    rw [tos_size]; omega
  · show (tos (tx (tx (st (g0 b) i) 1).2 2).1).size ≤ _
    rw [tos_size]; omega
/-- What Get leaves. -/
def GetP (w : World) (b : List Nat) (e : Ending) (w' : World) : Prop :=
  ∃ ao cap, e = .returned (.tuple #[.slice ao (gL b).length cap, .int .i64 (gP b : Int), .int .i64 (gF b)]) ∧ Ow w' w.heap.size ao cap (gL b) ∧ Below w.heap.size w w'
theorem getp_no {w w' : World} {b : List Nat} {e : Int} (he : gF b = e) (h0 : e ≠ 0) (hb : Below w.heap.size w w') : GetP w b (.returned (.tuple #[.slice none 0 0, .int .i64 0, .int .i64 e])) w' := by
  have hl : gL b = [] := by unfold gL; rw [he, if_neg h0]
  have hp : gP b = 0 := by unfold gP; rw [he, if_neg h0]
  unfold GetP
  rw [hl, hp, he]
  exact ⟨none, 0, rfl, World.ownsRow_nil _ _ _ _, hb⟩
theorem getp_ok {w w' : World} {b : List Nat} {g n p : Nat} (he : gF b = 0) (hn : gc b = n) (hp : (gX b).2.pos = p) (ho : Ow w' w.heap.size (some ⟨g, 0, none⟩) n (lst (gT b) n)) (hb : Below w.heap.size w w') : GetP w b (.returned (.tuple #[.slice (some ⟨g, 0, none⟩) n n, .int .i64 (p : Int), .int .i64 0])) w' := by
  have hl : gL b = lst (gT b) n := by unfold gL; rw [he, if_pos rfl, hn]
  have hq : gP b = p := by unfold gP; rw [he, if_pos rfl, hp]
  unfold GetP
  rw [hl, hq, he, lst_len]
  exact ⟨some ⟨g, 0, none⟩, n, rfl, ho, hb⟩
theorem gF_kind {b : List Nat} (h : ¬ Bgn b) : gF b = 31 := by unfold gF; rw [if_neg h]
theorem gF_end {b : List Nat} (h : Bgn b) {F : Nat} (e : (gX b).2.F = F) (h0 : F ≠ 0) : gF b = F := by unfold gF; rw [if_pos h, e, if_neg h0]
theorem gF_sum {b : List Nat} (h : Bgn b) (e : (gX b).2.F = 0) (hs : ¬ lev (gX b).1 = cs (b.take (gE b).pos)) : gF b = 33 := by unfold gF; rw [if_pos h, if_pos e, if_neg hs]
theorem gF_chk {b : List Nat} (h : Bgn b) (e : (gX b).2.F = 0) (hs : lev (gX b).1 = cs (b.take (gE b).pos)) : gF b = (chk (gT b) (gc b)).2 := by unfold gF; rw [if_pos h, if_pos e, if_pos hs]
theorem bel_frq {w0 w w1 : World} {r : Nat} (hb : Below w0.heap.size w0 w) (hf : Fr (fun b => b = r) w w1) (hr : w0.heap.size ≤ r) : Below w0.heap.size w0 w1 :=
  hb.trans ⟨hf.os, hf.tape, hf.output, hf.size, fun k hk => hf.block k (Nat.lt_of_lt_of_le hk hb.size) (by omega)⟩
theorem nx_mem (s : TS) (n : Int) (f : Bool) : (∀ x ∈ (nx s n f).1, x ∈ s.l) ∧ ∀ x ∈ (nx s n f).2.l, x ∈ s.l := by
  unfold nx
  split
  · exact ⟨(fun x h => by cases h), fun x h => h⟩
  · split
    · exact ⟨(fun x h => by cases h), fun x h => by cases h⟩
    · split
      · exact ⟨(fun x h => by cases h), fun x h => by cases h⟩
      · exact ⟨fun x h => List.mem_of_mem_take h, fun x h => List.mem_of_mem_drop h⟩
theorem gc_lt {b : List Nat} (hb : ∀ x ∈ b, x < 256) : gc b < 256 := lev_byte (fun x hx => hb x ((nx_mem ⟨0, b, 0⟩ 2 false).2 x ((nx_mem _ 1 true).1 x hx))) (nx_one _)

set_option maxRecDepth 20000 in
set_option maxHeartbeats 4000000 in
theorem get_any {w : World} {g : Nat} (ht : Tab w g) (hT : Tabs w) {a : Option Addr} {b : List Nat} {cap : Nat} (hb : Byts w a b) (hn : a = none → b.length = 0 ∧ cap = 0) (hc : b.length ≤ cap) (hl : b.length ≤ 549755813888) :
    Calls Tryd.prog 25 #[.pointer (some ⟨g, 0, none⟩), .slice a b.length cap] w (GetP w b) := by
  have HBG := hid (begins_any hb hc (by omega))
  have HTK := hid (take_any hb hn hl)
  have HB := hid hb
  have HTB := hid ht
  have HTS := hid hT
  have hgc := gc_lt hb.lt
  have HES := hid (gE_sum b)
  have HXS := hid (gX_sum b)
  have HZ := hid (show Sz (gT b) (gc b) from ⟨by omega, fun i _ => (gT_sz b hl i).1, fun i _ => (gT_sz b hl i).2⟩)
  have hep : (gE b).pos ≤ b.length := by have := gE_sum b; omega
  have hxp : (gX b).2.pos ≤ b.length := by have := gX_sum b; omega
  clear hb ht hT hn
  by_cases hB : Bgn b
  · have q0 : decide (Bgn b) = true := decide_eq_true hB
    rw [q0] at HBG
    have HE := hid fun F e h0 => gF_end hB (F := F) e h0
    have HSU := hid (gF_sum hB)
    have HCK := hid (gF_chk hB)
    have HTT := hid fun (W : World) (q : Nat) (h : TkS W q ⟨0, b, 0⟩) => (show Calls Tryd.prog 48 #[.pointer (some ⟨q, 0, none⟩)] W (TknP W q (gc b) (gT b) (gE b)) from taken_any h)
    have HTU := hid fun (W : World) (q : Nat) (h : TkS W q (gE b)) => (show Calls Tryd.prog 50 #[.pointer (some ⟨q, 0, none⟩), .int .i64 4] W (Took W q (gX b).2 (.int .u64 (lev (gX b).1 : Int))) from tku_any h 4)
    have HOK := hid fun (W : World) (g n p : Nat) (he : gF b = 0) (hn : gc b = n) (hp : (gX b).2.pos = p) (ho : Ow W w.heap.size (some ⟨g, 0, none⟩) n (lst (gT b) n)) (hb : Below w.heap.size w W) => getp_ok he hn hp ho hb
    have hcl := cs_lt (fun x hx => HB.out.lt x (List.mem_of_mem_take hx) : ∀ x ∈ b.take (gE b).pos, x < 256)
    have hu4 := u64_small _ hcl
    have HSM := hid fun (W : World) (hw : Below w.heap.size w W) => (show Calls Tryd.prog 45 #[.pointer (some ⟨g, 0, none⟩), .slice a (gE b).pos cap] W fun e w' => e = .returned (.int .u32 (cs (b.take (gE b).pos) : Int)) ∧ W = w' by
      have h9 := tsum_any (cap := cap) (HTB.out.keep (hw.block g HTB.out.lt)) ((HB.out.keep hw).take (gE b).pos) (by rw [List.length_take]; omega)
      rw [List.length_take, Nat.min_eq_left hep] at h9
      exact h9)
    clear HB HTB q0 hB
    obtain ⟨n, hn⟩ : ∃ n, gc b = n := ⟨_, rfl⟩
    have HN := hid hn
    rw [hn] at HTT HCK hgc HZ
    obtain ⟨sE, hE⟩ : ∃ sE, gE b = sE := ⟨_, rfl⟩
    rw [hE] at HTT HTU HSM HSU HCK hcl hu4 hep
    obtain ⟨X, hX⟩ : ∃ X, gX b = X := ⟨_, rfl⟩
    rw [hX] at HTU HE HSU HCK HOK hxp
    generalize cs (b.take sE.pos) = SM at *
    clear hn hE hX HES HXS
    go_enter Tryd.func25, Tryd.ntmps25
    go_wp2_with fail
    refine HBG.out.mono ?_
    rintro e w1 ⟨rfl, rfl⟩
    go_wp2_with fail
    refine HTK.out.mono ?_
    rintro e w2 ⟨q, rfl, hq2, ht2, hb2⟩
    have HQ := hid hq2
    have HB2 := hid hb2
    have HT3 := hid (HTT.out w2 q ht2)
    have HQ2 := hid ht2.lt
    clear hq2 hb2 ht2 HTK HBG HTT
    go_wp2_with fail
    refine HT3.out.mono ?_
    rintro e w3 ⟨g3, rfl, hg3, ho3, ht3, hf3⟩
    have HB3 := hid (bel_frq HB2.out hf3 HQ.out)
    have HO3 := hid (show Ow w3 w.heap.size (some ⟨g3, 0, none⟩) n (lst (gT b) n) from own_mono ho3 HB2.out.size)
    have HA3 := hid (tat_any ht3)
    have HU3 := hid (HTU.out w3 q ht3)
    have HG3 := hid (show q < g3 from Nat.lt_of_lt_of_le HQ2.out hg3)
    clear ho3 ht3 hf3 HT3 HTU hg3
    go_wp2_with fail
    refine HA3.out.mono ?_
    rintro e w4 ⟨rfl, rfl⟩
    go_wp2_with fail
    refine HU3.out.mono ?_
    rintro e w5 ⟨rfl, ht5, hf5⟩
    have HB5 := hid (bel_frq HB3.out hf5 HQ.out)
    have HER := hid (terr_any ht5)
    have HATK := hid fun (W : World) (hw : Below w5.heap.size w5 W) => tat_any (ht5.below hw)
    have HS5 := hid (HSM.out w5 HB5.out)
    have HO5 := hid (show Ow w5 w.heap.size (some ⟨g3, 0, none⟩) n (lst (gT b) n) from own_block HO3.out (fun g' hg' => hf5.block g' (by
      rcases own_at HO3.out with ⟨e9, _, _⟩ | ⟨g9, e9, _, hlt9, _⟩
      · cases e9
      · cases e9; have e8 : g3 = g' := by simpa [blk] using hg'
        omega) (by have e8 : g3 = g' := by simpa [blk] using hg'
                   have := HG3.out; omega)))
    clear ht5 hf5 HU3 HA3
    by_cases hF : X.2.F = 0
    · have t0 : ((X.2.F : Int) != 0) = false := by rw [hF]; rfl
      have HSF := hid (HSU.out hF)
      have HCF := hid (HCK.out hF)
      clear HSU HCK HE hF
      go_wp2_with fail
      refine HER.out.mono ?_
      rintro e w6 ⟨rfl, rfl⟩
      go_wp2_with fail
      refine HS5.out.mono ?_
      rintro e w6 ⟨rfl, rfl⟩
      by_cases hs : lev X.1 = SM
      · have t1 : ((lev X.1 : Int) != (SM : Int)) = false := by rw [hs]; simp
        have HCG := hid (HCF.out hs)
        have hon := HO5.out
        unfold Ow at hon
        rw [lst_len] at hon
        have HO6 := hid hon
        obtain ⟨b6, t6, _, _⟩ := HO5.out.tb
        rw [lst_len] at t6
        have hck := check_any _ (HTS.out.keep HB5.out) (t6.congr (fun i hi => gt_lst (gT b) n i hi)) HZ.out (cap := n) (Nat.le_refl _)
        obtain ⟨C, hC⟩ : ∃ C, chk (gT b) n = C := ⟨_, rfl⟩
        rw [hC] at hck HCG
        have HCH := hid hck
        clear hC t6 hck hon HSF HCF hs
        go_wp2_with fail
        refine HCH.out.mono ?_
        rintro e w7 ⟨rfl, hb7⟩
        have HB7 := hid (HB5.out.trans (hb7.mono HB5.out.size))
        have HO7 := hid (HO5.out.keep hb7)
        have HA7 := hid (HATK.out w7 hb7)
        clear hb7
        by_cases h0 : C.2 = 0
        · have q0 : (C.2 != 0) = false := by rw [h0]; rfl
          have HF := hid (HOK.out w7 g3 n X.2.pos (by rw [HCG.out, h0]) HN.out rfl HO7.out HB7.out)
          clear h0
          go_wp2_with fail
          refine HA7.out.mono ?_
          rintro e w8 ⟨rfl, rfl⟩
          go_wp2_with fail
          go_ret3
          exact HF.out
        · have q0 : (C.2 != 0) = true := by rw [bne_iff_ne]; exact h0
          have HF := hid (getp_no (w := w) HCG.out h0 HB7.out)
          clear h0
          go_wp2_with fail
          go_ret3
          exact HF.out
      · have t1 : ((lev X.1 : Int) != (SM : Int)) = true := by rw [bne_iff_ne]; omega
        have HF := hid (getp_no (w := w) (HSF.out hs) (by decide) HB5.out)
        clear hs HSF HCF
        go_wp2_with fail
        go_ret3
        exact HF.out
    · have t0 : ((X.2.F : Int) != 0) = true := by rw [bne_iff_ne]; omega
      have HF := hid (getp_no (w := w) (HE.out X.2.F rfl hF) (by omega) HB5.out)
      clear HSU HCK HE hF
      go_wp2_with fail
      refine HER.out.mono ?_
      rintro e w6 ⟨rfl, rfl⟩
      go_wp2_with fail
      refine HER.out.mono ?_
      rintro e w6 ⟨rfl, rfl⟩
      go_wp2_with fail
      go_ret3
      exact HF.out
  · have q0 : decide (Bgn b) = false := decide_eq_false hB
    rw [q0] at HBG
    have HF := hid (getp_no (w := w) (w' := w) (gF_kind hB) (by decide) (Below.refl _ _))
    clear HB HTB q0 hB HTK HTS HES HXS HZ
    go_enter Tryd.func25, Tryd.ntmps25
    go_wp2_with fail
    refine HBG.out.mono ?_
    rintro e w1 ⟨rfl, rfl⟩
    go_wp2_with fail
    go_ret3
    exact HF.out
end Go.Proofs.YtfkklmklbmdlhaaDoor.Tg
