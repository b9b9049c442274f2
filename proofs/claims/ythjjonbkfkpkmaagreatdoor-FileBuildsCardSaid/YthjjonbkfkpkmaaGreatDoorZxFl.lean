/- Build of the document: a file is put together, or refused. Conditions: at most 12 blocks of at most 300 bytes; tags of at most 2^40 letters. -/
import Derived.Test.YthjjonbkfkpkmaaGreatDoorZ26
import Derived.Test.YthjjonbkfkpkmaaGreatDoorZ32
import Derived.Test.YthjjonbkfkpkmaaGreatDoorZ33
import Derived.Test.YthjjonbkfkpkmaaGreatDoorZxNj
namespace Go.Proofs.YthjjonbkfkpkmaaGreatDoor.Fil
open Go.RowKit Gen
open Tl (il il_app rise TRt)
attribute [local go_sem] Oper.semAt_some

theorem ad_eq {i : Inf.If} {n : Nat} {sh : Bool} {c : Int} {l : List Nat} (h : 0 ≤ c ∧ c ≤ 1000000) :
    adE i n sh c l = if Head.opE l ≠ 0 then Head.opE l else if Head.szn l + 36 < l.length then 62 else nxt i (Head.opH l) n sh := by
  unfold adE
  by_cases h0 : Head.opE l = 0
  · obtain ⟨hr, _⟩ := op_ok h0
    have hl := hr.1.2.2.2.1
    have e : (if nxt i (Head.opH l) n sh ≠ 0 then nxt i (Head.opH l) n sh else if 4294967295 < c + (Head.opH l).ln then 61 else 0) = nxt i (Head.opH l) n sh := by
      by_cases h2 : nxt i (Head.opH l) n sh = 0
      · rw [h2, if_neg (fun e => e rfl), if_neg (by omega)]
      · rw [if_pos h2]
    rw [e]
  · rw [if_pos h0, if_pos h0]
/-- The count of the first k blocks is small. -/
theorem bst_small {i : Inf.If} {L : Nat → List Nat} {at0 : Nat} : ∀ k, ber i L at0 k = 0 → 0 ≤ (bst i L at0 k).c ∧ (bst i L at0 k).c ≤ 65536 * (k : Int)
  | 0, _ => ⟨Int.le_refl _, Int.le_refl _⟩
  | k + 1, h => by
    obtain ⟨h0, ha⟩ := ber_pre h
    obtain ⟨i1, i2⟩ := bst_small k h0
    obtain ⟨_, _, _, _, hr, _⟩ := ad_ok ha
    have h1 := hr.1.2.2.1
    have h2 := hr.1.2.2.2.1
    have e2 : (bst i L at0 (k + 1)).c = (bst i L at0 k).c + (Head.opH (L k)).ln := rfl
    rw [e2]
    constructor <;> omega
/-- What stands ahead of block k in the document's walk. -/
structure RB (w : World) (Bo gx : Nat) (i : Inf.If) (L : Nat → List Nat) (at0 k s : Nat) (pre : List Nat) (ap : Option Addr) (capp : Nat) (ao : Option Addr) (ca : Nat) (N : Nat) (wr : World) : Prop where
  e0 : ber i L at0 k = 0
  tx : Tl.Tx wr gx (bst i L at0 k).c s ap k capp
  po : wr.ownsRow (gx + 1) 3 1 (.slice ap k capp) k (il (bst i L at0 k).P)
  oo : wr.ownsRow Bo 5 1 (.slice ao N ca) N (bl (pre ++ flat L k))
  ln : (pre ++ flat L k).length = N
  lt : ∀ b ∈ pre ++ flat L k, b < 256
  d1 : blk ao ≠ some gx
  d2 : ∀ q, blk ao = some q → blk ap ≠ some q
  bel : Below w.heap.size w wr
  gw : w.heap.size + 1 ≤ gx
  gb : w.heap.size + 1 ≤ Bo ∧ Bo ≤ gx
  bx : Inf.Bx wr w.heap.size i
section
variable {w wr w' : World} {Bo gx : Nat} {i : Inf.If} {L : Nat → List Nat} {at0 k s : Nat} {pre : List Nat} {ap ao : Option Addr} {capp ca N : Nat}
theorem RB.more (h : RB w Bo gx i L at0 k s pre ap capp ao ca N wr) (hb : Below wr.heap.size wr w') : RB w Bo gx i L at0 k s pre ap capp ao ca N w' :=
  ⟨h.e0, h.tx.below hb h.tx.lt, ownsRow_block h.po fun q hq => hb.block q (own_in h.po q hq).2, ownsRow_block h.oo fun q hq => hb.block q (own_in h.oo q hq).2, h.ln, h.lt, h.d1, h.d2, h.bel.trans (hb.mono h.bel.size), h.gw, h.gb, h.bx.below hb h.bx.lt⟩
end

theorem cell_new0 {w : World} (u : Value) (t : TypeId) : (w.alloc (.cells #[u] t)).cell? ⟨w.heap.size, 0, none⟩ = some u := by
  have h := heap_alloc_new w (.cells #[u] t)
  unfold World.cell?
  rw [h]
  rfl
set_option maxHeartbeats 4000000 in
set_option maxRecDepth 100000 in
theorem rbuild_any {w : World} (i : Inf.If) {a : Option Addr} {len b off : Nat} {T : Nat → Tg.Tag} (hl : Tg.Tb w a len b off T) (hz : Tg.Sz T len) {capt : Nat} (hct : len ≤ capt)
    {ab : Option Addr} {n bb bo capb : Nat} {L : Nat → List Nat} (hb : Bb w ab n bb bo L) (hf : Fwb L n) {s : Nat} (hs : s < 4294967296) :
    Calls Tryz.prog 11 #[Inf.iv i, .slice a len capt, .slice ab n capb, .int .u32 (s : Int)] w (PutF w (bdE i T len L n) (bdB i T len L n s)) := by
  obtain ⟨at0, hat0⟩ : ∃ at0, at0 = 19 + (Tg.pby (Tg.lst T len)).length := ⟨_, rfl⟩
  have HE1 := hid (show ¬ Inf.Rt i → bdE i T len L n = 32 from fun h => if_pos h)
  have HE2 := hid (show Inf.Rt i → (Tg.chk T len).2 ≠ 0 → bdE i T len L n = (Tg.chk T len).2 from fun h h2 => by unfold bdE; rw [if_neg (fun e => e h), if_pos h2])
  have HE3 := hid (show Inf.Rt i → (Tg.chk T len).2 = 0 → bdE i T len L n = ber i L at0 n from fun h h2 => by unfold bdE; rw [if_neg (fun e => e h), if_neg (fun e => e h2), hat0])
  have HB0 := hid (show bdE i T len L n ≠ 0 → bdB i T len L n s = [] from fun h => if_neg h)
  have HB1 := hid (show bdE i T len L n = 0 → bdB i T len L n s = Inf.iby i ++ Tg.pby (Tg.lst T len) ++ flat L n ++ Tl.tby (bst i L at0 n).c s (bst i L at0 n).P from fun h => by unfold bdB; rw [if_pos h, hat0])
  generalize bdE i T len L n = E at *
  generalize bdB i T len L n s = R at *
  have HBB := hid hb
  have HFW := hid hf
  have HRT := hid fun w => Inf.rright_any i w
  have HPI := hid fun (hr : Inf.Rt i) w => Inf.rput_ok i hr w
  have HCK := hid fun (w' : World) (hb' : Below w.heap.size w w') => Tg.rcheck_any w' (hl.keep hb') hz hct
  have HPT := hid fun (w' : World) (hb' : Below w.heap.size w w') (hk : (Tg.chk T len).2 = 0) => Tg.rput_any (cap := capt) (hl.keep hb') hk
  have HBX := hid (Inf.Bx.new w i)
  have HB00 := hid (Inf.below_new w (.cells (Inf.ivl i) 25))
  have HSZ0 := hid (show (w.alloc (.cells (Inf.ivl i) 25)).heap.size = w.heap.size + 1 from Array.size_push _)
  clear hl hb hf hz hct
  obtain ⟨ik, ⟨ich, ibits, irate⟩, ibk, ish⟩ := i
  obtain ⟨iw, hiw⟩ : ∃ iw : Inf.If, iw = ⟨ik, ⟨ich, ibits, irate⟩, ibk, ish⟩ := ⟨_, rfl⟩
  have ev : Inf.iv ⟨ik, ⟨ich, ibits, irate⟩, ibk, ish⟩ = .agg #[.int .i64 ik, .int .i64 ich, .int .i64 ibits, .int .i64 irate, .int .i64 ibk, .int .i64 ish] := rfl
  have el : Inf.ivl ⟨ik, ⟨ich, ibits, irate⟩, ibk, ish⟩ = #[.int .i64 ik, .int .i64 ich, .int .i64 ibits, .int .i64 irate, .int .i64 ibk, .int .i64 ish] := rfl
  rw [ev] at HRT HPI ⊢
  rw [el] at HBX HB00 HSZ0
  rw [← hiw] at HE1 HE2 HE3 HB1 HBX HRT HPI
  have HIW := hid hiw
  clear hiw ev el
  have y0 : iw.k = ik := by rw [HIW.out]
  have y1 : iw.f.ch = ich := by rw [HIW.out]
  have y2 : iw.f.bits = ibits := by rw [HIW.out]
  have y3 : iw.f.rate = irate := by rw [HIW.out]
  have y4 : iw.bk = ibk := by rw [HIW.out]
  have y5 : iw.sh = ish := by rw [HIW.out]
  have HY := hid (And.intro y0 (And.intro y1 (And.intro y2 (And.intro y3 (And.intro y4 y5)))))
  have x0 := HBX.out.c0
  have x1 := HBX.out.c1
  have x2 := HBX.out.c2
  have x3 := HBX.out.c3
  have x4 := HBX.out.c4
  have x5 := HBX.out.c5
  rw [y0] at x0
  rw [y1] at x1
  rw [y2] at x2
  rw [y3] at x3
  rw [y4] at x4
  rw [y5] at x5
  clear y0 y1 y2 y3 y4 y5
  by_cases hr : Inf.Rt iw
  rotate_left 1
  · have hE := HE1.out hr
    have hR := HB0.out (by rw [hE]; decide)
    rw [decide_eq_false hr] at HRT
    subst hE
    subst hR
    go_enter Tryz.func11, Tryz.ntmps11
    go_wp2_with fail
    refine (HRT.out _).mono ?_
    rintro e w1 ⟨rfl, hb1⟩
    have HB1' := hid (HB00.out.trans (hb1.mono HB00.out.size))
    go_wp2_with fail
    go_ret2
    exact putf_none 32 HB1'.out
  rw [decide_eq_true hr] at HRT
  have hilen := Inf.iby_len iw
  by_cases hk : (Tg.chk T len).2 = 0
  rotate_left 1
  · have hE := HE2.out hr hk
    have hR := HB0.out (by rw [hE]; exact hk)
    rw [← hE] at HCK hk
    subst hR
    clear HE1 HE2 HE3 HB1 hE
    have hk' : (E != 0) = true := bne_iff_ne.2 hk
    go_enter Tryz.func11, Tryz.ntmps11
    go_wp2_with fail
    refine (HRT.out _).mono ?_
    rintro e w1 ⟨rfl, hb1⟩
    have HB1' := hid (HB00.out.trans (hb1.mono HB00.out.size))
    clear hb1
    go_wp2_with fail
    refine (HCK.out w1 HB1'.out).mono ?_
    rintro e w2 ⟨rfl, hb2⟩
    have HB2' := hid (HB1'.out.trans (hb2.mono HB1'.out.size))
    clear hb2
    go_wp2_with fail
    go_ret2
    exact putf_none _ HB2'.out
  have HE := hid (HE3.out hr hk)
  rw [hk] at HCK
  have htb := Tg.tbs_lst_le hk len (Nat.le_refl _)
  have hpl := pby_len (Tg.lst T len)
  have HPL := hid (show (Tg.pby (Tg.lst T len)).length ≤ 4210823 from by omega)
  clear HE1 HE2 HE3 htb hpl
  go_enter Tryz.func11, Tryz.ntmps11
  go_wp2_with fail
  refine (HRT.out _).mono ?_
  rintro e w1 ⟨rfl, hb1⟩
  have HB1' := hid (HB00.out.trans (hb1.mono HB00.out.size))
  have HBX1 := hid (HBX.out.below hb1 HBX.out.lt)
  clear hb1 HBX HB00 x0 x1 x2 x3 x4 x5
  go_wp2_with fail
  refine (HCK.out w1 HB1'.out).mono ?_
  rintro e w2 ⟨rfl, hb2⟩
  have HB2' := hid (HB1'.out.trans (hb2.mono HB1'.out.size))
  have HBX2 := hid (HBX1.out.below hb2 HBX1.out.lt)
  clear hb2 HBX1 HB1'
  have x0 := HBX2.out.c0
  have x1 := HBX2.out.c1
  have x2 := HBX2.out.c2
  have x3 := HBX2.out.c3
  have x4 := HBX2.out.c4
  have x5 := HBX2.out.c5
  rw [HY.out.1] at x0
  rw [HY.out.2.1] at x1
  rw [HY.out.2.2.1] at x2
  rw [HY.out.2.2.2.1] at x3
  rw [HY.out.2.2.2.2.1] at x4
  rw [HY.out.2.2.2.2.2] at x5
  go_wp2_with fail
  refine (HPI.out hr w2).mono ?_
  rintro e w3 ⟨af, cf, rfl, hn3⟩
  have HB3 := hid (HB2'.out.trans (hn3.bel.mono HB2'.out.size))
  have HBX3 := hid (HBX2.out.below hn3.bel HBX2.out.lt)
  have HN3 := hid hn3
  rw [hilen]
  have ho3 := hn3.own
  rw [hilen] at ho3
  have HO3 := hid ho3
  have HBX2L := hid HBX2.out.lt
  clear hn3 ho3 x0 x1 x2 x3 x4 x5 HBX2
  go_wp2_with fail
  refine (HPT.out w3 HB3.out hk).mono ?_
  rintro e w4 ⟨aw, cw, rfl, hn4⟩
  have HB4 := hid (HB3.out.trans (hn4.bel.mono HB3.out.size))
  have HBX4 := hid (HBX3.out.below hn4.bel HBX3.out.lt)
  have HO4 := hid (ownsRow_block HO3.out fun q hq => hn4.bel.block q (own_in HO3.out q hq).2)
  have HN4 := hid hn4
  have HW2 := hid HB2'.out.size
  have HW2L := hid HBX2L.out
  have HW23 := hid HN3.out.bel.size
  have HILT := hid HN3.out.lt
  clear hn4 HO3 HN3 HB3 HBX3
  obtain ⟨pw, hpw⟩ : ∃ pw, pw = Tg.pby (Tg.lst T len) := ⟨_, rfl⟩
  rw [← hpw] at HB1 HPL HN4 hat0 ⊢
  obtain ⟨Lw, hLw⟩ : ∃ Lw, Lw = pw.length := ⟨_, rfl⟩
  rw [← hLw] at HPL hat0 ⊢
  have ho5 := HN4.out.own
  rw [← hLw] at ho5
  have HO5 := hid ho5
  have HLW2 := hid hLw
  have HAT := hid hat0
  have hLw4 : Lw ≤ 4210823 := HPL.out
  obtain ⟨i5, hi5, hz50, hz51, hz52⟩ := info_parts Tryz.info5
  clear ho5 hLw hpw hat0
  have hnw : aw = none → Lw = 0 := fun e => by
    rcases ownsRow_at HO5.out with ⟨_, h0, _, _⟩ | ⟨q, hq⟩
    · exact h0
    · rw [e] at hq; cases hq
  go_wp2_with (at_builtin; go_must (refine wpList_append_src _ rfl (.tmp 33) (.tmp 35) 32 rfl w2.heap.size 5 i5 (.int .u8 0) 1 Tryz.underlying32 hi5 hz50 hz51 hz52 rfl af 19 cf (bl (Inf.iby iw)) rfl HO4.out aw Lw cw (bl pw) rfl (by rw [bl_len]; exact HLW2.out.symm) hnw (fun ad had j u hj => HN4.out.byts.cells ad had j u hj) (bl_one _) (by unfold maxLen; omega) (by omega) (by have := HW2.out; have := HW23.out; have := HN4.out.bel.size; omega) ?_))
  intro ao ca w5 ho5 hg5 hat5
  have HBX5 : Hid (Inf.Bx w5 w.heap.size iw) := hid ⟨(hg5.block w.heap.size HBX4.out.lt (fun e => by have := (own_in HO4.out w.heap.size e.symm).1; have := HW2L.out; omega)).trans HBX4.out.row⟩
  have HB5 : Hid (Below w.heap.size w w5) := hid (HB4.out.grown hg5 HB4.out.size (fun q hq => by have := (own_in HO4.out q hq).1; have := HW2L.out; omega))
  have HO5A := hid ho5
  have hsz5 : w4.heap.size ≤ w5.heap.size := hg5.size
  have HSZ5 := hid hsz5
  have HAN := hid (heap_alloc_new w5 (.cells #[.int .i64 0, .int .u32 0, .slice none 0 0] 43))
  have hb6 : Below w5.heap.size w5 ((w5.alloc (.cells #[.int .i64 0, .int .u32 0, .slice none 0 0] 43)).setRow w5.heap.size #[.int .i64 0, .int .u32 (s : Int), .slice none 0 0]) := Inf.fr_rowBelow (Inf.below_new w5 _) (Nat.le_refl _)
  have HTX6 := hid (show Tl.Tx ((w5.alloc (.cells #[.int .i64 0, .int .u32 0, .slice none 0 0] 43)).setRow w5.heap.size #[.int .i64 0, .int .u32 (s : Int), .slice none 0 0]) w5.heap.size 0 s none 0 0 from ⟨setRow_heap _ _ _ _ _ _ HAN.out⟩)
  have HB6 := hid hb6
  have HPWL := hid HN4.out.lt
  have HGB := hid (show w.heap.size + 1 ≤ w2.heap.size ∧ w2.heap.size ≤ w5.heap.size from ⟨by have := HW2L.out; omega, by have := HW23.out; have := HN4.out.bel.size; omega⟩)
  clear ho5 hg5 hat5 hsz5 hb6 HO4 HO5 HN4 HBX4 HB4 hnw hi5 hz50 hz51 hz52
  go_wp2_with (refine wpList_store_row rfl 43 _ _ rfl w5.heap.size #[.int .i64 0, .int .u32 (s : Int), .slice none 0 0] rfl rfl 43 #[.int .i64 0, .int .u32 0, .slice none 0 0] HAN.out Tl.Tryz.size43 rfl (by simp [Value.oneCell']) ?_)
  have HPRE : Hid (∃ pre, pre = Inf.iby iw ++ pw) := hid ⟨_, rfl⟩
  obtain ⟨pre, hpre⟩ := HPRE.out
  rw [← hpre] at HB1
  have hprel : pre.length = 19 + Lw := by rw [hpre, List.length_append, hilen, ← HLW2.out]
  have HPREL := hid (hprel.trans HAT.out.symm)
  have HPLT := hid (show ∀ b ∈ pre, b < 256 from fun b hb => by
    rw [hpre] at hb
    rcases List.mem_append.1 hb with hb | hb
    · exact HILT.out b hb
    · exact HPWL.out b hb)
  have HOB : Hid (w5.ownsRow w2.heap.size 5 1 (.slice ao (19 + Lw) ca) (19 + Lw) (bl pre)) := hid (by rw [hpre, bl_app]; exact HO5A.out)
  have HBX6 := hid (HBX5.out.below HB6.out HBX5.out.lt)
  have HB06 := hid (HB5.out.trans (HB6.out.mono HB5.out.size))
  have HO6 := hid (ownsRow_block HOB.out fun q hq => HB6.out.block q (own_in HOB.out q hq).2)
  have HOLT := hid (show ∀ q, blk ao = some q → q < w5.heap.size from fun q hq => (own_in HOB.out q hq).2)
  have HATL := hid (show at0 ≤ 4210842 from by have := HAT.out; omega)
  clear HPRE hprel hpre HAN HBX5 HB5 HOB HO5A
  generalize (w5.alloc (.cells #[.int .i64 0, .int .u32 0, .slice none 0 0] 43)).setRow w5.heap.size #[.int .i64 0, .int .u32 (s : Int), .slice none 0 0] = w6 at *
  generalize w5.heap.size = gx at *
  generalize w2.heap.size = Bo at *
  have hgo : ((19 + Lw : Nat) : Int) = 19 + (Lw : Int) := by omega
  clear hgo
  rw [← HAT.out] at HO6 ⊢
  go_loopg [15, 12, 14] n (fun gh v vo vs wr => ∃ (k : Nat) (ap : Option Addr) (capp : Nat) (ao : Option Addr) (ca M : Nat), k ≤ n ∧ gh = n - k ∧ v = .int .i64 k ∧ vo = .slice ao M ca ∧ vs = .bool (bst iw L at0 k).sh ∧ RB w Bo gx iw L at0 k s pre ap capp ao ca M wr)
  case atStart => exact ⟨0, none, 0, ao, ca, at0, Nat.zero_le _, rfl, rfl, rfl, rfl, rfl, HTX6.out, World.ownsRow_nil _ _ _ _, (by show World.ownsRow _ _ _ _ _ _ (bl (pre ++ [])); rw [List.append_nil]; exact HO6.out), (by show (pre ++ []).length = at0; rw [List.append_nil]; exact HPREL.out), (by show ∀ b ∈ pre ++ [], b < 256; rw [List.append_nil]; exact HPLT.out), (fun e => by have := HOLT.out gx e; omega), (fun q hq e => by cases e), HB06.out, (by have := HGB.out; omega), HGB.out, HBX6.out⟩
  case round =>
    clear HTX6 HO6 HB06 HBX6 HOLT HB6
    obtain ⟨k, ap, capp, ao, ca, M, hk, hgh, rfl, rfl, rfl, hrb⟩ := hrel
    have HG := hid hgh
    have HRB := hid hrb
    clear hgh hrb
    by_cases hlt : k < n
    · have hlt2 : (k : Int) < (n : Int) := by omega
      have hbwr := HRB.out.bel
      obtain ⟨p, capk, hck, hbk, hcapk⟩ := (HBB.out.keep hbwr).c k hlt
      have hadr : ab = some ⟨bb, bo, none⟩ := HBB.out.addr (by omega)
      subst hadr
      have hlk := HFW.out.2 k hlt
      have hn12 := HFW.out.1
      obtain ⟨hc0, hc1⟩ := bst_small (i := iw) (L := L) (at0 := at0) k HRB.out.e0
      obtain ⟨ha1, _⟩ := bst_ok k HRB.out.e0 (by have := fwb_flat HFW.out hk; have := HATL.out; omega)
      have HST := hid ((ber_step (i := iw) (L := L) HRB.out.e0).trans (ad_eq (i := iw) (n := k) (sh := (bst iw L at0 k).sh) (l := L k) ⟨hc0, by omega⟩))
      have HOP := hid (Head.ropen_any (cap := capk) hbk hcapk (by omega))
      have HOK := hid (fun e => op_ok (l := L k) e)
      have HM := hid (show M = (bst iw L at0 k).at_ from by have := HRB.out.ln; rw [List.length_append, HPREL.out] at this; omega)
      have HC := hid (And.intro hc0 (show (bst iw L at0 k).c ≤ 1000000 by omega))
      have HFLT := hid (fwb_flat HFW.out (show k + 1 ≤ n by omega))
      clear hc0 hc1 ha1 hbwr
      obtain ⟨lk, hlkk⟩ : ∃ lk, lk = (L k).length := ⟨_, rfl⟩
      rw [← hlkk] at hck hcapk hlk HST HOP HOK
      have HLK := hid hlkk
      have HBK := hid hbk
      obtain ⟨eo, heo⟩ : ∃ eo, Head.opE (L k) = eo := ⟨_, rfl⟩
      rw [heo] at HST HOP HOK
      have HEO := hid heo
      clear heo hlkk hbk
      generalize hpl : Head.opP (L k) = pl at *
      generalize hsm : Head.opS (L k) = sm at *
      generalize hhd : Head.opH (L k) = hd at *
      generalize hz : Head.szn (L k) = z at *
      have HHD := hid hhd
      have HZ := hid hz
      clear hpl hsm hhd hz
      go_wp2_with fail
      refine HOP.out.mono ?_
      rintro e w1 ⟨pp, pc, rfl, hby, hb1⟩
      rw [show Head.hv hd = .agg (Head.hvl hd) from rfl]
      have HAN := hid (heap_alloc_new w1 (.cells #[.int .i64 0, .int .i64 0, .int .i64 0, .int .i64 0, .int .i64 0, .bool false, .int .u32 0, .int .i64 0] 61))
      have hb2 : Below w1.heap.size w1 ((w1.alloc (.cells #[.int .i64 0, .int .i64 0, .int .i64 0, .int .i64 0, .int .i64 0, .bool false, .int .u32 0, .int .i64 0] 61)).setRow w1.heap.size (Head.hvl hd)) := Head.fr_rowBelow (Head.below_new w1 _) (Nat.le_refl _)
      have HX2 := hid (show Head.Bx ((w1.alloc (.cells #[.int .i64 0, .int .i64 0, .int .i64 0, .int .i64 0, .int .i64 0, .bool false, .int .u32 0, .int .i64 0] 61)).setRow w1.heap.size (Head.hvl hd)) w1.heap.size hd from ⟨setRow_heap _ _ _ _ _ _ HAN.out⟩)
      have HRB2 := hid ((HRB.out.more hb1).more hb2)
      have HCK2 := hid (show ((w1.alloc (.cells #[.int .i64 0, .int .i64 0, .int .i64 0, .int .i64 0, .int .i64 0, .bool false, .int .u32 0, .int .i64 0] 61)).setRow w1.heap.size (Head.hvl hd)).cell? ⟨bb, bo + k, none⟩ = some (.slice p lk capk) from by
        have hl : bb < wr.heap.size := World.block_lt_of_cell? _ _ hck
        exact (hb2.cell (p := ⟨bb, bo + k, none⟩) (Nat.lt_of_lt_of_le hl hb1.size)).trans ((hb1.cell (p := ⟨bb, bo + k, none⟩) hl).trans hck))
      have HBK2 := hid ((HBK.out.keep hb1).keep hb2)
      have HNX := hid fun w => rnext_any iw hd (k : Int) (bst iw L at0 k).sh w
      have hev : Inf.iv iw = .agg #[.int .i64 ik, .int .i64 ich, .int .i64 ibits, .int .i64 irate, .int .i64 ibk, .int .i64 ish] := by rw [HIW.out]; rfl
      rw [hev] at HNX
      clear hev
      have HGX1 := hid (Nat.lt_of_lt_of_le HRB.out.tx.lt hb1.size)
      have HPQ := hid (show ∀ q, blk ap = some q → q < w1.heap.size from fun q hq => Nat.lt_of_lt_of_le (own_in HRB.out.po q hq).2 hb1.size)
      clear hby hb1 hb2 hck HRB HBK HOP
      by_cases hE : eo = 0
      · subst hE
        obtain ⟨hrt, hsz, hle, hzl⟩ := HOK.out rfl
        have HS1 := hid (HST.out.trans (if_neg (fun h => h rfl)))
        clear HST
        have hu : wrap64 (36 + (z : Int)) = 36 + (z : Int) := IntWalk.wrap64_in _ (by omega)
        have c7 := HX2.out.c7
        rw [hsz] at c7
        have HSZH := hid hsz
        have HRTH := hid hrt
        have HLE := hid (And.intro hle hzl)
        clear hsz hrt hle hzl HOK
        go_wp2_with (refine wpList_store_row rfl 61 _ _ rfl w1.heap.size (Head.hvl hd) rfl rfl 61 #[.int .i64 0, .int .i64 0, .int .i64 0, .int .i64 0, .int .i64 0, .bool false, .int .u32 0, .int .i64 0] HAN.out (Head.hvl_size hd) rfl (Head.hvl_one hd) ?_)
        have hc2 := HCK2.out
        generalize (w1.alloc (.cells #[.int .i64 0, .int .i64 0, .int .i64 0, .int .i64 0, .int .i64 0, .bool false, .int .u32 0, .int .i64 0] 61)).setRow w1.heap.size (Head.hvl hd) = w2' at *
        go_quiet (fail)
        clear hc2 c7 hu
        have hbq : Below w2'.heap.size w2' (w2'.drewN nq) := ⟨rfl, rfl, rfl, Nat.le_refl _, fun _ _ => rfl⟩
        have HRB3 := hid (HRB2.out.more hbq)
        have HX3 := hid (HX2.out.below hbq HX2.out.lt)
        have HCK3 := hid (show (w2'.drewN nq).cell? ⟨bb, bo + k, none⟩ = some (.slice p lk capk) from HCK2.out)
        have HBK3 := hid (HBK2.out.keep hbq)
        clear hbq HRB2 HX2 HCK2 HBK2 HAN
        generalize w2'.drewN nq = w3 at *
        by_cases hmo : z + 36 < lk
        · have hX := HS1.out.trans (if_pos hmo)
          have hEE : E = 62 := HE.out.trans ((ber_stop (by omega) (by rw [hX]; decide)).trans hX)
          have hR := HB0.out (by rw [hEE]; decide)
          subst hEE
          subst hR
          have hcm : 36 + (z : Int) < (lk : Int) := by omega
          clear hX hmo
          go_wp2_with fail
          go_ret2
          exact putf_none _ HRB3.out.bel
        · have HS2 := hid (HS1.out.trans (if_neg hmo))
          have HLL := hid (show lk = 36 + z from by have := HLE.out.1; have := HLK.out; omega)
          have hcm : ¬ 36 + (z : Int) < (lk : Int) := by omega
          clear HS1 hmo
          have x0 := HRB3.out.bx.c0
          have x1 := HRB3.out.bx.c1
          have x2 := HRB3.out.bx.c2
          have x3 := HRB3.out.bx.c3
          have x4 := HRB3.out.bx.c4
          have x5 := HRB3.out.bx.c5
          rw [HY.out.1] at x0
          rw [HY.out.2.1] at x1
          rw [HY.out.2.2.1] at x2
          rw [HY.out.2.2.2.1] at x3
          rw [HY.out.2.2.2.2.1] at x4
          rw [HY.out.2.2.2.2.2] at x5
          go_wp2_with (refine wpList_load_row rfl 61 _ rfl w1.heap.size rfl 61 (Head.hvl hd) (0, 0) _ HX3.out.row Tryz.underlying61 rfl (Head.hvl_size hd) ?_)
          refine (HNX.out w3).mono ?_
          rintro e w4 ⟨rfl, hb4⟩
          have HRB4 := hid (HRB3.out.more hb4)
          have HX4 := hid (HX3.out.below hb4 HX3.out.lt)
          clear hb4 HRB3 HX3 HCK3 HBK3 x0 x1 x2 x3 x4 x5
          by_cases hx : nxt iw hd (k : Int) (bst iw L at0 k).sh = 0
          rotate_left 1
          · have hX := HS2.out
            have hEE := HE.out.trans ((ber_stop (by omega) (by rw [hX]; exact hx)).trans hX)
            have hR := HB0.out (by rw [hEE]; exact hx)
            generalize nxt iw hd (k : Int) (bst iw L at0 k).sh = Y at *
            have hx' : (Y != 0) = true := bne_iff_ne.2 hx
            subst hEE
            subst hR
            clear hX HS2
            go_wp2_with fail
            go_ret2
            exact putf_none _ HRB4.out.bel
          have HE9 := hid (HS2.out.trans hx)
          rw [hx]
          clear HS2 hx
          have t0 := HRB4.out.tx.c0
          have t2 := HRB4.out.tx.c2
          have tf0 := HRB4.out.tx.fz 0
          have tf2 := HRB4.out.tx.fz 2
          obtain ⟨i3, hi3, hy0, hy1, hy2⟩ := info_parts Tl.Tryz.info3
          have hgl : gx < w4.heap.size := HRB4.out.tx.lt
          have hpo := HRB4.out.po
          go_wp2_with (at_builtin; go_must (refine wpList_append_one rfl (.tmp 76) (.tmp 79) 41 rfl (gx + 1) 3 i3 (.int .i64 0) 8 Tryz.underlying41 hi3 hy0 hy1 hy2 rfl ap k capp (il (bst iw L at0 k).P) rfl (hpo.alloc _) ⟨w4.heap.size, 0, none⟩ 1 (.int .i64 (M : Int)) rfl (cell_new0 _ _) rfl (by unfold maxLen; omega) (by omega) (by show gx + 1 ≤ (w4.alloc _).heap.size; rw [show (w4.alloc (.cells #[.int .i64 (M : Int)] 3)).heap.size = w4.heap.size + 1 from Array.size_push _]; omega) ?_))
          intro gg cap1 w5 how5 hk5
          have hz4 : (w4.alloc (.cells #[.int .i64 (M : Int)] 3)).heap.size = w4.heap.size + 1 := Array.size_push _
          have hfr5 : Fr (fun q => blk ap = some q) w4 w5 := ((Fr.refl _ w4).alloc _).grown hk5.grown (fun q hq _ => hq)
          have hggx : gg ≠ gx := fun e => by
            rcases hk5.at_ with h | h
            · have := (own_in hpo gg h).1; omega
            · rw [hz4] at h; omega
          have hggo : ∀ q, blk ao = some q → gg ≠ q := fun q hq e => by
            rcases hk5.at_ with h | h
            · exact HRB4.out.d2 q hq (by rw [h, e])
            · rw [hz4] at h
              have := (own_in HRB4.out.oo q hq).2; omega
          have hapx : ∀ q, blk ap = some q → gx + 1 ≤ q := fun q hq => (own_in hpo q hq).1
          have hgwx := HRB4.out.gw
          have htx5 := HRB4.out.tx.set hfr5 (fun e => by have := hapx gx e; omega)
          have hoo5 := ownsRow_block HRB4.out.oo fun q hq => hfr5.block q (own_in HRB4.out.oo q hq).2 (fun e => HRB4.out.d2 q hq e)
          have hbx5 : Inf.Bx w5 w.heap.size iw := ⟨(hfr5.block w.heap.size HRB4.out.bx.lt (fun e => by have := hapx _ e; omega)).trans HRB4.out.bx.row⟩
          have hhx5 : Head.Bx w5 w1.heap.size hd := ⟨(hfr5.block w1.heap.size HX4.out.lt (fun e => by have := HPQ.out _ e; omega)).trans HX4.out.row⟩
          have hbel5 : Below w.heap.size w w5 := HRB4.out.bel.trans ⟨hfr5.os, hfr5.tape, hfr5.output, hfr5.size, fun q hq => hfr5.block q (Nat.lt_of_lt_of_le hq HRB4.out.bel.size) (fun e => by have := hapx q e; omega)⟩
          -- what the two stores leave
          have htx7 := (htx5.set2 (some ⟨gg, 0, none⟩) (k + 1) cap1).set0 ((bst iw L at0 k).c + hd.ln)
          have hst : ∀ q, q ≠ gx → ((w5.setCell ⟨gx, 2, none⟩ (.slice (some ⟨gg, 0, none⟩) (k + 1) cap1)).setCell ⟨gx, 0, none⟩ (.int .i64 ((bst iw L at0 k).c + hd.ln))).heap[q]? = w5.heap[q]? := fun q hq => by
            rw [RowKit.Below.heap_setCell _ _ _ _ (by show q ≠ gx; exact hq), RowKit.Below.heap_setCell _ _ _ _ (by show q ≠ gx; exact hq)]
          have hz7 : ((w5.setCell ⟨gx, 2, none⟩ (.slice (some ⟨gg, 0, none⟩) (k + 1) cap1)).setCell ⟨gx, 0, none⟩ (.int .i64 ((bst iw L at0 k).c + hd.ln))).heap.size = w5.heap.size := by simp only [World.setCell, Array.size_modify]
          have hbel7 : Below w.heap.size w ((w5.setCell ⟨gx, 2, none⟩ (.slice (some ⟨gg, 0, none⟩) (k + 1) cap1)).setCell ⟨gx, 0, none⟩ (.int .i64 ((bst iw L at0 k).c + hd.ln))) := hbel5.trans ⟨rfl, rfl, rfl, by rw [hz7]; exact Nat.le_refl _, fun q hq => hst q (by omega)⟩
          have HPO7 := hid (ownsRow_block (w' := (w5.setCell ⟨gx, 2, none⟩ (.slice (some ⟨gg, 0, none⟩) (k + 1) cap1)).setCell ⟨gx, 0, none⟩ (.int .i64 ((bst iw L at0 k).c + hd.ln))) how5 fun q hq => hst q (fun e => by cases hq; exact hggx e))
          have HOO7 := hid (ownsRow_block (w' := (w5.setCell ⟨gx, 2, none⟩ (.slice (some ⟨gg, 0, none⟩) (k + 1) cap1)).setCell ⟨gx, 0, none⟩ (.int .i64 ((bst iw L at0 k).c + hd.ln))) hoo5 fun q hq => hst q (fun e => HRB4.out.d1 (by rw [hq, e])))
          have HBX7 := hid (show Inf.Bx ((w5.setCell ⟨gx, 2, none⟩ (.slice (some ⟨gg, 0, none⟩) (k + 1) cap1)).setCell ⟨gx, 0, none⟩ (.int .i64 ((bst iw L at0 k).c + hd.ln))) w.heap.size iw from ⟨(hst w.heap.size (by omega)).trans hbx5.row⟩)
          have hw1x : w1.heap.size ≠ gx := fun e => by have h1 := HGX1.out; omega
          have HHX7 := hid (show Head.Bx ((w5.setCell ⟨gx, 2, none⟩ (.slice (some ⟨gg, 0, none⟩) (k + 1) cap1)).setCell ⟨gx, 0, none⟩ (.int .i64 ((bst iw L at0 k).c + hd.ln))) w1.heap.size hd from ⟨(hst w1.heap.size hw1x).trans hhx5.row⟩)
          have HTX7 := hid htx7
          have HBL7 := hid hbel7
          have HGGL := hid (show gg < w5.heap.size from hk5.lt)
          have HZ7 := hid hz7
          have HGGO := hid hggo
          have HGGX := hid hggx
          have s2 := htx5.c2
          have sf2 := htx5.fz 2
          have s0 := (htx5.set2 (some ⟨gg, 0, none⟩) (k + 1) cap1).c0
          have sf0 := (htx5.set2 (some ⟨gg, 0, none⟩) (k + 1) cap1).fz 0
          have h2a := hhx5.c2
          have h2b : (w5.setCell ⟨gx, 2, none⟩ (.slice (some ⟨gg, 0, none⟩) (k + 1) cap1)).cell? ⟨w1.heap.size, 2, none⟩ = some (.int .i64 hd.ln) := by rw [World.cell?_setCell_other _ _ _ _ (by intro e; injection e with e1 e2; exact hw1x e1.symm)]; exact h2a
          have h2c := HHX7.out.c2
          have x4 := HBX7.out.c4
          rw [HY.out.2.2.2.2.1] at x4
          have hln0 : 1 ≤ hd.ln := HRTH.out.1.2.2.1
          have hln1 : hd.ln ≤ 65536 := HRTH.out.1.2.2.2.1
          have hcc0 := HC.out.1
          have hcc1 := HC.out.2
          have hcu : wrap64 ((bst iw L at0 k).c + hd.ln) = (bst iw L at0 k).c + hd.ln := IntWalk.wrap64_in _ (by omega)
          have HCKE := hid (HBB.out.c k hlt)
          have htxl := hid htx5.lt
          clear hfr5 htx5 hoo5 hbx5 hhx5 hbel5 htx7 hbel7 how5 hk5 hpo hst hz7 hz4 hggo hggx hapx t0 t2 tf0 tf2 hcc0 hcc1
          obtain ⟨p7, cap7, hck7, hbk7, hcap7⟩ := HCKE.out
          rw [← HLK.out] at hck7 hcap7
          have hc7 : ((w5.setCell ⟨gx, 2, none⟩ (.slice (some ⟨gg, 0, none⟩) (k + 1) cap1)).setCell ⟨gx, 0, none⟩ (.int .i64 ((bst iw L at0 k).c + hd.ln))).cell? ⟨bb, bo + k, none⟩ = some (.slice p7 lk cap7) := (HBL7.out.cell (p := ⟨bb, bo + k, none⟩) (World.block_lt_of_cell? _ _ hck7)).trans hck7
          have HBK7 := hid (hbk7.keep HBL7.out)
          have hnn7 : p7 = none → lk = 0 := fun e => by have := hbk7.none_len e; rw [HLK.out, this]; rfl
          obtain ⟨i5, hi5, hz50, hz51, hz52⟩ := info_parts Tryz.info5
          have hMl : M ≤ 4300000 := by have h1 := HRB4.out.ln; rw [List.length_append, HPREL.out] at h1; have h2 := fwb_flat HFW.out hk; have h3 := HATL.out; omega
          have hBow : Bo ≤ ((w5.setCell ⟨gx, 2, none⟩ (.slice (some ⟨gg, 0, none⟩) (k + 1) cap1)).setCell ⟨gx, 0, none⟩ (.int .i64 ((bst iw L at0 k).c + hd.ln))).heap.size := by have h1 := HGB.out.2; have h2 := HZ7.out; have h3 := HGGL.out; have h4 := htxl.out; rw [h2]; omega
          clear hck7 hbk7 HCKE
          go_wp2_with (at_builtin; go_must (refine wpList_append_src _ rfl (.tmp 93) (.tmp 97) 32 rfl Bo 5 i5 (.int .u8 0) 1 Tryz.underlying32 hi5 hz50 hz51 hz52 rfl ao M ca (bl (pre ++ flat L k)) rfl HOO7.out p7 lk cap7 (bl (L k)) rfl (by rw [bl_len]; exact HLK.out.symm) hnn7 (fun ad had j u hj => HBK7.out.cells ad had j u hj) (bl_one _) (by unfold maxLen; omega) (by omega) hBow ?_))
          intro ao8 ca8 w8 ho8 hg8 hat8
          have HFLK := hid (show bl (pre ++ flat L (k + 1)) = bl (pre ++ flat L k) ++ bl (L k) from by
            show bl (pre ++ (flat L k ++ L k)) = _
            rw [← List.append_assoc, bl_app])
          have hao : ∀ q, blk ao = some q → q < ((w5.setCell ⟨gx, 2, none⟩ (.slice (some ⟨gg, 0, none⟩) (k + 1) cap1)).setCell ⟨gx, 0, none⟩ (.int .i64 ((bst iw L at0 k).c + hd.ln))).heap.size := fun q hq => (own_in HOO7.out q hq).2
          have hgx7 : gx < ((w5.setCell ⟨gx, 2, none⟩ (.slice (some ⟨gg, 0, none⟩) (k + 1) cap1)).setCell ⟨gx, 0, none⟩ (.int .i64 ((bst iw L at0 k).c + hd.ln))).heap.size := HTX7.out.lt
          have hrb8 : RB w Bo gx iw L at0 (k + 1) s pre (some ⟨gg, 0, none⟩) cap1 ao8 ca8 (M + lk) w8 := by
            refine ⟨HE9.out, ?_, ?_, ?_, ?_, ?_, ?_, ?_, ?_, HRB4.out.gw, HRB4.out.gb, ?_⟩
            · have e2 : (bst iw L at0 (k + 1)).c = (bst iw L at0 k).c + hd.ln := by show (bst iw L at0 k).c + (Head.opH (L k)).ln = _; rw [HHD.out]
              rw [e2]
              exact ⟨(hg8.block gx hgx7 (fun e => HRB4.out.d1 e.symm)).trans HTX7.out.row⟩
            · have e3 : (bst iw L at0 (k + 1)).P = (bst iw L at0 k).P ++ [(M : Int)] := by show (bst iw L at0 k).P ++ [((bst iw L at0 k).at_ : Int)] = _; rw [HM.out]
              rw [e3, il_app]
              exact ownsRow_block HPO7.out fun q hq => hg8.block q (own_in HPO7.out q hq).2 (fun e => by cases hq; exact HGGO.out _ e.symm rfl)
            · rw [HFLK.out]; exact ho8
            · show (pre ++ (flat L k ++ L k)).length = M + lk
              rw [← List.append_assoc, List.length_append, HRB4.out.ln, HLK.out]
            · intro x hx
              have hx' : x ∈ pre ++ (flat L k ++ L k) := hx
              rw [← List.append_assoc] at hx'
              rcases List.mem_append.1 hx' with h | h
              · exact HRB4.out.lt x h
              · exact HBK7.out.lt x h
            · intro e
              rcases hat8 with h | h
              · exact HRB4.out.d1 (by rw [← h, e])
              · have h1 : w5.heap.size ≤ gx := h gx e
                have h2 : gx < w5.heap.size := htxl.out
                omega
            · intro q hq e
              have e' : gg = q := by simpa [blk] using e
              rcases hat8 with h | h
              · exact HGGO.out q (by rw [← h, hq]) e'
              · have h1 : w5.heap.size ≤ q := h q hq
                have h2 := HGGL.out
                omega
            · exact HBL7.out.grown hg8 HBL7.out.size (fun q hq => by have := (own_in HOO7.out q hq).1; have := HGB.out.1; omega)
            · exact ⟨(hg8.block w.heap.size HBX7.out.lt (fun e => by have := (own_in HOO7.out w.heap.size e.symm).1; have := HGB.out.1; omega)).trans HBX7.out.row⟩
          have HRB8 := hid hrb8
          have hsh8 : (bst iw L at0 (k + 1)).sh = decide (hd.ln < ibk) := by
            show decide ((Head.opH (L k)).ln < iw.bk) = _
            rw [HHD.out, HY.out.2.2.2.2.1]
          have HSH8 := hid hsh8
          clear hrb8 hsh8 ho8 hg8 hat8 hao hgx7 HFLK HOO7 HPO7 HTX7 HBL7 HBX7 HHX7 HRB4 HX4 s0 s2 sf0 sf2 h2a h2b h2c x4 hc7 hnn7
          go_wp2_with fail
          go_roundg (n - (k + 1))
          case measure => rw [HG.out]; omega
          case rel => exact ⟨k + 1, some ⟨gg, 0, none⟩, cap1, ao8, ca8, M + lk, by omega, rfl, by go_num, rfl, by rw [HSH8.out], HRB8.out⟩
      · have HX := hid (HST.out.trans (if_pos hE))
        have hEE : E = eo := HE.out.trans ((ber_stop (by omega) (by rw [HX.out]; exact hE)).trans HX.out)
        have hR := HB0.out (by rw [hEE]; exact hE)
        have hE' : (eo != 0) = true := bne_iff_ne.2 hE
        subst hEE
        subst hR
        clear HST HOK HX
        go_wp2_with (refine wpList_store_row rfl 61 _ _ rfl w1.heap.size (Head.hvl hd) rfl rfl 61 #[.int .i64 0, .int .i64 0, .int .i64 0, .int .i64 0, .int .i64 0, .bool false, .int .u32 0, .int .i64 0] HAN.out (Head.hvl_size hd) rfl (Head.hvl_one hd) ?_)
        go_ret2
        exact putf_none _ HRB2.out.bel
    · obtain rfl : k = n := by omega
      have hkf : ¬ (k : Int) < (k : Int) := by omega
      have hE0 : E = 0 := HE.out.trans HRB.out.e0
      subst hE0
      have hR := hid (HB1.out rfl)
      have HTR := hid (bst_trt k HRB.out.e0 (by have := fwb_flat HFW.out hk; have := HATL.out; omega) (by have := HFW.out.1; omega))
      have HNP := hid (bst_P iw L at0 k)
      have HTP := hid (Tl.trput_ok (s := s) (cap := capp) HNP.out (nts_ints HRB.out.po) hs HTR.out)
      have HFLT := hid (fwb_flat HFW.out (Nat.le_refl k))
      have HKN := hid HFW.out.1
      clear HB0 HB1 HE HBB HFW
      have HTX := hid HRB.out.tx
      generalize (bst iw L at0 k).c = c at *
      obtain ⟨ty, hty⟩ : ∃ ty, Tl.tby c s (bst iw L at0 k).P = ty := ⟨_, rfl⟩
      rw [hty] at hR HTP
      have HTL := hid (show ty.length ≤ 78 from by rw [← hty, Tl.tby_len, HNP.out]; have := HKN.out; omega)
      have HTY := hid hty
      clear hty
      go_wp2_with (refine wpList_load_row rfl 43 _ rfl gx rfl 43 #[.int .i64 c, .int .u32 (s : Int), .slice ap k capp] (0, 0) _ HTX.out.row Tryz.underlying43 rfl Tl.Tryz.size43 ?_)
      refine HTP.out.mono ?_
      rintro e w5 ⟨ax, cx, rfl, hn5⟩
      have HRB5 := hid (HRB.out.more hn5.bel)
      have HN5 := hid hn5
      obtain ⟨i5, hi5, hz50, hz51, hz52⟩ := info_parts Tryz.info5
      have hnn5 : ax = none → ty.length = 0 := fun e => (hn5.nil e).1
      have hMl : M ≤ 4300000 := by have h1 := HRB.out.ln; rw [List.length_append, HPREL.out] at h1; have h2 := HFLT.out; have h3 := HATL.out; omega
      have htl := HTL.out
      have hBow : Bo ≤ w5.heap.size := by have h1 := HGB.out.2; have h2 := HRB5.out.tx.lt; omega
      clear hn5 HTP HTX
      go_wp2_with (at_builtin; go_must (refine wpList_append_src _ rfl (.tmp 99) (.tmp 101) 32 rfl Bo 5 i5 (.int .u8 0) 1 Tryz.underlying32 hi5 hz50 hz51 hz52 rfl ao M ca (bl (pre ++ flat L k)) rfl HRB5.out.oo ax ty.length cx (bl ty) rfl (bl_len _) hnn5 (fun ad had j u hj => HN5.out.byts.cells ad had j u hj) (bl_one _) (by unfold maxLen; omega) (by omega) hBow ?_))
      intro ao8 ca8 w8 ho8 hg8 hat8
      have hRe : R = (pre ++ flat L k) ++ ty := hR.out
      have hRl : R.length = M + ty.length := by rw [hRe, List.length_append, HRB.out.ln]
      have HOUT : Hid (PutF w 0 R (.returned (.tuple #[.slice ao8 (M + ty.length) ca8, .int .i64 0])) w8) := hid (by
        have ho : w8.ownsRow Bo 5 1 (.slice ao8 R.length ca8) R.length (bl R) := by rw [hRl, hRe, bl_app]; exact ho8
        have hlt : ∀ x ∈ R, x < 256 := fun x hx => by
          rw [hRe] at hx
          rcases List.mem_append.1 hx with h | h
          · exact HRB5.out.lt x h
          · exact HN5.out.lt x h
        refine ⟨ao8, ca8, by rw [hRl], Byts.of_row hlt ho, own_le ho, ?_, fun q hq => ?_, ?_⟩
        · intro e
          rcases ownsRow_at ho with ⟨_, h0, h1, _⟩ | ⟨q, hq⟩
          · exact ⟨h0, h1⟩
          · rw [e] at hq; cases hq
        · have := (own_in ho q hq).1
          have := HGB.out.1
          omega
        · exact HRB5.out.bel.grown hg8 HRB5.out.bel.size (fun q hq => by have := (own_in HRB5.out.oo q hq).1; have := HGB.out.1; omega))
      clear hRe hRl ho8 hg8 hat8 hnn5 htl hMl
      go_wp2_with fail
      go_ret2
      exact HOUT.out
end Go.Proofs.YthjjonbkfkpkmaaGreatDoor.Fil
