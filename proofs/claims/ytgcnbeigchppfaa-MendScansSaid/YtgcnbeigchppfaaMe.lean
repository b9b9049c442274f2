/- Lost of the program: its closure, and all of it; Scan without a table. Conditions: at most 2^30 bytes. -/
import Derived.Test.YtgcnbeigchppfaaMd
import Derived.Test.YtgcnbeigchppfaaJk
namespace Go.Proofs.Ytgcnbeigchppfaa.Mnd
open Go.RowKit Gen
attribute [local go_sem] Oper.semAt_some

theorem below_fr0 {w w' : World} (h : Below w.heap.size w w') : Fr (fun _ => False) w w' := ⟨h.os, h.tape, h.output, h.size, fun k hk _ => h.block k hk⟩
/-- What stands while blocks are told to Lost: the number's cell at g. -/
structure LI (w : World) (g : Nat) (b S : List Nat) (wr : World) : Prop where
  c : wr.heap[g]? = some (.cells #[.int .i64 ((b.length : Int) - (blen b S : Int))] 3 (0, 0))
  bel : Below g w wr
theorem LI.lt {w wr : World} {g : Nat} {b S : List Nat} (h : LI w g b S wr) : g < wr.heap.size := World.block_lt_of_cell? _ ⟨g, 0, none⟩ (Head.row_cell h.c 0 rfl)
theorem LI.keep {w wr w' : World} {g : Nat} {b S : List Nat} (h : LI w g b S wr) (hb : Below wr.heap.size wr w') : LI w g b S w' := ⟨(hb.block g h.lt).trans h.c, h.bel.trans (hb.mono (Nat.le_of_lt h.lt))⟩
theorem wr_l {a c z : Nat} (h : a ≤ 1073741824) (hc : c ≤ 1073741824) (hz : z ≤ 16777216) : wrap64 ((a : Int) - (c : Int) - (36 + (z : Int))) = (a : Int) - (c : Int) - (36 + (z : Int)) := IntWalk.wrap64_in _ (by omega)
theorem wr_l2 {a c z : Nat} (h : a ≤ 1073741824) (hc : c ≤ 1073741824) (hz : z ≤ 16777216) : IntKind.i64.wrap ((a : Int) - (c : Int) - (36 + (z : Int))) = (a : Int) - (c : Int) - (36 + (z : Int)) := IntWalk.i64_in _ (by omega)
set_option maxHeartbeats 4000000 in
set_option maxRecDepth 100000 in
theorem lost1_any {w wr : World} {g : Nat} {b S : List Nat} (h : LI w g b S wr) {x : Fnd} {p : Nat} (hx : FnOk wr b x p) (ho : Head.opE (b.drop p) = 0) (hbn : b.length ≤ 1073741824) (hbl : blen b S ≤ p) (hp : p < b.length) :
    Calls Try.prog 29 (#[.agg (fnl x).toArray] ++ #[.pointer (some ⟨g, 0, none⟩)]) wr fun e w' => e = .returned (.tuple #[]) ∧ LI w g b (S ++ [p]) w' ∧ Fr (fun q => q = g) wr w' := by
  change Calls Try.prog 29 #[.agg #[.int .i64 (x.at_ : Int), .int .i64 x.h.k, .int .i64 x.h.ix, .int .i64 x.h.ln, .int .i64 x.h.st, .int .i64 x.h.bd, .bool x.h.la, .int .u32 (x.h.lk : Int), .int .i64 x.h.sz, .slice x.a x.n x.cap, .int .u32 (x.s : Int)], .pointer (some ⟨g, 0, none⟩)] wr _
  obtain ⟨hrt, hsz, hle, hzl⟩ := Fil.op_ok ho
  rw [← hx.h] at hrt hsz
  have HLG := hid fun w' => Head.long_any x.h w'
  rw [if_pos hrt, hsz] at HLG
  have hb1 := Head.below_new wr (.cells #[.int .i64 (x.at_ : Int), .int .i64 x.h.k, .int .i64 x.h.ix, .int .i64 x.h.ln, .int .i64 x.h.st, .int .i64 x.h.bd, .bool x.h.la, .int .u32 (x.h.lk : Int), .int .i64 x.h.sz, .slice x.a x.n x.cap, .int .u32 (x.s : Int)] 54)
  have H1 := hid (h.keep hb1)
  have HN := hid (heap_alloc_new wr (.cells #[.int .i64 (x.at_ : Int), .int .i64 x.h.k, .int .i64 x.h.ix, .int .i64 x.h.ln, .int .i64 x.h.st, .int .i64 x.h.bd, .bool x.h.la, .int .u32 (x.h.lk : Int), .int .i64 x.h.sz, .slice x.a x.n x.cap, .int .u32 (x.s : Int)] 54))
  have HB1 := hid hb1
  have HH := hid h
  have hwl := wr_l (a := b.length) (c := blen b S) (z := Head.szn (b.drop p)) hbn (by omega) hzl
  have hwl2 := wr_l2 (a := b.length) (c := blen b S) (z := Head.szn (b.drop p)) hbn (by omega) hzl
  have HWL := hid (And.intro hwl hwl2)
  have HLT := hid h.lt
  clear h hx ho hle hzl hb1 hrt hwl hwl2
  obtain ⟨z, hz⟩ : ∃ z, Head.szn (b.drop p) = z := ⟨_, rfl⟩
  rw [hz] at hsz HLG HWL
  have HZ := hid hz
  have HSZ := hid hsz
  clear hz hsz
  go_enter Try.func29, Try.ntmps29
  go_wp2_with fail
  have HTT1 : Hid (∀ l, Pcm.Till (fun _ => True) (fun w' => Below (wr.alloc (.cells #[.int .i64 (x.at_ : Int), .int .i64 x.h.k, .int .i64 x.h.ix, .int .i64 x.h.ln, .int .i64 x.h.st, .int .i64 x.h.bd, .bool x.h.la, .int .u32 (x.h.lk : Int), .int .i64 x.h.sz, .slice x.a x.n x.cap, .int .u32 (x.s : Int)] 54)).heap.size (wr.alloc (.cells #[.int .i64 (x.at_ : Int), .int .i64 x.h.k, .int .i64 x.h.ix, .int .i64 x.h.ln, .int .i64 x.h.st, .int .i64 x.h.bd, .bool x.h.la, .int .u32 (x.h.lk : Int), .int .i64 x.h.sz, .slice x.a x.n x.cap, .int .u32 (x.s : Int)] 54)) w') 5 l (wr.alloc (.cells #[.int .i64 (x.at_ : Int), .int .i64 x.h.k, .int .i64 x.h.ix, .int .i64 x.h.ln, .int .i64 x.h.st, .int .i64 x.h.bd, .bool x.h.la, .int .u32 (x.h.lk : Int), .int .i64 x.h.sz, .slice x.a x.n x.cap, .int .u32 (x.s : Int)] 54)).drew) := hid fun l => ⟨trivial, fun _ => (Below.refl _ _).drew⟩
  refine Pcm.region_T (T := Pcm.Till (fun _ => True) (fun w' => Below (wr.alloc (.cells #[.int .i64 (x.at_ : Int), .int .i64 x.h.k, .int .i64 x.h.ix, .int .i64 x.h.ln, .int .i64 x.h.st, .int .i64 x.h.bd, .bool x.h.la, .int .u32 (x.h.lk : Int), .int .i64 x.h.sz, .slice x.a x.n x.cap, .int .u32 (x.s : Int)] 54)).heap.size (wr.alloc (.cells #[.int .i64 (x.at_ : Int), .int .i64 x.h.k, .int .i64 x.h.ix, .int .i64 x.h.ln, .int .i64 x.h.st, .int .i64 x.h.bd, .bool x.h.la, .int .u32 (x.h.lk : Int), .int .i64 x.h.sz, .slice x.a x.n x.cap, .int .u32 (x.s : Int)] 54)) w') 5) (by kernel_rfl) ?_
  refine Pcm.take_2 (i := 0) (oi := ({ dst := some 3, op := Op.load 3 (Operand.tmp 1), type := 3, pos := _, after := #[], guard := none } : Oper)) (v := .int .i64 ((b.length : Int) - (blen b S : Int))) rfl (by kernel_rfl) (by kernel_rfl) (by kernel_rfl) (by decide) (by kernel_rfl) (by kernel_rfl) (fun _ _ _ h => h) (HTT1.out _) (.inl ⟨by rfl, fun w' hSw => ?_⟩) ?_
  · (try dsimp only at hSw)
    have cg : w'.cell? ⟨g, 0, none⟩ = some (.int .i64 ((b.length : Int) - (blen b S : Int))) := Head.row_cell ((hSw.block g H1.out.lt).trans H1.out.c) 0 rfl
    clear hSw
    go_simp
  (try simp only [Act.put, List.setIfInBounds_toArray, List.set_cons_zero, List.set_cons_succ])
  refine Pcm.take_2 (i := 1) (oi := ({ dst := some 4, op := Op.fieldAddr 54 (Operand.tmp 2) 1, type := 0, pos := _, after := #[], guard := none } : Oper)) (v := .pointer (some ⟨wr.heap.size, 1, none⟩)) rfl (by kernel_rfl) (by kernel_rfl) (by kernel_rfl) (by decide) (by kernel_rfl) (by kernel_rfl) (fun _ _ _ h => h) (HTT1.out _) (.inl ⟨by rfl, fun w' hSw => ?_⟩) ?_
  · (try dsimp only at hSw)
    go_simp
  (try simp only [Act.put, List.setIfInBounds_toArray, List.set_cons_zero, List.set_cons_succ])
  refine Pcm.take_2 (i := 2) (oi := ({ dst := some 5, op := Op.load 38 (Operand.tmp 4), type := 38, pos := _, after := #[{ on := 1, ground := Ground.data }], guard := none } : Oper)) (v := .agg #[.int .i64 x.h.k, .int .i64 x.h.ix, .int .i64 x.h.ln, .int .i64 x.h.st, .int .i64 x.h.bd, .bool x.h.la, .int .u32 (x.h.lk : Int), .int .i64 x.h.sz]) rfl (by kernel_rfl) (by kernel_rfl) (by kernel_rfl) (by decide) (by kernel_rfl) (by kernel_rfl) (fun _ _ _ h => h) (HTT1.out _) (.inl ⟨by rfl, fun w' hSw => ?_⟩) ?_
  · (try dsimp only at hSw)
    have hbx := (hSw.block wr.heap.size (World.block_lt_of_cell? _ ⟨wr.heap.size, 0, none⟩ (Head.row_cell HN.out 0 rfl))).trans HN.out
    have y1 : w'.cell? ⟨wr.heap.size, 1, none⟩ = some (.int .i64 x.h.k) := Head.row_cell hbx 1 rfl
    have y2 : w'.cell? ⟨wr.heap.size, 2, none⟩ = some (.int .i64 x.h.ix) := Head.row_cell hbx 2 rfl
    have y3 : w'.cell? ⟨wr.heap.size, 3, none⟩ = some (.int .i64 x.h.ln) := Head.row_cell hbx 3 rfl
    have y4 : w'.cell? ⟨wr.heap.size, 4, none⟩ = some (.int .i64 x.h.st) := Head.row_cell hbx 4 rfl
    have y5 : w'.cell? ⟨wr.heap.size, 5, none⟩ = some (.int .i64 x.h.bd) := Head.row_cell hbx 5 rfl
    have y6 : w'.cell? ⟨wr.heap.size, 6, none⟩ = some (.bool x.h.la) := Head.row_cell hbx 6 rfl
    have y7 : w'.cell? ⟨wr.heap.size, 7, none⟩ = some (.int .u32 (x.h.lk : Int)) := Head.row_cell hbx 7 rfl
    have y8 : w'.cell? ⟨wr.heap.size, 8, none⟩ = some (.int .i64 x.h.sz) := Head.row_cell hbx 8 rfl
    clear hSw hbx
    go_simp
  (try simp only [Act.put, List.setIfInBounds_toArray, List.set_cons_zero, List.set_cons_succ])
  refine Pcm.anyT_one (i := 3) (o := ({ dst := some 6, op := Op.call { callee := Callee.value (Operand.func 30), args := #[Operand.tmp 5], argTypes := #[38] }, type := 3, pos := _, after := #[{ on := 2, ground := Ground.data }], guard := none } : Oper)) (by kernel_rfl) rfl (fun K HK2 => ?_)
  go_simp
  refine (HLG.out _).mono ?_
  rintro e w5 ⟨rfl, hb5⟩
  have HB5 := hid (show Below (wr.alloc (.cells #[.int .i64 (x.at_ : Int), .int .i64 x.h.k, .int .i64 x.h.ix, .int .i64 x.h.ln, .int .i64 x.h.st, .int .i64 x.h.bd, .bool x.h.la, .int .u32 (x.h.lk : Int), .int .i64 x.h.sz, .slice x.a x.n x.cap, .int .u32 (x.s : Int)] 54)).heap.size (wr.alloc (.cells #[.int .i64 (x.at_ : Int), .int .i64 x.h.k, .int .i64 x.h.ix, .int .i64 x.h.ln, .int .i64 x.h.st, .int .i64 x.h.bd, .bool x.h.la, .int .u32 (x.h.lk : Int), .int .i64 x.h.sz, .slice x.a x.n x.cap, .int .u32 (x.s : Int)] 54)) w5 from (Below.refl _ _).drew.trans hb5)
  refine HK2.out _ _ ⟨trivial, fun _ => HB5.out⟩ ?_
  have HTT2 : Hid (∀ l, Pcm.Till (fun _ => True) (fun w' => Below (wr.alloc (.cells #[.int .i64 (x.at_ : Int), .int .i64 x.h.k, .int .i64 x.h.ix, .int .i64 x.h.ln, .int .i64 x.h.st, .int .i64 x.h.bd, .bool x.h.la, .int .u32 (x.h.lk : Int), .int .i64 x.h.sz, .slice x.a x.n x.cap, .int .u32 (x.s : Int)] 54)).heap.size (wr.alloc (.cells #[.int .i64 (x.at_ : Int), .int .i64 x.h.k, .int .i64 x.h.ix, .int .i64 x.h.ln, .int .i64 x.h.st, .int .i64 x.h.bd, .bool x.h.la, .int .u32 (x.h.lk : Int), .int .i64 x.h.sz, .slice x.a x.n x.cap, .int .u32 (x.s : Int)] 54)) w') 5 l w5) := hid fun l => ⟨trivial, fun _ => HB5.out⟩
  clear HK2 K hb5 HTT1
  (try simp only [Act.put, List.setIfInBounds_toArray, List.set_cons_zero, List.set_cons_succ])
  obtain ⟨hwl, hwl2⟩ := HWL.out
  refine Pcm.take_2 (i := 4) (oi := ({ dst := some 7, op := Op.binOp BinOp.sub 3 (Operand.tmp 3) (Operand.tmp 6) 3, type := 3, pos := _, after := #[{ on := 0, ground := Ground.data }, { on := 3, ground := Ground.data }], guard := none } : Oper)) (v := .int .i64 ((b.length : Int) - (blen b S : Int) - (36 + (z : Int)))) rfl (by kernel_rfl) (by kernel_rfl) (by kernel_rfl) (by decide) (by kernel_rfl) (by kernel_rfl) (fun _ _ _ h => h) (HTT2.out _) (.inl ⟨by rfl, fun w' hSw => ?_⟩) ?_
  · (try dsimp only at hSw)
    go_simp
  (try simp only [Act.put, List.setIfInBounds_toArray, List.set_cons_zero, List.set_cons_succ])
  clear hwl hwl2
  have hc5 := (HB5.out.block g H1.out.lt).trans H1.out.c
  have cg5 : w5.cell? ⟨g, 0, none⟩ = some (.int .i64 ((b.length : Int) - (blen b S : Int))) := Head.row_cell hc5 0 rfl
  have cf5 : w5.frozen? ⟨g, 0, none⟩ = false := Head.row_frozen hc5 0
  refine Pcm.anyT_one (i := 5) (o := ({ dst := none, op := Op.store 3 (Operand.tmp 1) (Operand.tmp 7), type := 0, pos := _, after := #[{ on := 4, ground := Ground.data }, { on := 3, ground := Ground.chain }, { on := 0, ground := Ground.phase }, { on := 1, ground := Ground.phase }, { on := 2, ground := Ground.phase }, { on := 3, ground := Ground.phase }, { on := 4, ground := Ground.phase }], guard := none } : Oper)) (by kernel_rfl) rfl (fun K HK2 => ?_)
  go_simp
  refine HK2.out _ _ ⟨trivial, fun h => by cases h⟩ ?_
  clear HK2 K
  (try simp only [Act.put, List.setIfInBounds_toArray, List.set_cons_zero, List.set_cons_succ])
  refine Pcm.anyT_done (by kernel_rfl) ?_ _
  have HC5 := hid hc5
  clear cg5 cf5 hc5
  go_wp2_with fail
  go_end0
  have hfr : Fr (fun q => q = g) wr (w5.setCell ⟨g, 0, none⟩ (.int .i64 ((b.length : Int) - (blen b S : Int) - (36 + (z : Int))))) := (((below_fr0 HB1.out).mono (Y := fun q => q = g) (fun _ _ h => h.elim)).trans ((below_fr0 HB5.out).mono (Y := fun q => q = g) (fun _ _ h => h.elim))).setCell (p := ⟨g, 0, none⟩) rfl _
  refine ⟨rfl, ⟨?_, HH.out.bel.trans ⟨hfr.os, hfr.tape, hfr.output, hfr.size, fun q hq => hfr.block q (Nat.lt_trans hq HLT.out) (fun e => by omega)⟩⟩, hfr⟩
  have e2 : (b.length : Int) - ((blen b S + (36 + z) : Nat) : Int) = (b.length : Int) - (blen b S : Int) - (36 + (z : Int)) := by omega
  rw [heap_setCell_same w5 g 0 _ _ _ HC5.out, blen_snoc, HZ.out, e2]
  rfl
set_option maxHeartbeats 4000000 in
set_option maxRecDepth 100000 in
theorem lost_any {w : World} {t : Nat} (ht : Crc.Tab w t) {ba : Option Addr} {b : List Nat} {bn bc : Nat} (hb : Byts w ba b) (hbn : b.length = bn) (hbc : bn ≤ bc) (hm : bn ≤ 1073741824) :
    Calls Try.prog 13 #[.pointer (some ⟨t, 0, none⟩), .slice ba bn bc] w fun e w' => e = .returned (.int .i64 ((bn : Int) - (blen b (sc b 0) : Int))) ∧ Below w.heap.size w w' := by
  have hbw := Head.below_new w (.cells #[.int .i64 (bn : Int)] 3)
  have HE := hid (each_any 29 #[.pointer (some ⟨w.heap.size, 0, none⟩)] (fun args w => Try.call29 args w) (w := w.alloc (.cells #[.int .i64 (bn : Int)] 3)) (t := t) (ba := ba) hbn hbc hm
    (fun S w' => LI w w.heap.size b S w')
    ⟨by rw [hbn]; show _ = some (Obj.cells #[.int .i64 ((bn : Int) - ((0 : Nat) : Int))] 3 (0, 0)); rw [show (bn : Int) - ((0 : Nat) : Int) = (bn : Int) by omega]; exact heap_alloc_new w _, hbw⟩
    (fun S w' h => ⟨ht.keep (h.bel.block t ht.lt), hb.keep h.bel⟩)
    (fun S w' w'' h hb' => h.keep hb')
    (fun S w0 w' p x h hb' hp ho hx hq hbl => by
      have hl := h.lt
      refine (lost1_any (h.keep hb') hx ho (by omega) hbl (by omega)).mono ?_
      rintro e w'' ⟨rfl, hs, hf⟩
      exact ⟨rfl, hs, fun k h1 h2 => hf.block k h2 (fun e => by omega)⟩))
  clear hb ht hbw
  go_enter Try.func13, Try.ntmps13
  go_wp2_with fail
  refine HE.out.mono ?_
  rintro e w2 ⟨rfl, hs⟩
  have cc : w2.cell? ⟨w.heap.size, 0, none⟩ = some (.int .i64 ((b.length : Int) - (blen b (sc b 0) : Int))) := Head.row_cell hs.c 0 rfl
  rw [hbn] at cc
  have HS := hid hs
  clear hs
  go_wp2_with fail
  go_ret
  exact ⟨rfl, HS.out.bel⟩
set_option maxHeartbeats 4000000 in
set_option maxRecDepth 100000 in
theorem each_nil (f : Value) {w : World} {ba : Option Addr} {b : List Nat} {bn bc : Nat} (hb : Byts w ba b) (hbn : b.length = bn) (hbc : bn ≤ bc) (hm : bn ≤ 1073741824) :
    Calls Try.prog 27 #[.pointer none, .slice ba bn bc, f] w fun e w' => e = .returned (.tuple #[]) ∧ Below w.heap.size w w' := by
  have HN := hid (And.intro hbn hbc)
  have HB := hid hb
  have HO := hid fun v w' => Head.open_nil v w'
  clear hb
  go_enter Try.func27, Try.ntmps27
  go_wp2_with fail
  go_loopg [6] bn (fun gh vp wr => ∃ p : Nat, p ≤ bn ∧ gh = bn - p ∧ vp = .int .i64 (p : Int) ∧ Below w.heap.size w wr)
  case atStart => exact ⟨0, Nat.zero_le _, rfl, rfl, Below.refl _ _⟩
  case round =>
    obtain ⟨p, hp, hgh, rfl, hbl⟩ := hrel
    have HG := hid hgh
    have HBL := hid hbl
    clear hgh hbl
    by_cases hlt : p < bn
    rotate_left 1
    · obtain rfl : p = bn := by omega
      have hnl : ¬ (p : Int) < (p : Int) := by omega
      go_wp2_with fail
      go_end0
      exact ⟨rfl, HBL.out⟩
    have hlti : (p : Int) < (bn : Int) := by omega
    have hple : (p : Int) ≤ (bn : Int) := by omega
    have hpc : p ≤ bc := by have := HN.out.2; omega
    have hne : ¬ bc = p := by have := HN.out.2; omega
    have hwp : wrap64 ((p : Int) + 1) = (p : Int) + 1 := wr_4 (by omega)
    obtain ⟨bq, bo, rfl⟩ : ∃ bq bo, ba = some ⟨bq, bo, none⟩ := by
      obtain ⟨q, off, e, _⟩ := HB.out.at_ 0 _ (List.getElem?_eq_getElem (by rw [HN.out.1]; omega))
      exact ⟨q, off, e⟩
    go_wp2_with fail
    refine (HO.out _ _).mono ?_
    rintro e w2 ⟨ao, co, rfl, hnl⟩
    rw [show Head.hv Head.hz = .agg (Head.hvl Head.hz) from rfl]
    have HAN := hid (heap_alloc_new w2 (.cells #[.int .i64 0, .int .i64 0, .int .i64 0, .int .i64 0, .int .i64 0, .bool false, .int .u32 0, .int .i64 0] 38))
    have hb3 : Below w2.heap.size w2 ((w2.alloc (.cells #[.int .i64 0, .int .i64 0, .int .i64 0, .int .i64 0, .int .i64 0, .bool false, .int .u32 0, .int .i64 0] 38)).setRow w2.heap.size (Head.hvl Head.hz)) := Head.fr_rowBelow (Head.below_new w2 _) (Nat.le_refl _)
    have HB3 := hid ((HBL.out.trans (hnl.bel.mono HBL.out.size)).trans (hb3.mono (HBL.out.trans (hnl.bel.mono HBL.out.size)).size))
    clear hnl hb3
    go_wp2_with (refine wpList_store_row rfl 38 _ _ rfl w2.heap.size (Head.hvl Head.hz) rfl rfl 38 #[.int .i64 0, .int .i64 0, .int .i64 0, .int .i64 0, .int .i64 0, .bool false, .int .u32 0, .int .i64 0] HAN.out (Head.hvl_size Head.hz) rfl (by simp [Head.hvl, Value.oneCell']) ?_)
    go_roundg (bn - (p + 1))
    case measure => rw [HG.out]; omega
    case rel => exact ⟨p + 1, by omega, rfl, by first | rfl | go_num, HB3.out⟩
set_option maxRecDepth 100000 in
theorem scan_nil {w : World} {ba : Option Addr} {b : List Nat} {bn bc : Nat} (hb : Byts w ba b) (hbn : b.length = bn) (hbc : bn ≤ bc) (hm : bn ≤ 1073741824) :
    Calls Try.prog 11 #[.pointer none, .slice ba bn bc] w fun e w' => e = .returned (.slice none 0 0) ∧ Below w.heap.size w w' := by
  have hbw := Head.below_new w (.cells #[.slice none 0 0] 29)
  have HC := hid (heap_alloc_new w (.cells #[.slice none 0 0] 29))
  have HE := hid (each_nil (.func (.func 28) #[] #[.pointer (some ⟨w.heap.size, 0, none⟩)]) (hb.keep hbw) hbn hbc hm)
  have HB0 := hid hbw
  clear hb hbw
  go_enter Try.func11, Try.ntmps11
  go_wp2_with fail
  refine HE.out.mono ?_
  rintro e w2 ⟨rfl, hb2⟩
  have cc : w2.cell? ⟨w.heap.size, 0, none⟩ = some (.slice none 0 0) := Head.row_cell ((hb2.block w.heap.size (World.block_lt_of_cell? _ ⟨w.heap.size, 0, none⟩ (Head.row_cell HC.out 0 rfl))).trans HC.out) 0 rfl
  have HB2 := hid (HB0.out.trans (hb2.mono HB0.out.size))
  clear hb2
  go_wp2_with fail
  go_ret
  exact ⟨rfl, HB2.out⟩
end Go.Proofs.Ytgcnbeigchppfaa.Mnd
