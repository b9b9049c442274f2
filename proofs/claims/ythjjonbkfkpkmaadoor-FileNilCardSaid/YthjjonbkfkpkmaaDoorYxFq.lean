/- readBlock: one block is read, or refused. Conditions: at most 2^30 bytes. -/
import Derived.Test.YthjjonbkfkpkmaaDoorY25
import Derived.Test.YthjjonbkfkpkmaaDoorY18
import Derived.Deep.DeepCutAuto
namespace Go.Proofs.YthjjonbkfkpkmaaDoor.Fil
open Go.RowKit Gen
open Tl (il il_app rise TRt)
attribute [local go_sem] Oper.semAt_some

def rbE (i : Inf.If) (s : Ns) (r : List Nat) : Int := if Head.opE r ≠ 0 then Head.opE r else nxt i (Head.opH r) s.n s.sh
def RbP (w0 w : World) (g t : Nat) (i : Inf.If) (b : List Nat) (ba : Option Addr) (bn bc : Nat) (s : Ns) (e : Ending) (w' : World) : Prop :=
  e = .returned (.int .i64 (rbE i s (b.drop s.at_))) ∧ Below g w w' ∧
  (rbE i s (b.drop s.at_) = 0 → ∃ ap' cp' ab' cb' X', RdI w0 g t i b ba bn bc (s.next i (b.drop s.at_)) ap' cp' ab' cb' X' w')

set_option maxHeartbeats 4000000 in
set_option maxRecDepth 100000 in
theorem rdblock_any {w0 w : World} {g t : Nat} {i : Inf.If} {b : List Nat} {ba : Option Addr} {bn bc : Nat} {s : Ns} {ap : Option Addr} {cp : Nat} {ab : Option Addr} {cb : Nat} {X : List Bv}
    (h : RdI w0 g t i b ba bn bc s ap cp ab cb X w) (ht : Crc.Tab w t) (hb : Byts w ba b) (hbn : b.length = bn) (hbc : bn ≤ bc) (hm : bn ≤ 1073741824) (hlt : s.at_ < bn) (hba : ∀ q off, ba = some ⟨q, off, none⟩ → q < g) :
    Calls Tryd.prog 49 #[.pointer (some ⟨g, 0, none⟩)] w (RbP w0 w g t i b ba bn bc s) := by
  obtain ⟨bq, bo, rfl⟩ : ∃ bq bo, ba = some ⟨bq, bo, none⟩ := by
    obtain ⟨q, off, e, _⟩ := hb.at_ 0 _ (List.getElem?_eq_getElem (by omega))
    exact ⟨q, off, e⟩
  have hdl : (b.drop s.at_).length = bn - s.at_ := by rw [List.length_drop, hbn]
  have HOP := hid fun (w' : World) (hb' : Below w.heap.size w w') (c : Nat) (hc : bn - s.at_ ≤ c) => (hdl ▸ Head.open_any (cap := c) (ht.keep (hb'.block t ht.lt)) ((hb.keep hb').drop s.at_) (by omega) (by omega) : Calls Tryd.prog 34 #[.pointer (some ⟨t, 0, none⟩), .slice (some ⟨bq, bo + s.at_, none⟩) (bn - s.at_) c] w' (Head.OpenP w' (Head.opH (b.drop s.at_)) (Head.opP (b.drop s.at_)) (Head.opS (b.drop s.at_)) (Head.opE (b.drop s.at_))))
  have HRD := hid h
  have hltc : s.at_ ≤ bc := by omega
  have hlti : (s.at_ : Int) ≤ (bn : Int) := by omega
  have hne : ¬ bc = s.at_ := by omega
  have HBQ := hid (hba bq bo rfl)
  have HTT := hid ht
  have HBB := hid hb
  clear h ht hb hba
  obtain ⟨r, hr⟩ : ∃ r, r = b.drop s.at_ := ⟨_, rfl⟩
  unfold RbP
  rw [← hr] at HOP hdl ⊢
  have HR := hid hr
  clear hr
  generalize hZ : rbE i s r = Z
  have HZ := hid hZ
  clear hZ
  go_enter Tryd.func49, Tryd.ntmps49
  go_wp2_with fail
  obtain ⟨pl, hpl⟩ : ∃ pl, Head.opP r = pl := ⟨_, rfl⟩
  obtain ⟨sm, hsm⟩ : ∃ sm, Head.opS r = sm := ⟨_, rfl⟩
  rw [hpl, hsm] at HOP
  have HOPP := hid hpl
  have HOPS := hid hsm
  clear hpl hsm
  obtain ⟨E, hEE⟩ : ∃ E, Head.opE r = E := ⟨_, rfl⟩
  rw [hEE] at HOP
  have HEE := hid hEE
  have hdd : ∃ hd, Head.opH r = hd := ⟨_, rfl⟩
  obtain ⟨hd, hhd⟩ := hdd
  rw [hhd] at HOP
  have HHD := hid hhd
  clear hEE hhd
  go_cut [3, 4, 5, 6] (fun p3 p4 p5 p6 wx => ∃ (q : Nat) (ao : Option Addr) (co : Nat), p3 = .pointer (some ⟨q, 0, none⟩) ∧ p4 = .slice ao pl.length co ∧ p5 = .int .u32 (sm : Int) ∧ p6 = .int .i64 E ∧ Head.Bx wx q hd ∧ Byts wx ao pl ∧ (w.heap.size ≤ q ∧ ∀ q', blk ao = some q' → w.heap.size ≤ q' ∧ q' ≠ q ∧ q' < wx.heap.size) ∧ Below w.heap.size w wx)
  case first =>
    have HTT : Hid (∀ l, Pcm.Till (fun w' => Below w.heap.size w w') (fun _ => True) 99 l w.drew) := hid fun l => ⟨(Below.refl _ _).drew, fun _ => trivial⟩
    refine Pcm.region_T (T := Pcm.Till (fun w' => Below w.heap.size w w') (fun _ => True) 99) (by kernel_rfl) ?_
    refine Pcm.take_1 (i := 0) (oi := ({ dst := some 10, op := Op.move (Operand.tmp 0), type := 74, pos := _, after := #[], guard := none } : Oper)) (v := .pointer (some ⟨g, 0, none⟩)) rfl (by kernel_rfl) (by kernel_rfl) (by kernel_rfl) (by decide) (fun _ _ _ h => h) (HTT.out _) (.inl ⟨by rfl, fun w' hSw => ?_⟩) ?_
    · (try dsimp only at hSw)
      go_simp
    (try simp only [Act.put, List.setIfInBounds_toArray, List.set_cons_zero, List.set_cons_succ])
    refine Pcm.take_1 (i := 1) (oi := ({ dst := some 11, op := Op.nilCheck (Operand.tmp 10), type := 0, pos := _, after := #[{ on := 0, ground := Ground.data }], guard := none } : Oper)) (v := .pointer (some ⟨g, 0, none⟩)) rfl (by kernel_rfl) (by kernel_rfl) (by kernel_rfl) (by decide) (fun _ _ _ h => h) (HTT.out _) (.inl ⟨by rfl, fun w' hSw => ?_⟩) ?_
    · (try dsimp only at hSw)
      go_simp
    (try simp only [Act.put, List.setIfInBounds_toArray, List.set_cons_zero, List.set_cons_succ])
    refine Pcm.take_1 (i := 2) (oi := ({ dst := some 12, op := Op.fieldAddr 76 (Operand.tmp 11) 1, type := 0, pos := _, after := #[{ on := 1, ground := Ground.data }], guard := none } : Oper)) (v := .pointer (some ⟨g, 10, none⟩)) rfl (by kernel_rfl) (by kernel_rfl) (by kernel_rfl) (by decide) (fun _ _ _ h => h) (HTT.out _) (.inl ⟨by rfl, fun w' hSw => ?_⟩) ?_
    · (try dsimp only at hSw)
      go_simp
    (try simp only [Act.put, List.setIfInBounds_toArray, List.set_cons_zero, List.set_cons_succ])
    refine Pcm.take_1 (i := 3) (oi := ({ dst := some 13, op := Op.load 32 (Operand.tmp 12), type := 32, pos := _, after := #[{ on := 2, ground := Ground.data }], guard := none } : Oper)) (v := .pointer (some ⟨t, 0, none⟩)) rfl (by kernel_rfl) (by kernel_rfl) (by kernel_rfl) (by decide) (fun _ _ _ h => h) (HTT.out _) (.inl ⟨by rfl, fun w' hSw => ?_⟩) ?_
    · (try dsimp only at hSw)
      have cc := (hSw.cell (p := ⟨g, 10, none⟩) HRD.out.nx.lt).trans HRD.out.c10
      clear hSw
      go_simp
    (try simp only [Act.put, List.setIfInBounds_toArray, List.set_cons_zero, List.set_cons_succ])
    refine Pcm.take_1 (i := 4) (oi := ({ dst := some 14, op := Op.move (Operand.tmp 0), type := 74, pos := _, after := #[], guard := none } : Oper)) (v := .pointer (some ⟨g, 0, none⟩)) rfl (by kernel_rfl) (by kernel_rfl) (by kernel_rfl) (by decide) (fun _ _ _ h => h) (HTT.out _) (.inl ⟨by rfl, fun w' hSw => ?_⟩) ?_
    · (try dsimp only at hSw)
      go_simp
    (try simp only [Act.put, List.setIfInBounds_toArray, List.set_cons_zero, List.set_cons_succ])
    refine Pcm.take_1 (i := 5) (oi := ({ dst := some 15, op := Op.nilCheck (Operand.tmp 14), type := 0, pos := _, after := #[{ on := 4, ground := Ground.data }], guard := none } : Oper)) (v := .pointer (some ⟨g, 0, none⟩)) rfl (by kernel_rfl) (by kernel_rfl) (by kernel_rfl) (by decide) (fun _ _ _ h => h) (HTT.out _) (.inl ⟨by rfl, fun w' hSw => ?_⟩) ?_
    · (try dsimp only at hSw)
      go_simp
    (try simp only [Act.put, List.setIfInBounds_toArray, List.set_cons_zero, List.set_cons_succ])
    refine Pcm.take_1 (i := 6) (oi := ({ dst := some 16, op := Op.fieldAddr 76 (Operand.tmp 15) 2, type := 0, pos := _, after := #[{ on := 5, ground := Ground.data }], guard := none } : Oper)) (v := .pointer (some ⟨g, 11, none⟩)) rfl (by kernel_rfl) (by kernel_rfl) (by kernel_rfl) (by decide) (fun _ _ _ h => h) (HTT.out _) (.inl ⟨by rfl, fun w' hSw => ?_⟩) ?_
    · (try dsimp only at hSw)
      go_simp
    (try simp only [Act.put, List.setIfInBounds_toArray, List.set_cons_zero, List.set_cons_succ])
    refine Pcm.take_1 (i := 7) (oi := ({ dst := some 17, op := Op.load 28 (Operand.tmp 16), type := 28, pos := _, after := #[{ on := 6, ground := Ground.data }], guard := none } : Oper)) (v := .slice (some ⟨bq, bo, none⟩) bn bc) rfl (by kernel_rfl) (by kernel_rfl) (by kernel_rfl) (by decide) (fun _ _ _ h => h) (HTT.out _) (.inl ⟨by rfl, fun w' hSw => ?_⟩) ?_
    · (try dsimp only at hSw)
      have cc := (hSw.cell (p := ⟨g, 11, none⟩) HRD.out.nx.lt).trans HRD.out.c11
      clear hSw
      go_simp
    (try simp only [Act.put, List.setIfInBounds_toArray, List.set_cons_zero, List.set_cons_succ])
    refine Pcm.take_1 (i := 8) (oi := ({ dst := some 18, op := Op.move (Operand.tmp 0), type := 74, pos := _, after := #[], guard := none } : Oper)) (v := .pointer (some ⟨g, 0, none⟩)) rfl (by kernel_rfl) (by kernel_rfl) (by kernel_rfl) (by decide) (fun _ _ _ h => h) (HTT.out _) (.inl ⟨by rfl, fun w' hSw => ?_⟩) ?_
    · (try dsimp only at hSw)
      go_simp
    (try simp only [Act.put, List.setIfInBounds_toArray, List.set_cons_zero, List.set_cons_succ])
    refine Pcm.take_1 (i := 9) (oi := ({ dst := some 19, op := Op.nilCheck (Operand.tmp 18), type := 0, pos := _, after := #[{ on := 8, ground := Ground.data }], guard := none } : Oper)) (v := .pointer (some ⟨g, 0, none⟩)) rfl (by kernel_rfl) (by kernel_rfl) (by kernel_rfl) (by decide) (fun _ _ _ h => h) (HTT.out _) (.inl ⟨by rfl, fun w' hSw => ?_⟩) ?_
    · (try dsimp only at hSw)
      go_simp
    (try simp only [Act.put, List.setIfInBounds_toArray, List.set_cons_zero, List.set_cons_succ])
    refine Pcm.take_1 (i := 10) (oi := ({ dst := some 20, op := Op.fieldAddr 76 (Operand.tmp 19) 0, type := 0, pos := _, after := #[{ on := 9, ground := Ground.data }], guard := none } : Oper)) (v := .pointer (some ⟨g, 0, none⟩)) rfl (by kernel_rfl) (by kernel_rfl) (by kernel_rfl) (by decide) (fun _ _ _ h => h) (HTT.out _) (.inl ⟨by rfl, fun w' hSw => ?_⟩) ?_
    · (try dsimp only at hSw)
      go_simp
    (try simp only [Act.put, List.setIfInBounds_toArray, List.set_cons_zero, List.set_cons_succ])
    refine Pcm.take_1 (i := 11) (oi := ({ dst := some 21, op := Op.fieldAddr 62 (Operand.tmp 20) 1, type := 0, pos := _, after := #[{ on := 10, ground := Ground.data }], guard := none } : Oper)) (v := .pointer (some ⟨g, 6, none⟩)) rfl (by kernel_rfl) (by kernel_rfl) (by kernel_rfl) (by decide) (fun _ _ _ h => h) (HTT.out _) (.inl ⟨by rfl, fun w' hSw => ?_⟩) ?_
    · (try dsimp only at hSw)
      go_simp
    (try simp only [Act.put, List.setIfInBounds_toArray, List.set_cons_zero, List.set_cons_succ])
    refine Pcm.take_1 (i := 12) (oi := ({ dst := some 22, op := Op.load 3 (Operand.tmp 21), type := 3, pos := _, after := #[{ on := 11, ground := Ground.data }], guard := none } : Oper)) (v := .int .i64 (s.at_ : Int)) rfl (by kernel_rfl) (by kernel_rfl) (by kernel_rfl) (by decide) (fun _ _ _ h => h) (HTT.out _) (.inl ⟨by rfl, fun w' hSw => ?_⟩) ?_
    · (try dsimp only at hSw)
      have cc := (hSw.cell (p := ⟨g, 6, none⟩) HRD.out.nx.lt).trans HRD.out.nx.c6
      clear hSw
      go_simp
    (try simp only [Act.put, List.setIfInBounds_toArray, List.set_cons_zero, List.set_cons_succ])
    refine Pcm.take_1 (i := 13) (oi := ({ dst := some 23, op := Op.slice 28 (Operand.tmp 17) (some (Operand.tmp 22)) none none, type := 28, pos := _, after := #[{ on := 7, ground := Ground.data }, { on := 12, ground := Ground.data }], guard := none } : Oper)) (v := .slice (some ⟨bq, bo + s.at_, none⟩) (bn - s.at_) (bc - s.at_)) rfl (by kernel_rfl) (by kernel_rfl) (by kernel_rfl) (by decide) (fun _ _ _ h => h) (HTT.out _) (.inl ⟨by rfl, fun w' hSw => ?_⟩) ?_
    · (try dsimp only at hSw)
      go_simp
    (try simp only [Act.put, List.setIfInBounds_toArray, List.set_cons_zero, List.set_cons_succ])
    refine anyT_two (i := 14) (j := 20) (o := ({ dst := some 24, op := Op.call { callee := Callee.value (Operand.func 34), args := #[Operand.tmp 13, Operand.tmp 23], argTypes := #[32, 28] }, type := 101, pos := _, after := #[{ on := 3, ground := Ground.data }, { on := 13, ground := Ground.data }], guard := none } : Oper)) (p := ({ dst := some 3, op := Op.alloc 83, type := 0, pos := _, after := #[], guard := none } : Oper)) (by kernel_rfl) rfl rfl (fun K HK2 => ?_) (fun K HK2 => ?_)
    · go_simp
      refine (HOP.out _ (Below.refl _ _).drew (bc - s.at_) (by omega)).mono ?_
      rintro e w3 ⟨ao, co, rfl, hnl⟩
      rw [show Head.hv hd = .agg (Head.hvl hd) from rfl]
      have HB3 := hid (show Below w.heap.size w w3 from (Below.refl _ _).drew.trans (hnl.bel.mono (Nat.le_refl _)))
      have HNL := hid hnl
      clear hnl
      refine HK2.out _ _ ⟨HB3.out, fun _ => trivial⟩ ?_
      have HTT : Hid (∀ l, Pcm.Till (fun w' => Below w.heap.size w w') (fun _ => True) 99 l (w3)) := hid fun l => ⟨HB3.out, fun _ => trivial⟩
      clear HK2 K
      (try simp only [Act.put, List.setIfInBounds_toArray, List.set_cons_zero, List.set_cons_succ])
      refine Pcm.take_1 (i := 15) (oi := ({ dst := some 9, op := Op.move (Operand.tmp 24), type := 101, pos := _, after := #[{ on := 14, ground := Ground.data }], guard := none } : Oper)) (v := .tuple #[.agg (Head.hvl hd), .slice ao pl.length co, .int .u32 (sm : Int), .int .i64 E]) rfl (by kernel_rfl) (by kernel_rfl) (by kernel_rfl) (by decide) (fun _ _ _ h => h) (HTT.out _) (.inl ⟨by rfl, fun w' hSw => ?_⟩) ?_
      · (try dsimp only at hSw)
        go_simp
      (try simp only [Act.put, List.setIfInBounds_toArray, List.set_cons_zero, List.set_cons_succ])
      refine Pcm.take_1 (i := 16) (oi := ({ dst := some 25, op := Op.extract (Operand.tmp 9) 0, type := 83, pos := _, after := #[{ on := 15, ground := Ground.data }], guard := none } : Oper)) (v := .agg (Head.hvl hd)) rfl (by kernel_rfl) (by kernel_rfl) (by kernel_rfl) (by decide) (fun _ _ _ h => h) (HTT.out _) (.inl ⟨by rfl, fun w' hSw => ?_⟩) ?_
      · (try dsimp only at hSw)
        go_simp
      (try simp only [Act.put, List.setIfInBounds_toArray, List.set_cons_zero, List.set_cons_succ])
      refine Pcm.take_1 (i := 17) (oi := ({ dst := some 26, op := Op.extract (Operand.tmp 9) 1, type := 28, pos := _, after := #[{ on := 15, ground := Ground.data }, { on := 21, ground := Ground.gcOnly Departure.lateStores }], guard := none } : Oper)) (v := .slice ao pl.length co) rfl (by kernel_rfl) (by kernel_rfl) (by kernel_rfl) (by decide) (fun _ _ _ h => h) (HTT.out _) (.inl ⟨by rfl, fun w' hSw => ?_⟩) ?_
      · (try dsimp only at hSw)
        go_simp
      (try simp only [Act.put, List.setIfInBounds_toArray, List.set_cons_zero, List.set_cons_succ])
      refine Pcm.take_1 (i := 18) (oi := ({ dst := some 27, op := Op.extract (Operand.tmp 9) 2, type := 37, pos := _, after := #[{ on := 15, ground := Ground.data }, { on := 22, ground := Ground.gcOnly Departure.lateStores }], guard := none } : Oper)) (v := .int .u32 (sm : Int)) rfl (by kernel_rfl) (by kernel_rfl) (by kernel_rfl) (by decide) (fun _ _ _ h => h) (HTT.out _) (.inl ⟨by rfl, fun w' hSw => ?_⟩) ?_
      · (try dsimp only at hSw)
        go_simp
      (try simp only [Act.put, List.setIfInBounds_toArray, List.set_cons_zero, List.set_cons_succ])
      refine Pcm.take_1 (i := 19) (oi := ({ dst := some 28, op := Op.extract (Operand.tmp 9) 3, type := 34, pos := _, after := #[{ on := 15, ground := Ground.data }, { on := 23, ground := Ground.gcOnly Departure.lateStores }], guard := none } : Oper)) (v := .int .i64 E) rfl (by kernel_rfl) (by kernel_rfl) (by kernel_rfl) (by decide) (fun _ _ _ h => h) (HTT.out _) (.inl ⟨by rfl, fun w' hSw => ?_⟩) ?_
      · (try dsimp only at hSw)
        go_simp
      (try simp only [Act.put, List.setIfInBounds_toArray, List.set_cons_zero, List.set_cons_succ])
      refine Pcm.anyT_one (i := 20) (o := ({ dst := some 3, op := Op.alloc 83, type := 0, pos := _, after := #[], guard := none } : Oper)) (by kernel_rfl) rfl (fun K HK2 => ?_)
      go_simp
      have HB4 := hid (HB3.out.trans ((Head.below_new w3 (.cells #[.int .i64 0, .int .i64 0, .int .i64 0, .int .i64 0, .int .i64 0, .bool false, .int .u32 0, .int .i64 0] 83)).mono HB3.out.size))
      have HAN := hid (heap_alloc_new w3 (.cells #[.int .i64 0, .int .i64 0, .int .i64 0, .int .i64 0, .int .i64 0, .bool false, .int .u32 0, .int .i64 0] 83))
      refine HK2.out _ _ ⟨HB4.out, fun _ => trivial⟩ ?_
      clear HK2 K
      (try simp only [Act.put, List.setIfInBounds_toArray, List.set_cons_zero, List.set_cons_succ])
      refine Pcm.anyT_one (i := 21) (o := ({ dst := none, op := Op.store 83 (Operand.tmp 3) (Operand.tmp 25), type := 0, pos := _, after := #[{ on := 20, ground := Ground.data }, { on := 16, ground := Ground.data }, { on := 14, ground := Ground.chain }, { on := 0, ground := Ground.phase }, { on := 1, ground := Ground.phase }, { on := 2, ground := Ground.phase }, { on := 3, ground := Ground.phase }, { on := 4, ground := Ground.phase }, { on := 5, ground := Ground.phase }, { on := 6, ground := Ground.phase }, { on := 7, ground := Ground.phase }, { on := 8, ground := Ground.phase }, { on := 9, ground := Ground.phase }, { on := 10, ground := Ground.phase }, { on := 11, ground := Ground.phase }, { on := 12, ground := Ground.phase }, { on := 13, ground := Ground.phase }, { on := 14, ground := Ground.phase }, { on := 15, ground := Ground.phase }, { on := 16, ground := Ground.phase }, { on := 17, ground := Ground.textOnly Departure.lateStores }, { on := 18, ground := Ground.textOnly Departure.lateStores }, { on := 19, ground := Ground.textOnly Departure.lateStores }, { on := 20, ground := Ground.phase }], guard := none } : Oper)) (by kernel_rfl) rfl (fun K HK2 => ?_)
      have hb5 : Below w3.heap.size w3 ((w3.alloc (.cells #[.int .i64 0, .int .i64 0, .int .i64 0, .int .i64 0, .int .i64 0, .bool false, .int .u32 0, .int .i64 0] 83)).setRow w3.heap.size (Head.hvl hd)) := Head.fr_rowBelow (Head.below_new w3 _) (Nat.le_refl _)
      have HB5 := hid (HB3.out.trans (hb5.mono HB3.out.size))
      have HX5 := hid (show Head.Bx ((w3.alloc (.cells #[.int .i64 0, .int .i64 0, .int .i64 0, .int .i64 0, .int .i64 0, .bool false, .int .u32 0, .int .i64 0] 83)).setRow w3.heap.size (Head.hvl hd)) w3.heap.size hd from ⟨setRow_heap _ _ _ _ _ _ HAN.out⟩)
      have HPL5 := hid (HNL.out.byts.keep hb5)
      have HQ5 := hid (show w.heap.size ≤ w3.heap.size ∧ (∀ q, blk ao = some q → w.heap.size ≤ q ∧ q ≠ w3.heap.size ∧ q < ((w3.alloc (.cells #[.int .i64 0, .int .i64 0, .int .i64 0, .int .i64 0, .int .i64 0, .bool false, .int .u32 0, .int .i64 0] 83)).setRow w3.heap.size (Head.hvl hd)).heap.size) from ⟨HB3.out.size, fun q hq => ⟨(own_in HNL.out.own q hq).1, fun e => by have := (own_in HNL.out.own q hq).2; omega, Nat.lt_of_lt_of_le (own_in HNL.out.own q hq).2 hb5.size⟩⟩)
      refine Head.step_store_row rfl 83 (.tmp 3) (.tmp 25) rfl w3.heap.size (Head.hvl hd) rfl rfl 83 #[.int .i64 0, .int .i64 0, .int .i64 0, .int .i64 0, .int .i64 0, .bool false, .int .u32 0, .int .i64 0] HAN.out (Head.hvl_size hd) rfl (Head.hvl_one hd) ?_
      refine HK2.out _ _ ⟨HB5.out, fun _ => trivial⟩ ?_
      have HTT : Hid (∀ l, Pcm.Till (fun w' => Below w.heap.size w w') (fun _ => True) 99 l ((w3.alloc (.cells #[.int .i64 0, .int .i64 0, .int .i64 0, .int .i64 0, .int .i64 0, .bool false, .int .u32 0, .int .i64 0] 83)).setRow w3.heap.size (Head.hvl hd))) := hid fun l => ⟨HB5.out, fun _ => trivial⟩
      clear HK2 K hb5
      (try simp only [Act.put])
      refine Pcm.take_1 (i := 22) (oi := ({ dst := some 4, op := Op.assign (Operand.tmp 26), type := 28, pos := _, after := #[{ on := 17, ground := Ground.data }, { on := 21, ground := Ground.chain }, { on := 0, ground := Ground.phase }, { on := 1, ground := Ground.phase }, { on := 2, ground := Ground.phase }, { on := 3, ground := Ground.phase }, { on := 4, ground := Ground.phase }, { on := 5, ground := Ground.phase }, { on := 6, ground := Ground.phase }, { on := 7, ground := Ground.phase }, { on := 8, ground := Ground.phase }, { on := 9, ground := Ground.phase }, { on := 10, ground := Ground.phase }, { on := 11, ground := Ground.phase }, { on := 12, ground := Ground.phase }, { on := 13, ground := Ground.phase }, { on := 14, ground := Ground.phase }, { on := 15, ground := Ground.phase }, { on := 16, ground := Ground.phase }, { on := 17, ground := Ground.phase }, { on := 18, ground := Ground.textOnly Departure.lateStores }, { on := 19, ground := Ground.textOnly Departure.lateStores }, { on := 20, ground := Ground.phase }, { on := 21, ground := Ground.phase }], guard := none } : Oper)) (v := .slice ao pl.length co) rfl (by kernel_rfl) (by kernel_rfl) (by kernel_rfl) (by decide) (fun _ _ _ h => h) (HTT.out _) (.inl ⟨by rfl, fun w' hSw => ?_⟩) ?_
      · (try dsimp only at hSw)
        go_simp
      (try simp only [Act.put, List.setIfInBounds_toArray, List.set_cons_zero, List.set_cons_succ])
      refine Pcm.take_1 (i := 23) (oi := ({ dst := some 5, op := Op.assign (Operand.tmp 27), type := 37, pos := _, after := #[{ on := 18, ground := Ground.data }, { on := 22, ground := Ground.chain }, { on := 0, ground := Ground.phase }, { on := 1, ground := Ground.phase }, { on := 2, ground := Ground.phase }, { on := 3, ground := Ground.phase }, { on := 4, ground := Ground.phase }, { on := 5, ground := Ground.phase }, { on := 6, ground := Ground.phase }, { on := 7, ground := Ground.phase }, { on := 8, ground := Ground.phase }, { on := 9, ground := Ground.phase }, { on := 10, ground := Ground.phase }, { on := 11, ground := Ground.phase }, { on := 12, ground := Ground.phase }, { on := 13, ground := Ground.phase }, { on := 14, ground := Ground.phase }, { on := 15, ground := Ground.phase }, { on := 16, ground := Ground.phase }, { on := 17, ground := Ground.phase }, { on := 18, ground := Ground.phase }, { on := 19, ground := Ground.textOnly Departure.lateStores }, { on := 20, ground := Ground.phase }, { on := 21, ground := Ground.phase }, { on := 22, ground := Ground.phase }], guard := none } : Oper)) (v := .int .u32 (sm : Int)) rfl (by kernel_rfl) (by kernel_rfl) (by kernel_rfl) (by decide) (fun _ _ _ h => h) (HTT.out _) (.inl ⟨by rfl, fun w' hSw => ?_⟩) ?_
      · (try dsimp only at hSw)
        go_simp
      (try simp only [Act.put, List.setIfInBounds_toArray, List.set_cons_zero, List.set_cons_succ])
      refine Pcm.take_1 (i := 24) (oi := ({ dst := some 6, op := Op.assign (Operand.tmp 28), type := 34, pos := _, after := #[{ on := 19, ground := Ground.data }, { on := 23, ground := Ground.chain }, { on := 0, ground := Ground.phase }, { on := 1, ground := Ground.phase }, { on := 2, ground := Ground.phase }, { on := 3, ground := Ground.phase }, { on := 4, ground := Ground.phase }, { on := 5, ground := Ground.phase }, { on := 6, ground := Ground.phase }, { on := 7, ground := Ground.phase }, { on := 8, ground := Ground.phase }, { on := 9, ground := Ground.phase }, { on := 10, ground := Ground.phase }, { on := 11, ground := Ground.phase }, { on := 12, ground := Ground.phase }, { on := 13, ground := Ground.phase }, { on := 14, ground := Ground.phase }, { on := 15, ground := Ground.phase }, { on := 16, ground := Ground.phase }, { on := 17, ground := Ground.phase }, { on := 18, ground := Ground.phase }, { on := 19, ground := Ground.phase }, { on := 20, ground := Ground.phase }, { on := 21, ground := Ground.phase }, { on := 22, ground := Ground.phase }, { on := 23, ground := Ground.phase }], guard := none } : Oper)) (v := .int .i64 E) rfl (by kernel_rfl) (by kernel_rfl) (by kernel_rfl) (by decide) (fun _ _ _ h => h) (HTT.out _) (.inl ⟨by rfl, fun w' hSw => ?_⟩) ?_
      · (try dsimp only at hSw)
        go_simp
      (try simp only [Act.put, List.setIfInBounds_toArray, List.set_cons_zero, List.set_cons_succ])
      refine Pcm.anyT_done (by kernel_rfl) ?_ _
      go_wp2_with fail
      go_meet
      case rel => exact ⟨w3.heap.size, ao, co, rfl, rfl, rfl, rfl, HX5.out, HPL5.out, HQ5.out, HB5.out⟩
    · go_simp
      have HB3 := hid (show Below w.heap.size w (w.drew.alloc (.cells #[.int .i64 0, .int .i64 0, .int .i64 0, .int .i64 0, .int .i64 0, .bool false, .int .u32 0, .int .i64 0] 83)) from (Below.refl _ _).drew.trans ((Head.below_new w.drew (.cells #[.int .i64 0, .int .i64 0, .int .i64 0, .int .i64 0, .int .i64 0, .bool false, .int .u32 0, .int .i64 0] 83)).mono (Nat.le_refl _)))
      have HAN0 := hid (heap_alloc_new w.drew (.cells #[.int .i64 0, .int .i64 0, .int .i64 0, .int .i64 0, .int .i64 0, .bool false, .int .u32 0, .int .i64 0] 83))
      have HSZ0 := hid (show (w.drew.alloc (.cells #[.int .i64 0, .int .i64 0, .int .i64 0, .int .i64 0, .int .i64 0, .bool false, .int .u32 0, .int .i64 0] 83)).heap.size = w.heap.size + 1 from Array.size_push _)
      refine HK2.out _ _ ⟨HB3.out, fun _ => trivial⟩ ?_
      clear HK2 K
      (try simp only [Act.put, List.setIfInBounds_toArray, List.set_cons_zero, List.set_cons_succ])
      refine Pcm.anyT_one (i := 14) (o := ({ dst := some 24, op := Op.call { callee := Callee.value (Operand.func 34), args := #[Operand.tmp 13, Operand.tmp 23], argTypes := #[32, 28] }, type := 101, pos := _, after := #[{ on := 3, ground := Ground.data }, { on := 13, ground := Ground.data }], guard := none } : Oper)) (by kernel_rfl) rfl (fun K HK2 => ?_)
      go_simp
      refine (HOP.out _ HB3.out (bc - s.at_) (by omega)).mono ?_
      rintro e w3 ⟨ao, co, rfl, hnl⟩
      rw [show Head.hv hd = .agg (Head.hvl hd) from rfl]
      have HAN := hid (show w3.heap[w.heap.size]? = some (.cells #[.int .i64 0, .int .i64 0, .int .i64 0, .int .i64 0, .int .i64 0, .bool false, .int .u32 0, .int .i64 0] 83 (0, 0)) from (hnl.bel.block w.heap.size (by have := HSZ0.out; omega)).trans HAN0.out)
      have HB4 := hid (HB3.out.trans (hnl.bel.mono HB3.out.size))
      have HNL := hid hnl
      clear hnl
      refine HK2.out _ _ ⟨HB4.out, fun _ => trivial⟩ ?_
      have HTT : Hid (∀ l, Pcm.Till (fun w' => Below w.heap.size w w') (fun _ => True) 99 l (w3)) := hid fun l => ⟨HB4.out, fun _ => trivial⟩
      clear HK2 K
      (try simp only [Act.put, List.setIfInBounds_toArray, List.set_cons_zero, List.set_cons_succ])
      refine Pcm.take_1 (i := 15) (oi := ({ dst := some 9, op := Op.move (Operand.tmp 24), type := 101, pos := _, after := #[{ on := 14, ground := Ground.data }], guard := none } : Oper)) (v := .tuple #[.agg (Head.hvl hd), .slice ao pl.length co, .int .u32 (sm : Int), .int .i64 E]) rfl (by kernel_rfl) (by kernel_rfl) (by kernel_rfl) (by decide) (fun _ _ _ h => h) (HTT.out _) (.inl ⟨by rfl, fun w' hSw => ?_⟩) ?_
      · (try dsimp only at hSw)
        go_simp
      (try simp only [Act.put, List.setIfInBounds_toArray, List.set_cons_zero, List.set_cons_succ])
      refine Pcm.take_1 (i := 16) (oi := ({ dst := some 25, op := Op.extract (Operand.tmp 9) 0, type := 83, pos := _, after := #[{ on := 15, ground := Ground.data }], guard := none } : Oper)) (v := .agg (Head.hvl hd)) rfl (by kernel_rfl) (by kernel_rfl) (by kernel_rfl) (by decide) (fun _ _ _ h => h) (HTT.out _) (.inl ⟨by rfl, fun w' hSw => ?_⟩) ?_
      · (try dsimp only at hSw)
        go_simp
      (try simp only [Act.put, List.setIfInBounds_toArray, List.set_cons_zero, List.set_cons_succ])
      refine Pcm.take_1 (i := 17) (oi := ({ dst := some 26, op := Op.extract (Operand.tmp 9) 1, type := 28, pos := _, after := #[{ on := 15, ground := Ground.data }, { on := 21, ground := Ground.gcOnly Departure.lateStores }], guard := none } : Oper)) (v := .slice ao pl.length co) rfl (by kernel_rfl) (by kernel_rfl) (by kernel_rfl) (by decide) (fun _ _ _ h => h) (HTT.out _) (.inl ⟨by rfl, fun w' hSw => ?_⟩) ?_
      · (try dsimp only at hSw)
        go_simp
      (try simp only [Act.put, List.setIfInBounds_toArray, List.set_cons_zero, List.set_cons_succ])
      refine Pcm.take_1 (i := 18) (oi := ({ dst := some 27, op := Op.extract (Operand.tmp 9) 2, type := 37, pos := _, after := #[{ on := 15, ground := Ground.data }, { on := 22, ground := Ground.gcOnly Departure.lateStores }], guard := none } : Oper)) (v := .int .u32 (sm : Int)) rfl (by kernel_rfl) (by kernel_rfl) (by kernel_rfl) (by decide) (fun _ _ _ h => h) (HTT.out _) (.inl ⟨by rfl, fun w' hSw => ?_⟩) ?_
      · (try dsimp only at hSw)
        go_simp
      (try simp only [Act.put, List.setIfInBounds_toArray, List.set_cons_zero, List.set_cons_succ])
      refine Pcm.take_1 (i := 19) (oi := ({ dst := some 28, op := Op.extract (Operand.tmp 9) 3, type := 34, pos := _, after := #[{ on := 15, ground := Ground.data }, { on := 23, ground := Ground.gcOnly Departure.lateStores }], guard := none } : Oper)) (v := .int .i64 E) rfl (by kernel_rfl) (by kernel_rfl) (by kernel_rfl) (by decide) (fun _ _ _ h => h) (HTT.out _) (.inl ⟨by rfl, fun w' hSw => ?_⟩) ?_
      · (try dsimp only at hSw)
        go_simp
      (try simp only [Act.put, List.setIfInBounds_toArray, List.set_cons_zero, List.set_cons_succ])
      refine Pcm.anyT_one (i := 21) (o := ({ dst := none, op := Op.store 83 (Operand.tmp 3) (Operand.tmp 25), type := 0, pos := _, after := #[{ on := 20, ground := Ground.data }, { on := 16, ground := Ground.data }, { on := 14, ground := Ground.chain }, { on := 0, ground := Ground.phase }, { on := 1, ground := Ground.phase }, { on := 2, ground := Ground.phase }, { on := 3, ground := Ground.phase }, { on := 4, ground := Ground.phase }, { on := 5, ground := Ground.phase }, { on := 6, ground := Ground.phase }, { on := 7, ground := Ground.phase }, { on := 8, ground := Ground.phase }, { on := 9, ground := Ground.phase }, { on := 10, ground := Ground.phase }, { on := 11, ground := Ground.phase }, { on := 12, ground := Ground.phase }, { on := 13, ground := Ground.phase }, { on := 14, ground := Ground.phase }, { on := 15, ground := Ground.phase }, { on := 16, ground := Ground.phase }, { on := 17, ground := Ground.textOnly Departure.lateStores }, { on := 18, ground := Ground.textOnly Departure.lateStores }, { on := 19, ground := Ground.textOnly Departure.lateStores }, { on := 20, ground := Ground.phase }], guard := none } : Oper)) (by kernel_rfl) rfl (fun K HK2 => ?_)
      have HB5 := hid (show Below w.heap.size w (w3.setRow w.heap.size (Head.hvl hd)) from Head.fr_rowBelow HB4.out (Nat.le_refl _))
      have HX5 := hid (show Head.Bx (w3.setRow w.heap.size (Head.hvl hd)) w.heap.size hd from ⟨setRow_heap _ _ _ _ _ _ HAN.out⟩)
      have HPL5 := hid (Byts.of_row (w := w3.setRow w.heap.size (Head.hvl hd)) HNL.out.lt (Head.own_setRow HNL.out.own (fun e => by have := (own_in HNL.out.own w.heap.size e).1; have := HSZ0.out; omega)))
      have HQ5 := hid (show w.heap.size ≤ w.heap.size ∧ (∀ q, blk ao = some q → w.heap.size ≤ q ∧ q ≠ w.heap.size ∧ q < (w3.setRow w.heap.size (Head.hvl hd)).heap.size) from ⟨Nat.le_refl _, fun q hq => ⟨by have := (own_in HNL.out.own q hq).1; have := HSZ0.out; omega, fun e => by have := (own_in HNL.out.own q hq).1; have := HSZ0.out; omega, by rw [show (w3.setRow w.heap.size (Head.hvl hd)).heap.size = w3.heap.size from Array.size_modify ..]; exact (own_in HNL.out.own q hq).2⟩⟩)
      refine Head.step_store_row rfl 83 (.tmp 3) (.tmp 25) rfl w.heap.size (Head.hvl hd) rfl rfl 83 #[.int .i64 0, .int .i64 0, .int .i64 0, .int .i64 0, .int .i64 0, .bool false, .int .u32 0, .int .i64 0] HAN.out (Head.hvl_size hd) rfl (Head.hvl_one hd) ?_
      refine HK2.out _ _ ⟨HB5.out, fun _ => trivial⟩ ?_
      have HTT : Hid (∀ l, Pcm.Till (fun w' => Below w.heap.size w w') (fun _ => True) 99 l (w3.setRow w.heap.size (Head.hvl hd))) := hid fun l => ⟨HB5.out, fun _ => trivial⟩
      clear HK2 K
      (try simp only [Act.put])
      refine Pcm.take_1 (i := 22) (oi := ({ dst := some 4, op := Op.assign (Operand.tmp 26), type := 28, pos := _, after := #[{ on := 17, ground := Ground.data }, { on := 21, ground := Ground.chain }, { on := 0, ground := Ground.phase }, { on := 1, ground := Ground.phase }, { on := 2, ground := Ground.phase }, { on := 3, ground := Ground.phase }, { on := 4, ground := Ground.phase }, { on := 5, ground := Ground.phase }, { on := 6, ground := Ground.phase }, { on := 7, ground := Ground.phase }, { on := 8, ground := Ground.phase }, { on := 9, ground := Ground.phase }, { on := 10, ground := Ground.phase }, { on := 11, ground := Ground.phase }, { on := 12, ground := Ground.phase }, { on := 13, ground := Ground.phase }, { on := 14, ground := Ground.phase }, { on := 15, ground := Ground.phase }, { on := 16, ground := Ground.phase }, { on := 17, ground := Ground.phase }, { on := 18, ground := Ground.textOnly Departure.lateStores }, { on := 19, ground := Ground.textOnly Departure.lateStores }, { on := 20, ground := Ground.phase }, { on := 21, ground := Ground.phase }], guard := none } : Oper)) (v := .slice ao pl.length co) rfl (by kernel_rfl) (by kernel_rfl) (by kernel_rfl) (by decide) (fun _ _ _ h => h) (HTT.out _) (.inl ⟨by rfl, fun w' hSw => ?_⟩) ?_
      · (try dsimp only at hSw)
        go_simp
      (try simp only [Act.put, List.setIfInBounds_toArray, List.set_cons_zero, List.set_cons_succ])
      refine Pcm.take_1 (i := 23) (oi := ({ dst := some 5, op := Op.assign (Operand.tmp 27), type := 37, pos := _, after := #[{ on := 18, ground := Ground.data }, { on := 22, ground := Ground.chain }, { on := 0, ground := Ground.phase }, { on := 1, ground := Ground.phase }, { on := 2, ground := Ground.phase }, { on := 3, ground := Ground.phase }, { on := 4, ground := Ground.phase }, { on := 5, ground := Ground.phase }, { on := 6, ground := Ground.phase }, { on := 7, ground := Ground.phase }, { on := 8, ground := Ground.phase }, { on := 9, ground := Ground.phase }, { on := 10, ground := Ground.phase }, { on := 11, ground := Ground.phase }, { on := 12, ground := Ground.phase }, { on := 13, ground := Ground.phase }, { on := 14, ground := Ground.phase }, { on := 15, ground := Ground.phase }, { on := 16, ground := Ground.phase }, { on := 17, ground := Ground.phase }, { on := 18, ground := Ground.phase }, { on := 19, ground := Ground.textOnly Departure.lateStores }, { on := 20, ground := Ground.phase }, { on := 21, ground := Ground.phase }, { on := 22, ground := Ground.phase }], guard := none } : Oper)) (v := .int .u32 (sm : Int)) rfl (by kernel_rfl) (by kernel_rfl) (by kernel_rfl) (by decide) (fun _ _ _ h => h) (HTT.out _) (.inl ⟨by rfl, fun w' hSw => ?_⟩) ?_
      · (try dsimp only at hSw)
        go_simp
      (try simp only [Act.put, List.setIfInBounds_toArray, List.set_cons_zero, List.set_cons_succ])
      refine Pcm.take_1 (i := 24) (oi := ({ dst := some 6, op := Op.assign (Operand.tmp 28), type := 34, pos := _, after := #[{ on := 19, ground := Ground.data }, { on := 23, ground := Ground.chain }, { on := 0, ground := Ground.phase }, { on := 1, ground := Ground.phase }, { on := 2, ground := Ground.phase }, { on := 3, ground := Ground.phase }, { on := 4, ground := Ground.phase }, { on := 5, ground := Ground.phase }, { on := 6, ground := Ground.phase }, { on := 7, ground := Ground.phase }, { on := 8, ground := Ground.phase }, { on := 9, ground := Ground.phase }, { on := 10, ground := Ground.phase }, { on := 11, ground := Ground.phase }, { on := 12, ground := Ground.phase }, { on := 13, ground := Ground.phase }, { on := 14, ground := Ground.phase }, { on := 15, ground := Ground.phase }, { on := 16, ground := Ground.phase }, { on := 17, ground := Ground.phase }, { on := 18, ground := Ground.phase }, { on := 19, ground := Ground.phase }, { on := 20, ground := Ground.phase }, { on := 21, ground := Ground.phase }, { on := 22, ground := Ground.phase }, { on := 23, ground := Ground.phase }], guard := none } : Oper)) (v := .int .i64 E) rfl (by kernel_rfl) (by kernel_rfl) (by kernel_rfl) (by decide) (fun _ _ _ h => h) (HTT.out _) (.inl ⟨by rfl, fun w' hSw => ?_⟩) ?_
      · (try dsimp only at hSw)
        go_simp
      (try simp only [Act.put, List.setIfInBounds_toArray, List.set_cons_zero, List.set_cons_succ])
      refine Pcm.anyT_done (by kernel_rfl) ?_ _
      go_wp2_with fail
      go_meet
      case rel => exact ⟨w.heap.size, ao, co, rfl, rfl, rfl, rfl, HX5.out, HPL5.out, HQ5.out, HB5.out⟩
  case rest =>
    obtain ⟨q, ao, co, rfl, rfl, rfl, rfl, hx, hp, hq, hbel⟩ := hcut
    have HX := hid hx
    have HP := hid hp
    have HQ := hid hq
    have HRD2 := hid (HRD.out.more hbel)
    have HBL := hid hbel
    have HGL := hid HRD.out.nx.lt
    have HAPL := hid (fun k hk => (own_in HRD.out.po k hk).2)
    have HABL := hid (fun k (hk : blk ab = some k) => (HRD.out.bo.lt k (by rw [ownBlock_slice]; exact hk)).2)
    clear hx hp hq hbel HOP hltc hlti hne hbc
    by_cases hE : E = 0
    rotate_left 1
    · have hE' : (E != 0) = true := bne_iff_ne.2 hE
      have hX : Z = E := by rw [← HZ.out]; unfold rbE; rw [HEE.out, if_pos hE]
      go_wp2_with fail
      go_ret
      exact ⟨by rw [hX]; rfl, HBL.out.mono (Nat.le_of_lt HGL.out), fun e => absurd (hX ▸ e) hE⟩
    subst hE
    have HZN := hid (show Z = nxt i hd s.n s.sh from by rw [← HZ.out]; unfold rbE; rw [HEE.out, if_neg (fun h => h rfl), HHD.out])
    obtain ⟨hrt, hsz, hle, hzl⟩ := op_ok HEE.out
    rw [HHD.out] at hrt hsz
    have HRT := hid hrt
    have HSZ := hid hsz
    clear hle hzl hrt hsz HRD
    go_wp2_with fail
    have HTT : Hid (∀ l, Pcm.Till (fun w' => Below wc.heap.size wc w') (fun _ => True) 99 l wc.drew) := hid fun l => ⟨(Below.refl _ _).drew, fun _ => trivial⟩
    refine Pcm.region_T (T := Pcm.Till (fun w' => Below wc.heap.size wc w') (fun _ => True) 99) (by kernel_rfl) ?_
    refine Pcm.take_1 (i := 0) (oi := ({ dst := some 32, op := Op.load 83 (Operand.tmp 3), type := 83, pos := _, after := #[], guard := none } : Oper)) (v := .agg #[.int .i64 hd.k, .int .i64 hd.ix, .int .i64 hd.ln, .int .i64 hd.st, .int .i64 hd.bd, .bool hd.la, .int .u32 (hd.lk : Int), .int .i64 hd.sz]) rfl (by kernel_rfl) (by kernel_rfl) (by kernel_rfl) (by decide) (fun _ _ _ h => h) (HTT.out _) (.inl ⟨by rfl, fun w' hSw => ?_⟩) ?_
    · (try dsimp only at hSw)
      have HX9 := hid (HX.out.below hSw HX.out.lt)
      have b0 := HX9.out.c0
      have b1 := HX9.out.c1
      have b2 := HX9.out.c2
      have b3 := HX9.out.c3
      have b4 := HX9.out.c4
      have b5 := HX9.out.c5
      have b6 := HX9.out.c6
      have b7 := HX9.out.c7
      clear HX9 hSw
      go_simp
    (try simp only [Act.put, List.setIfInBounds_toArray, List.set_cons_zero, List.set_cons_succ])
    refine Pcm.take_1 (i := 1) (oi := ({ dst := some 33, op := Op.move (Operand.tmp 4), type := 28, pos := _, after := #[], guard := none } : Oper)) (v := .slice ao pl.length co) rfl (by kernel_rfl) (by kernel_rfl) (by kernel_rfl) (by decide) (fun _ _ _ h => h) (HTT.out _) (.inl ⟨by rfl, fun w' hSw => ?_⟩) ?_
    · (try dsimp only at hSw)
      go_simp
    (try simp only [Act.put, List.setIfInBounds_toArray, List.set_cons_zero, List.set_cons_succ])
    refine Pcm.take_1 (i := 2) (oi := ({ dst := some 34, op := Op.move (Operand.tmp 5), type := 37, pos := _, after := #[], guard := none } : Oper)) (v := .int .u32 (sm : Int)) rfl (by kernel_rfl) (by kernel_rfl) (by kernel_rfl) (by decide) (fun _ _ _ h => h) (HTT.out _) (.inl ⟨by rfl, fun w' hSw => ?_⟩) ?_
    · (try dsimp only at hSw)
      go_simp
    (try simp only [Act.put, List.setIfInBounds_toArray, List.set_cons_zero, List.set_cons_succ])
    refine Pcm.take_1 (i := 3) (oi := ({ dst := some 35, op := Op.move (Operand.tmp 0), type := 74, pos := _, after := #[], guard := none } : Oper)) (v := .pointer (some ⟨g, 0, none⟩)) rfl (by kernel_rfl) (by kernel_rfl) (by kernel_rfl) (by decide) (fun _ _ _ h => h) (HTT.out _) (.inl ⟨by rfl, fun w' hSw => ?_⟩) ?_
    · (try dsimp only at hSw)
      go_simp
    (try simp only [Act.put, List.setIfInBounds_toArray, List.set_cons_zero, List.set_cons_succ])
    refine Pcm.take_1 (i := 4) (oi := ({ dst := some 36, op := Op.nilCheck (Operand.tmp 35), type := 0, pos := _, after := #[{ on := 3, ground := Ground.data }], guard := none } : Oper)) (v := .pointer (some ⟨g, 0, none⟩)) rfl (by kernel_rfl) (by kernel_rfl) (by kernel_rfl) (by decide) (fun _ _ _ h => h) (HTT.out _) (.inl ⟨by rfl, fun w' hSw => ?_⟩) ?_
    · (try dsimp only at hSw)
      go_simp
    (try simp only [Act.put, List.setIfInBounds_toArray, List.set_cons_zero, List.set_cons_succ])
    refine Pcm.take_1 (i := 5) (oi := ({ dst := some 37, op := Op.fieldAddr 76 (Operand.tmp 36) 0, type := 0, pos := _, after := #[{ on := 4, ground := Ground.data }], guard := none } : Oper)) (v := .pointer (some ⟨g, 0, none⟩)) rfl (by kernel_rfl) (by kernel_rfl) (by kernel_rfl) (by decide) (fun _ _ _ h => h) (HTT.out _) (.inl ⟨by rfl, fun w' hSw => ?_⟩) ?_
    · (try dsimp only at hSw)
      go_simp
    (try simp only [Act.put, List.setIfInBounds_toArray, List.set_cons_zero, List.set_cons_succ])
    refine Pcm.take_1 (i := 6) (oi := ({ dst := some 38, op := Op.fieldAddr 62 (Operand.tmp 37) 1, type := 0, pos := _, after := #[{ on := 5, ground := Ground.data }], guard := none } : Oper)) (v := .pointer (some ⟨g, 6, none⟩)) rfl (by kernel_rfl) (by kernel_rfl) (by kernel_rfl) (by decide) (fun _ _ _ h => h) (HTT.out _) (.inl ⟨by rfl, fun w' hSw => ?_⟩) ?_
    · (try dsimp only at hSw)
      go_simp
    (try simp only [Act.put, List.setIfInBounds_toArray, List.set_cons_zero, List.set_cons_succ])
    refine Pcm.take_1 (i := 7) (oi := ({ dst := some 39, op := Op.load 3 (Operand.tmp 38), type := 3, pos := _, after := #[{ on := 6, ground := Ground.data }], guard := none } : Oper)) (v := .int .i64 (s.at_ : Int)) rfl (by kernel_rfl) (by kernel_rfl) (by kernel_rfl) (by decide) (fun _ _ _ h => h) (HTT.out _) (.inl ⟨by rfl, fun w' hSw => ?_⟩) ?_
    · (try dsimp only at hSw)
      have cc := (hSw.cell (p := ⟨g, 6, none⟩) HRD2.out.nx.lt).trans HRD2.out.nx.c6
      clear hSw
      go_simp
    (try simp only [Act.put, List.setIfInBounds_toArray, List.set_cons_zero, List.set_cons_succ])
    refine Pcm.take_1 (i := 8) (oi := ({ dst := some 40, op := Op.build 86 #[(0, Operand.tmp 32), (1, Operand.tmp 33), (2, Operand.tmp 34), (3, Operand.tmp 39)], type := 86, pos := _, after := #[{ on := 0, ground := Ground.data }, { on := 1, ground := Ground.data }, { on := 2, ground := Ground.data }, { on := 7, ground := Ground.data }], guard := none } : Oper)) (v := .agg #[.int .i64 hd.k, .int .i64 hd.ix, .int .i64 hd.ln, .int .i64 hd.st, .int .i64 hd.bd, .bool hd.la, .int .u32 (hd.lk : Int), .int .i64 hd.sz, .slice ao pl.length co, .int .u32 (sm : Int), .int .i64 (s.at_ : Int)]) rfl (by kernel_rfl) (by kernel_rfl) (by kernel_rfl) (by decide) (fun _ _ _ h => h) (HTT.out _) (.inl ⟨by rfl, fun w' hSw => ?_⟩) ?_
    · (try dsimp only at hSw)
      go_simp
    (try simp only [Act.put, List.setIfInBounds_toArray, List.set_cons_zero, List.set_cons_succ])
    refine Pcm.anyT_one (i := 9) (o := ({ dst := some 7, op := Op.alloc 86, type := 0, pos := _, after := #[], guard := none } : Oper)) (by kernel_rfl) rfl (fun K HK2 => ?_)
    go_simp
    have HB4 := hid (show Below wc.heap.size wc (wc.drew.alloc (.cells #[.int .i64 0, .int .i64 0, .int .i64 0, .int .i64 0, .int .i64 0, .bool false, .int .u32 0, .int .i64 0, .slice none 0 0, .int .u32 0, .int .i64 0] 86)) from (Below.refl _ _).drew.trans ((Head.below_new wc.drew (.cells #[.int .i64 0, .int .i64 0, .int .i64 0, .int .i64 0, .int .i64 0, .bool false, .int .u32 0, .int .i64 0, .slice none 0 0, .int .u32 0, .int .i64 0] 86)).mono (Nat.le_refl _)))
    have HAN := hid (heap_alloc_new wc.drew (.cells #[.int .i64 0, .int .i64 0, .int .i64 0, .int .i64 0, .int .i64 0, .bool false, .int .u32 0, .int .i64 0, .slice none 0 0, .int .u32 0, .int .i64 0] 86))
    refine HK2.out _ _ ⟨HB4.out, fun _ => trivial⟩ ?_
    clear HK2 K
    (try simp only [Act.put, List.setIfInBounds_toArray, List.set_cons_zero, List.set_cons_succ])
    refine Pcm.anyT_one (i := 10) (o := ({ dst := none, op := Op.store 86 (Operand.tmp 7) (Operand.tmp 40), type := 0, pos := _, after := #[{ on := 9, ground := Ground.data }, { on := 8, ground := Ground.data }, { on := 0, ground := Ground.phase }, { on := 1, ground := Ground.phase }, { on := 2, ground := Ground.phase }, { on := 3, ground := Ground.phase }, { on := 4, ground := Ground.phase }, { on := 5, ground := Ground.phase }, { on := 6, ground := Ground.phase }, { on := 7, ground := Ground.phase }, { on := 8, ground := Ground.phase }, { on := 9, ground := Ground.phase }], guard := none } : Oper)) (by kernel_rfl) rfl (fun K HK2 => ?_)
    have hb5 : Below wc.heap.size wc ((wc.drew.alloc (.cells #[.int .i64 0, .int .i64 0, .int .i64 0, .int .i64 0, .int .i64 0, .bool false, .int .u32 0, .int .i64 0, .slice none 0 0, .int .u32 0, .int .i64 0] 86)).setRow wc.heap.size #[.int .i64 hd.k, .int .i64 hd.ix, .int .i64 hd.ln, .int .i64 hd.st, .int .i64 hd.bd, .bool hd.la, .int .u32 (hd.lk : Int), .int .i64 hd.sz, .slice ao pl.length co, .int .u32 (sm : Int), .int .i64 (s.at_ : Int)]) := Head.fr_rowBelow HB4.out (Nat.le_refl _)
    have HROW := hid (setRow_heap (wc.drew.alloc (.cells #[.int .i64 0, .int .i64 0, .int .i64 0, .int .i64 0, .int .i64 0, .bool false, .int .u32 0, .int .i64 0, .slice none 0 0, .int .u32 0, .int .i64 0] 86)) wc.heap.size #[.int .i64 0, .int .i64 0, .int .i64 0, .int .i64 0, .int .i64 0, .bool false, .int .u32 0, .int .i64 0, .slice none 0 0, .int .u32 0, .int .i64 0] #[.int .i64 hd.k, .int .i64 hd.ix, .int .i64 hd.ln, .int .i64 hd.st, .int .i64 hd.bd, .bool hd.la, .int .u32 (hd.lk : Int), .int .i64 hd.sz, .slice ao pl.length co, .int .u32 (sm : Int), .int .i64 (s.at_ : Int)] 86 (0, 0) HAN.out)
    refine Head.step_store_row rfl 86 (.tmp 7) (.tmp 40) rfl wc.heap.size #[.int .i64 hd.k, .int .i64 hd.ix, .int .i64 hd.ln, .int .i64 hd.st, .int .i64 hd.bd, .bool hd.la, .int .u32 (hd.lk : Int), .int .i64 hd.sz, .slice ao pl.length co, .int .u32 (sm : Int), .int .i64 (s.at_ : Int)] rfl rfl 86 #[.int .i64 0, .int .i64 0, .int .i64 0, .int .i64 0, .int .i64 0, .bool false, .int .u32 0, .int .i64 0, .slice none 0 0, .int .u32 0, .int .i64 0] HAN.out size63 rfl (by simp [Value.oneCell']) ?_
    refine HK2.out _ _ ⟨hb5, fun _ => trivial⟩ ?_
    have HB5 := hid hb5
    clear HK2 K hb5
    (try simp only [Act.put])
    refine Pcm.anyT_done (by kernel_rfl) ?_ _
    rw [show wc.drew.alloc (.cells #[.int .i64 0, .int .i64 0, .int .i64 0, .int .i64 0, .int .i64 0, .bool false, .int .u32 0, .int .i64 0, .slice none 0 0, .int .u32 0, .int .i64 0] 86) = (wc.alloc (.cells #[.int .i64 0, .int .i64 0, .int .i64 0, .int .i64 0, .int .i64 0, .bool false, .int .u32 0, .int .i64 0, .slice none 0 0, .int .u32 0, .int .i64 0] 86)).drew from rfl] at HB5 HROW
    generalize hw6 : ((wc.alloc (.cells #[.int .i64 0, .int .i64 0, .int .i64 0, .int .i64 0, .int .i64 0, .bool false, .int .u32 0, .int .i64 0, .slice none 0 0, .int .u32 0, .int .i64 0] 86)).drew).setRow wc.heap.size #[.int .i64 hd.k, .int .i64 hd.ix, .int .i64 hd.ln, .int .i64 hd.st, .int .i64 hd.bd, .bool hd.la, .int .u32 (hd.lk : Int), .int .i64 hd.sz, .slice ao pl.length co, .int .u32 (sm : Int), .int .i64 (s.at_ : Int)] = w6 at *
    have HW6 := hid (show wc.heap.size < w6.heap.size from World.block_lt_of_cell? _ _ (Inf.row_cell HROW.out 0 rfl))
    have HX6 := hid (HX.out.below HB5.out HX.out.lt)
    have HP6 := hid (HP.out.keep HB5.out)
    have HRD6 := hid (HRD2.out.more HB5.out)
    have HBL6 := hid (HBL.out.trans (HB5.out.mono HBL.out.size))
    have HQC := hid (And.intro HX.out.lt HBL.out.size)
    clear HTT HAN HB4 HX HP HRD2 hw6
    go_wp2_with fail
    have b0 := HX6.out.c0
    have b1 := HX6.out.c1
    have b2 := HX6.out.c2
    have b3 := HX6.out.c3
    have b4 := HX6.out.c4
    have b5 := HX6.out.c5
    have b6 := HX6.out.c6
    have b7 := HX6.out.c7
    go_still_tail 4, (by kernel_rfl)
    clear b0 b1 b2 b3 b4 b5 b6 b7
    have hbd : Below w6.heap.size w6 w6.drew := (Below.refl _ _).drew
    have HRD7 := hid (HRD6.out.more hbd)
    have HP7 := hid (HP6.out.keep hbd)
    have HROW7 := hid ((hbd.block wc.heap.size HW6.out).trans HROW.out)
    have HB7 := hid (HBL6.out.trans (hbd.mono HBL6.out.size))
    have HW7 := hid (Nat.lt_of_lt_of_le HW6.out hbd.size)
    clear hbd HRD6 HP6 HROW HB5 HBL6 HX6
    change wpList _ _ _ _ _ w6.drew
    generalize w6.drew = w7 at *
    have HNB := hid HRD7.out.ok
    have HNT := hid (note_any HRD7.out.nx HRD7.out.po (fun e => by have := (own_in HRD7.out.po g e).1; omega) (Nat.succ_le_of_lt HRD7.out.nx.lt) hd HRT.out (by omega) ⟨HNB.out.c.1, by have h1 := HNB.out.c.2; have h2 := HNB.out.le; omega⟩ (by have h2 := HNB.out.le; omega))
    go_wp2_with fail
    refine HNT.out.mono ?_
    rintro e w8 ⟨rfl, hfr, h10, h11, hbad, hgood⟩
    rw [← HZN.out] at hbad hgood ⊢
    have hbg : Below g w7 w8 := ⟨hfr.os, hfr.tape, hfr.output, hfr.size, fun k hk => hfr.block k (Nat.lt_trans hk HRD7.out.nx.lt) (fun e => by
      rcases e with e | e
      · omega
      · have := (own_in HRD7.out.po k e).1; omega)⟩
    have hB8 : Below g w w8 := (HB7.out.mono (Nat.le_of_lt HGL.out)).trans hbg
    have HB8 := hid hB8
    have HBG8 := hid hbg
    by_cases hz : Z = 0
    rotate_left 1
    · have hz' : (Z != 0) = true := bne_iff_ne.2 hz
      clear hfr h10 h11 hbad hgood hbg hB8
      go_wp2_with fail
      go_ret
      exact ⟨rfl, HB8.out, fun e => absurd e hz⟩
    subst hz
    obtain ⟨a8, c8, hnx8, hpo8, hfar8, hat8⟩ := hgood rfl
    have hapl : ∀ k, blk ap = some k → g + 1 ≤ k ∧ k < w.heap.size := fun k hk => ⟨(own_in HRD7.out.po k hk).1, HAPL.out k hk⟩
    have habl : ∀ k, blk ab = some k → g + 1 ≤ k ∧ k < w.heap.size := fun k hk => ⟨(HRD7.out.bo.lt k (by rw [ownBlock_slice]; exact hk)).1, HABL.out k hk⟩
    have hgw : g < w.heap.size := HGL.out
    have hw7 : w.heap.size ≤ w7.heap.size := HB7.out.size
    have hbo8 : w8.ownsRow (g + 1) 86 11 (.slice ab s.n cb) s.n (bls X) := ownsRow_block HRD7.out.bo fun k hk => hfr.block k (by have := (habl k hk).2; omega) (fun e => by
      rcases e with e | e
      · have := (habl k hk).1; omega
      · exact HRD7.out.d k e hk)
    have hpay8 : ∀ (a : Option Addr) (l : List Nat), Byts w7 a l → (∀ q, blk a = some q → g < q ∧ blk ap ≠ some q) → Byts w8 a l := fun a l hby hq => hby.stay hfr (fun q off e hX => by
      have := hq q (by rw [e]; rfl)
      rcases hX with h | h
      · omega
      · exact this.2 h)
    have hrow8 : w8.heap[wc.heap.size]? = some (.cells #[.int .i64 hd.k, .int .i64 hd.ix, .int .i64 hd.ln, .int .i64 hd.st, .int .i64 hd.bd, .bool hd.la, .int .u32 (hd.lk : Int), .int .i64 hd.sz, .slice ao pl.length co, .int .u32 (sm : Int), .int .i64 (s.at_ : Int)] 86 (0, 0)) := (hfr.block wc.heap.size HW7.out (fun e => by
      have hq2 := HQC.out.2
      rcases e with e | e
      · omega
      · have := (hapl _ e).2; omega)).trans HROW7.out
    have hc10 : w8.cell? ⟨g, 10, none⟩ = some (.pointer (some ⟨t, 0, none⟩)) := (h10 10 (by omega)).trans HRD7.out.c10
    have hc11 : w8.cell? ⟨g, 11, none⟩ = some (.slice (some ⟨bq, bo, none⟩) bn bc) := (h10 11 (by omega)).trans HRD7.out.c11
    have hc12 : w8.cell? ⟨g, 12, none⟩ = some (.slice ab s.n cb) := (h10 12 (by omega)).trans HRD7.out.c12
    have hf12 : w8.frozen? ⟨g, 12, none⟩ = false := hnx8.fz 12
    have hw78 := hfr.size
    have hsn : s.n ≤ 1073741824 := by have h2 := HNB.out.le; omega
    have r0 := Inf.row_cell hrow8 0 rfl
    have r1 := Inf.row_cell hrow8 1 rfl
    have r2 := Inf.row_cell hrow8 2 rfl
    have r3 := Inf.row_cell hrow8 3 rfl
    have r4 := Inf.row_cell hrow8 4 rfl
    have r5 := Inf.row_cell hrow8 5 rfl
    have r6 := Inf.row_cell hrow8 6 rfl
    have r7 := Inf.row_cell hrow8 7 rfl
    have r8 := Inf.row_cell hrow8 8 rfl
    have r9 := Inf.row_cell hrow8 9 rfl
    have r10 := Inf.row_cell hrow8 10 rfl
    obtain ⟨i63, hi63, hz0, hz1, hz2⟩ := info_parts info63
    have HX8 := hid (show ∀ (j : Nat) (x : Bv), X[j]? = some x → ∀ q, blk x.a = some q → g < q ∧ blk ap ≠ some q ∧ blk ab ≠ some q ∧ q < w7.heap.size from HRD7.out.far)
    have HXS8 := hid (show Xs w8 b s.P X from ⟨HRD7.out.xs.len, fun j x hj => by
      obtain ⟨at_, ha, k⟩ := HRD7.out.xs.ok j x hj
      exact ⟨at_, ha, k.h, k.n, hpay8 _ _ k.p (fun q hq => ⟨(HX8.out j x hj q hq).1, (HX8.out j x hj q hq).2.1⟩), k.s, k.e⟩⟩)
    have HPO8 := hid (hpay8 _ _ HP7.out (fun q' hq' => ⟨by have h1 := (HQ.out.2 q' hq').1; omega, fun e => by have h1 := (HQ.out.2 q' hq').1; have h2 := (hapl q' e).2; omega⟩))
    have HNX8 := hid hnx8
    have HPL8 := hid hpo8
    have HBO8 := hid hbo8
    have HAT8 := hid (And.intro hfar8 hat8)
    have HC10 := hid hc10
    have HC11 := hid hc11
    have HAP := hid hapl
    have HAB := hid habl
    have HQ8 := hid (show ∀ q', blk ao = some q' → g < q' ∧ q' < w7.heap.size ∧ q' < w8.heap.size from fun q' hq' => by
      have h1 := (HQ.out.2 q' hq').1
      have h2 := (HQ.out.2 q' hq').2.2
      have h3 := HW7.out
      omega)
    have HWS := hid (And.intro hgw (And.intro hw7 hw78))
    clear hfr h10 h11 hbad hgood hbg hnx8 hpo8 hfar8 hat8 hapl habl hgw hw7 hbo8 hpay8 hc10 hc11 hw78 hrow8 HNT HROW7 HP7
    have hgl8 : g < w8.heap.size := HNX8.out.lt
    have hbow : w8.ownsRow (g + 1) 86 11 (.slice ab s.n cb) s.n (bls X) := HBO8.out
    go_wp2_with fail
    go_cut [] (fun wx => ∃ ap' cp' ab' cb' X', RdI w0 g t i b (some ⟨bq, bo, none⟩) bn bc (s.next i r) ap' cp' ab' cb' X' wx ∧ Below g w wx)
    case first =>
      go_region_law
        ((refine step_append_k (by rfl) _ _ _ (by rfl) (g + 1) 86 i63 _ 11 96 Tryd.underlying38 hi63 hz0 hz1 hz2 rfl (by decide) ab s.n cb (bls X) (by rfl) ((hbow.alloc _).drew)
            ⟨w8.heap.size, 0, none⟩ 1 (bvl ⟨hd, ao, pl.length, co, sm, s.at_⟩) (by rfl) rfl (cells_new _ _ _) (bvl_one _) (by unfold maxLen; omega) (by omega) (by simp; omega) ?_
          intro gg cap1 w9 hown1 hgrow hat9 hlt9
          have hfr9 : Fr (fun q => blk ab = some q) w8 w9 := ((Fr.refl _ w8).alloc _).drew.grown hgrow (fun q hq _ => hq)
          have hgab : ¬ blk ab = some g := fun e => by have := (HAB.out g e).1; omega
          have hc12' : w9.cell? ⟨g, 12, none⟩ = some (.slice ab s.n cb) := (hfr9.cell (p := ⟨g, 12, none⟩) hgl8 hgab).trans hc12
          have hf12' : w9.frozen? ⟨g, 12, none⟩ = false := (hfr9.frozen (p := ⟨g, 12, none⟩) hgl8 hgab).trans hf12))
      all_goals
        go_wp2_with fail
        go_meet
        clear hi63 hz0 hz1 hz2 r0 r1 r2 r3 r4 r5 r6 r7 r8 r9 r10
        have hz8 : (w8.alloc (.cells (bvl ⟨hd, ao, pl.length, co, sm, s.at_⟩).toArray 86)).drew.heap.size = w8.heap.size + 1 := Array.size_push _
        have hat9' : blk ab = some gg ∨ w8.heap.size + 1 ≤ gg := hat9.imp id fun h => hz8 ▸ h
        have hgg : g < gg := by
          rcases hat9' with h | h
          · have := (HAB.out gg h).1; omega
          · omega
        have hst : ∀ q, q ≠ g → (w9.setCell ⟨g, 12, none⟩ (.slice (some ⟨gg, 0, none⟩) (s.n + 1) cap1)).heap[q]? = w9.heap[q]? := fun q hq => RowKit.Below.heap_setCell _ _ _ _ hq
        have hfrx : Fr (fun q => q = g ∨ blk ab = some q) w8 (w9.setCell ⟨g, 12, none⟩ (.slice (some ⟨gg, 0, none⟩) (s.n + 1) cap1)) := (hfr9.mono fun k _ hk => .inr hk).setCell (.inl rfl) _
        have hbg : Below g w8 (w9.setCell ⟨g, 12, none⟩ (.slice (some ⟨gg, 0, none⟩) (s.n + 1) cap1)) := ⟨hfrx.os, hfrx.tape, hfrx.output, hfrx.size, fun k hk => hfrx.block k (Nat.lt_trans hk hgl8) (fun e => by
          rcases e with e | e
          · omega
          · have := (HAB.out k e).1; omega)⟩
        have hws := HWS.out
        have hap8 : ∀ q, blk a8 = some q → q ≠ g ∧ blk ab ≠ some q ∧ gg ≠ q := fun q hq => by
          refine ⟨fun e => HAT8.out.1 (by rw [hq, e]), fun e => ?_, fun e => ?_⟩
          · rcases HAT8.out.2 with h | h
            · exact HRD7.out.d q (by rw [← h, hq]) e
            · have h1 := h q hq; have h2 := (HAB.out q e).2; omega
          · have hlq := (own_in HPL8.out q hq).2
            rcases hat9' with h | h
            · rcases HAT8.out.2 with h' | h'
              · exact HRD7.out.d q (by rw [← h', hq]) (by rw [h, e])
              · have h1 := h' q hq; have h2 := (HAB.out gg h).2; omega
            · omega
        have hold : ∀ (a : Option Addr) (l : List Nat), Byts w8 a l → (∀ q, blk a = some q → g < q ∧ blk ab ≠ some q) → Byts (w9.setCell ⟨g, 12, none⟩ (.slice (some ⟨gg, 0, none⟩) (s.n + 1) cap1)) a l := fun a l hby hq => hby.stay hfrx (fun q off e hX => by
          have := hq q (by rw [e]; rfl)
          rcases hX with h | h
          · omega
          · exact this.2 h)
        have hRl : r = b.drop s.at_ := HR.out
        have hop := HEE.out
        have hPL := HOPP.out
        have hSM := HOPS.out
        have hcast : ((s.at_ : Int) + (36 + hd.sz)) = ((s.at_ + (36 + Head.szn r) : Nat) : Int) := by rw [HSZ.out]; omega
        have hnx9 := HNX8.out.keep hfr9 hgab
        rw [hcast] at hnx9
        have hnx10 := hnx9.far (j := 12) (by omega) (.slice (some ⟨gg, 0, none⟩) (s.n + 1) cap1)
        have eln : s.c + hd.ln = (s.next i r).c := by show _ = s.c + (Head.opH r).ln; rw [HHD.out]
        have esh : decide (hd.ln < i.bk) = (s.next i r).sh := by show _ = decide ((Head.opH r).ln < i.bk); rw [HHD.out]
        rw [eln, esh] at hnx10
        refine ⟨a8, c8, some ⟨gg, 0, none⟩, cap1, X ++ [⟨hd, ao, pl.length, co, sm, s.at_⟩], ⟨hnx10, ?_, ?_, ?_, ?_, ?_, ?_, ?_, ?_, ?_, ?_⟩, HB8.out.trans hbg⟩
        · exact ownsRow_block HPL8.out fun k hk => hfrx.block k (own_in HPL8.out k hk).2 (fun e => by
            rcases e with e | e
            · exact (hap8 k hk).1 e
            · exact (hap8 k hk).2.1 e)
        · rw [World.cell?_setCell_other _ _ _ _ (by intro e; injection e with e1 e2; omega)]
          exact (hfr9.cell (p := ⟨g, 10, none⟩) hgl8 hgab).trans HC10.out
        · rw [World.cell?_setCell_other _ _ _ _ (by intro e; injection e with e1 e2; omega)]
          exact (hfr9.cell (p := ⟨g, 11, none⟩) hgl8 hgab).trans HC11.out
        · exact World.cell?_setCell_same _ _ _ (by rw [hc12'])
        · have e1 : bls (X ++ [⟨hd, ao, pl.length, co, sm, s.at_⟩]) = bls X ++ bvl ⟨hd, ao, pl.length, co, sm, s.at_⟩ := by rw [bls_app]; show _ ++ (bvl _ ++ []) = _; rw [List.append_nil]
          rw [e1]
          exact ownsRow_block hown1 fun k hk => hst k (fun e => by
            have e2 : gg = k := by simpa [blk] using hk
            omega)
        · refine Xs.snoc (at_ := s.at_) ⟨HXS8.out.len, fun j x hj => ?_⟩ ⟨by rw [← hRl, HHD.out], by rw [← hRl, hPL], ?_, by rw [← hRl, hSM], rfl⟩
          · obtain ⟨at_, ha, k⟩ := HXS8.out.ok j x hj
            exact ⟨at_, ha, k.h, k.n, hold _ _ k.p (fun q hq => ⟨(HX8.out j x hj q hq).1, (HX8.out j x hj q hq).2.2.1⟩), k.s, k.e⟩
          · rw [← hRl, hPL]
            exact hold _ _ HPO8.out (fun q hq => ⟨(HQ8.out q hq).1, fun e => by have h1 := (HQ.out.2 q hq).1; have h2 := (HAB.out q e).2; omega⟩)
        · intro j x hj q hq
          have hsz9 := hfrx.size
          have hnew : g < q ∧ q < w7.heap.size ∧ blk ap ≠ some q ∧ blk ab ≠ some q := by
            by_cases hjl : j < X.length
            · rw [List.getElem?_append_left hjl] at hj
              have h1 := HX8.out j x hj q hq
              exact ⟨h1.1, h1.2.2.2, h1.2.1, h1.2.2.1⟩
            · have hjl2 : j = X.length := by
                have := (List.getElem?_eq_some_iff.1 hj).1
                rw [List.length_append] at this
                simp at this
                omega
              subst hjl2
              simp at hj
              subst hj
              have h1 := HQ8.out q hq
              have h2 := (HQ.out.2 q hq).1
              exact ⟨h1.1, h1.2.1, fun e => by have := (HAP.out q e).2; omega, fun e => by have := (HAB.out q e).2; omega⟩
          obtain ⟨n1, n2, n3, n4⟩ := hnew
          refine ⟨n1, fun e => ?_, fun e => ?_, by omega⟩
          · rcases HAT8.out.2 with h | h
            · exact n3 (by rw [← h, e])
            · have := h q e; omega
          · have e' : gg = q := by simpa [blk] using e
            rcases hat9' with h | h
            · exact n4 (by rw [h, e'])
            · omega
        · intro q hq e
          exact (hap8 q hq).2.2 (by simpa [blk] using e)
        · exact (HRD7.out.bel.trans HBG8.out).trans hbg
        · rw [hRl]
          exact HNB.out.next (by rw [← hRl]; exact hop)
    case rest =>
      obtain ⟨ap', cp', ab', cb', X', hrd, hb9⟩ := hcut
      have HF := hid hrd
      have HB9 := hid hb9
      clear hrd hb9
      go_wp2_with fail
      go_ret
      exact ⟨rfl, HB9.out, ⟨ap', cp', ab', cb', X', HF.out⟩⟩
end Go.Proofs.YthjjonbkfkpkmaaDoor.Fil
