/- FileParses' walk: any bytes are taken apart as the document says, or refused. Conditions: those of the contract of the document's Parse that it is given; the two tables of unicode/utf8 lie as their initialisers lay them. -/
import Derived.Test.YthjjonbkfkpkmaaGreatDoorY44
import Derived.Test.YthjjonbkfkpkmaaGreatDoorY45
import Derived.Test.YthjjonbkfkpkmaaGreatDoorYxFv
import Derived.Test.YthjjonbkfkpkmaaGreatDoorY06
import Derived.Test.YthjjonbkfkpkmaaGreatDoorRows
import Derived.ProofKit
import Derived.OpenShut
import Derived.Deep.Slices
import Derived.Deep.Matrix
import Derived.Deep.Strs
import Derived.Test.YthjjonbkfkpkmaaGreatDoorY20
import Derived.Lib.LaidIn
import Derived.Lib.LaidU8T
import Derived.LaidLaws
import Derived.LaidMore
namespace Go.Proofs.YthjjonbkfkpkmaaGreatDoor.Fil
open Go.RowKit Gen
open Tl (il il_app rise TRt Tx)
attribute [local go_sem] Oper.semAt_some

/-- What Parse answers, in one form for what it takes apart and what it refuses. -/
def fI (b : List Nat) : Inf.If := if pfE b = 0 then Inf.getI b else Inf.iz
def fL (b : List Nat) : List Tg.Tag := if pfE b = 0 then Tg.gL (b.drop 19) else []
def fN (b : List Nat) : Nat := if pfE b = 0 then (psR b).1.n else 0
def fC (b : List Nat) : Int := if pfE b = 0 then (psR b).1.c else 0
def fS (b : List Nat) : Nat := if pfE b = 0 then Inf.at_ (b.drop (psR b).1.at_) 6 4 else 0
def fP (b : List Nat) : List Int := if pfE b = 0 then (psR b).1.P else []
structure FvAt (w : World) (b : List Nat) (n1 n2 : Nat) (ct : Int) (a1 : Option Addr) (c1 : Nat) (a2 : Option Addr) (X : List Bv) (a3 : Option Addr) : Prop where
  tg : ∃ B, Tg.Ow w B a1 c1 (fL b)
  tn : (fL b).length = n1
  bo : BsAt w a2 X
  xn : X.length = n2
  xs : Xs w b (fP b) X
  pl : Tl.Nts w a3 (fP b)
  pn : (fP b).length = n2
  le : n2 ≤ 1073741824
  ln : ∀ x ∈ X, 1 ≤ x.h.ln ∧ x.h.ln ≤ 65536
  sm : lsum X n2 = ct
theorem FvAt.keep {w w' : World} {b : List Nat} {n1 n2 : Nat} {ct : Int} {a1 : Option Addr} {c1 : Nat} {a2 : Option Addr} {X : List Bv} {a3 : Option Addr} (h : FvAt w b n1 n2 ct a1 c1 a2 X a3) (hb : Below w.heap.size w w') : FvAt w' b n1 n2 ct a1 c1 a2 X a3 :=
  ⟨h.tg.imp fun _ h => h.keep hb, h.tn, h.bo.keep hb, h.xn, h.xs.keep hb, h.pl.keep hb, h.pn, h.le, h.ln, h.sm⟩
theorem FvAt.smb {w : World} {b : List Nat} {n1 n2 : Nat} {ct : Int} {a1 d1 : Option Addr} {c1 e1 : Nat} {a2 d2 : Option Addr} {X Y : List Bv} {a3 d3 : Option Addr} (h : FvAt w b n1 n2 ct a1 c1 a2 X a3) (h' : FvAt w b n1 n2 ct d1 e1 d2 Y d3) : Smb w X Y :=
  ⟨fun j x y hx hy => by
    obtain ⟨p, hp, k⟩ := h.xs.ok j x hx
    obtain ⟨p', hp', k'⟩ := h'.xs.ok j y hy
    have e : p = p' := by
      rw [hp] at hp'
      have := Option.some.inj hp'
      omega
    subst e
    exact ⟨by rw [k.h, k'.h], by rw [k.n, k'.n], by rw [k.s, k'.s], by rw [k.e, k'.e], _, k.n.symm, k.p, k'.p⟩⟩
theorem parsep_fv {w : World} {b : List Nat} {ty : Nat} {e : Ending} {w' : World} (h : ParseP w b ty e w') (hm : b.length ≤ 1073741824) :
    Below w.heap.size w w' ∧ ∃ a1 c1 a2 c2 X a3 c3, e = .returned (.tuple #[.agg (fcl (fI b) a1 (fL b).length c1 a2 (fN b) c2 (fC b) (fS b) a3 (fN b) c3), .int .i64 (pfE b)]) ∧ FvAt w' b (fL b).length (fN b) (fC b) a1 c1 a2 X a3 := by
  obtain ⟨hb, h⟩ := h
  refine ⟨hb, ?_⟩
  rcases h with ⟨h0, rfl⟩ | ⟨h0, a1, c1, a2, c2, X, a3, c3, rfl, k⟩
  · have e1 : fI b = Inf.iz := if_neg h0
    have e2 : fL b = [] := if_neg h0
    have e3 : fN b = 0 := if_neg h0
    have e4 : fC b = 0 := if_neg h0
    have e5 : fS b = 0 := if_neg h0
    have e6 : fP b = [] := if_neg h0
    refine ⟨none, 0, none, 0, [], none, 0, by rw [e1, e2, e3, e4, e5]; rfl, ⟨⟨0, ?_⟩, rfl, ⟨fun j x h => by simp at h⟩, by rw [e3]; rfl, by rw [e6]; exact Xs.nil _ _, by rw [e6]; exact Tl.Nts.nil _ _, by rw [e6, e3]; rfl, by rw [e3]; decide, fun x h => (by cases h), by rw [e3, e4]; rfl⟩⟩
    rw [e2]
    exact World.ownsRow_nil _ _ _ _
  · have e1 : fI b = Inf.getI b := if_pos h0
    have e2 : fL b = Tg.gL (b.drop 19) := if_pos h0
    have e3 : fN b = (psR b).1.n := if_pos h0
    have e4 : fC b = (psR b).1.c := if_pos h0
    have e5 : fS b = Inf.at_ (b.drop (psR b).1.at_) 6 4 := if_pos h0
    have e6 : fP b = (psR b).1.P := if_pos h0
    refine ⟨a1, c1, a2, c2, X, a3, c3, by rw [e1, e2, e3, e4, e5, h0], ⟨⟨w.heap.size, by rw [e2]; exact k.tg⟩, rfl, BsAt.of_row k.bo, by rw [e3, k.xs.len]; exact k.ok.n, by rw [e6]; exact k.xs, by rw [e6]; exact k.pl, by rw [e6, e3]; exact k.ok.n, ?_, lens_ok k.xs, by rw [e3, e4]; exact lsum_all k.xs k.ok.n⟩⟩
    rw [e3]
    have h1 := k.ok.le
    have h2 := k.ok.at_
    omega
theorem cells_fz45 (w : World) : (w.alloc (.cells #[.int .i64 0, .int .i64 0, .int .i64 0, .int .i64 0, .int .i64 0, .int .i64 0, .slice none 0 0, .slice none 0 0, .int .i64 0, .int .u32 0, .slice none 0 0] 45)).heap[w.heap.size]? = some (.cells #[.int .i64 0, .int .i64 0, .int .i64 0, .int .i64 0, .int .i64 0, .int .i64 0, .slice none 0 0, .slice none 0 0, .int .i64 0, .int .u32 0, .slice none 0 0] 45 (0, 0)) := heap_alloc_new _ _
theorem gL_few {b : List Nat} (h : ∀ x ∈ b, x < 256) : (fL b).length ≤ 1099511627776 := by
  unfold fL
  split
  · unfold Tg.gL
    split
    · have := Tg.gc_lt (b := b.drop 19) (fun x hx => h x (List.mem_of_mem_drop hx))
      rw [Tg.lst_len]
      omega
    · exact Nat.zero_le _
  · exact Nat.zero_le _
set_option maxHeartbeats 4000000 in
set_option maxRecDepth 100000 in
theorem parses_walk0 (hr : ∀ {w : World} {ba : Option Addr} {b : List Nat} {bn bc : Nat}, Byts w ba b → b.length = bn → bn ≤ bc → bn ≤ 1073741824 → bc ≤ 9223372036854775807 → Calls Tryz.prog 13 #[.slice ba bn bc] w (ParseP w b 102))
    (w : World) (hT : Tg.Tabs w) {ba : Option Addr} {b : List Nat} {bn bc : Nat} (hb : Byts w ba b) (hbn : b.length = bn) (hbc : bn ≤ bc) (hnn : ba = none → bc = 0) (hcm : bc ≤ 9223372036854775807) :
    Calls Tryz.prog 4 #[.slice ba bn bc] w fun e w' => e = .returned (.bool true) ∧ Below w.heap.size w w' := by
  have HK := hid fun (w' : World) (hbw : Below w.heap.size w w') => known_true w' (hT.keep hbw)
  have HM := hid fun w => Crc.make_any w
  by_cases hsm : bn ≤ 3000
  rotate_left 1
  · have hgt : (3000 : Int) < (bn : Int) := by omega
    clear hr hb hbn hbc hnn hcm
    go_enter Tryz.func4, Tryz.ntmps4
    go_wp2_with fail
    refine (HK.out _ (Below.refl _ _)).mono ?_
    rintro e w1 ⟨rfl, hb1⟩
    have HB1 := hid hb1
    clear hb1
    go_wp2_with fail
    go_ret
    exact ⟨rfl, HB1.out⟩
  have hgt : ¬ (3000 : Int) < (bn : Int) := by omega
  have HPA := hid fun (w' : World) (t : Nat) (ht : Crc.Tab w' t) (hbw : Below w.heap.size w w') => parse_any ht (hT.keep hbw) (hb.keep hbw) hbn hbc hnn (by omega)
  have HPR := hid fun (w' : World) (hbw : Below w.heap.size w w') => hr (hb.keep hbw) hbn hbc (by omega) hcm
  have HBM := hid (show b.length ≤ 1073741824 from by omega)
  have HFW := hid (gL_few (b := b) hb.lt)
  clear hr hT hb hbn hbc hnn hcm
  go_enter Tryz.func4, Tryz.ntmps4
  go_wp2_with fail
  refine (HM.out _).mono ?_
  rintro e w1 ⟨rfl, htab, hb1⟩
  have HB1 := hid hb1
  have HTB1 := hid htab
  clear hb1 htab
  go_wp2_with fail
  refine (HPA.out _ _ HTB1.out HB1.out).mono ?_
  rintro e w2 hp
  obtain ⟨hb2, a1, c1, a2, c2, X, a3, c3, rfl, hv⟩ := parsep_fv hp HBM.out
  have HB2 := hid (HB1.out.trans (hb2.mono HB1.out.size))
  have HV := hid hv
  clear hp hb2 hv HPA HTB1 HM HB1
  obtain ⟨i, hi⟩ : ∃ i, fI b = i := ⟨_, rfl⟩
  obtain ⟨n1, hn1⟩ : ∃ n1, (fL b).length = n1 := ⟨_, rfl⟩
  obtain ⟨n2, hn2⟩ : ∃ n2, fN b = n2 := ⟨_, rfl⟩
  obtain ⟨ct, hct⟩ : ∃ ct, fC b = ct := ⟨_, rfl⟩
  obtain ⟨sm, hsm'⟩ : ∃ sm, fS b = sm := ⟨_, rfl⟩
  obtain ⟨E, hE⟩ : ∃ E, pfE b = E := ⟨_, rfl⟩
  rw [hn1, hn2, hct] at HV
  rw [hn1] at HFW
  rw [hi, hn1, hn2, hct, hsm', hE]
  have HQ := hid (And.intro hi (And.intro hn1 (And.intro hn2 (And.intro hct (And.intro hsm' hE)))))
  clear hi hn1 hn2 hct hsm' hE
  have HAN := hid (cells_fz45 w2)
  have hb3 : Below w2.heap.size w2 ((w2.alloc (.cells #[.int .i64 0, .int .i64 0, .int .i64 0, .int .i64 0, .int .i64 0, .int .i64 0, .slice none 0 0, .slice none 0 0, .int .i64 0, .int .u32 0, .slice none 0 0] 45)).setRow w2.heap.size (fcl i a1 n1 c1 a2 n2 c2 ct sm a3 n2 c3)) := Inf.fr_rowBelow (Inf.below_new w2 _) (Nat.le_refl _)
  have HR3 := hid (setRow_heap (w2.alloc (.cells #[.int .i64 0, .int .i64 0, .int .i64 0, .int .i64 0, .int .i64 0, .int .i64 0, .slice none 0 0, .slice none 0 0, .int .i64 0, .int .u32 0, .slice none 0 0] 45)) w2.heap.size #[.int .i64 0, .int .i64 0, .int .i64 0, .int .i64 0, .int .i64 0, .int .i64 0, .slice none 0 0, .slice none 0 0, .int .i64 0, .int .u32 0, .slice none 0 0] (fcl i a1 n1 c1 a2 n2 c2 ct sm a3 n2 c3) 45 (0, 0) HAN.out)
  have HB3 := hid (HB2.out.trans (hb3.mono HB2.out.size))
  have HV3 := hid (HV.out.keep hb3)
  clear hb3 HB2 HV
  go_wp2_with (refine wpList_store_row rfl 45 _ _ rfl w2.heap.size (fcl i a1 n1 c1 a2 n2 c2 ct sm a3 n2 c3) rfl rfl 45 #[.int .i64 0, .int .i64 0, .int .i64 0, .int .i64 0, .int .i64 0, .int .i64 0, .slice none 0 0, .slice none 0 0, .int .i64 0, .int .u32 0, .slice none 0 0] HAN.out size45 rfl (by simp [Value.oneCell']) ?_)
  generalize (w2.alloc (.cells #[.int .i64 0, .int .i64 0, .int .i64 0, .int .i64 0, .int .i64 0, .int .i64 0, .slice none 0 0, .slice none 0 0, .int .i64 0, .int .u32 0, .slice none 0 0] 45)).setRow w2.heap.size (fcl i a1 n1 c1 a2 n2 c2 ct sm a3 n2 c3) = w3 at *
  generalize w2.heap.size = g3 at *
  refine (HPR.out _ HB3.out).mono ?_
  rintro e w4 hp
  obtain ⟨hb4, d1, e1, d2, e2, Y, d3, e3, rfl, hv⟩ := parsep_fv hp HBM.out
  rw [HQ.out.2.1, HQ.out.2.2.1, HQ.out.2.2.2.1] at hv
  rw [HQ.out.1, HQ.out.2.1, HQ.out.2.2.1, HQ.out.2.2.2.1, HQ.out.2.2.2.2.1, HQ.out.2.2.2.2.2]
  have HR4 := hid ((hb4.block _ (World.block_lt_of_cell? _ _ (Inf.row_cell HR3.out 0 rfl))).trans HR3.out)
  have HB4 := hid (HB3.out.trans (hb4.mono HB3.out.size))
  have HV4 := hid (HV3.out.keep hb4)
  have HU4 := hid hv
  clear hp hb4 hv HPR HR3 HB3 HV3 HAN
  have HAN := hid (heap_alloc_new w4 (.cells #[.int .i64 0, .int .i64 0, .int .i64 0, .int .i64 0, .int .i64 0, .int .i64 0, .slice none 0 0, .slice none 0 0, .int .i64 0, .int .u32 0, .slice none 0 0] 50))
  have hb5 : Below w4.heap.size w4 ((w4.alloc (.cells #[.int .i64 0, .int .i64 0, .int .i64 0, .int .i64 0, .int .i64 0, .int .i64 0, .slice none 0 0, .slice none 0 0, .int .i64 0, .int .u32 0, .slice none 0 0] 50)).setRow w4.heap.size (fcl i d1 n1 e1 d2 n2 e2 ct sm d3 n2 e3)) := Inf.fr_rowBelow (Inf.below_new w4 _) (Nat.le_refl _)
  have HS5 := hid (setRow_heap (w4.alloc (.cells #[.int .i64 0, .int .i64 0, .int .i64 0, .int .i64 0, .int .i64 0, .int .i64 0, .slice none 0 0, .slice none 0 0, .int .i64 0, .int .u32 0, .slice none 0 0] 50)) w4.heap.size #[.int .i64 0, .int .i64 0, .int .i64 0, .int .i64 0, .int .i64 0, .int .i64 0, .slice none 0 0, .slice none 0 0, .int .i64 0, .int .u32 0, .slice none 0 0] (fcl i d1 n1 e1 d2 n2 e2 ct sm d3 n2 e3) 50 (0, 0) HAN.out)
  have HR5 := hid ((hb5.block _ (World.block_lt_of_cell? _ _ (Inf.row_cell HR4.out 0 rfl))).trans HR4.out)
  have HB5 := hid (HB4.out.trans (hb5.mono HB4.out.size))
  have HV5 := hid (HV4.out.keep hb5)
  have HU5 := hid (HU4.out.keep hb5)
  clear hb5 HR4 HB4 HV4 HU4
  go_wp2_with (refine wpList_store_row rfl 50 _ _ rfl w4.heap.size (fcl i d1 n1 e1 d2 n2 e2 ct sm d3 n2 e3) rfl rfl 50 #[.int .i64 0, .int .i64 0, .int .i64 0, .int .i64 0, .int .i64 0, .int .i64 0, .slice none 0 0, .slice none 0 0, .int .i64 0, .int .u32 0, .slice none 0 0] HAN.out size50 rfl (by simp [Value.oneCell']) ?_)
  generalize (w4.alloc (.cells #[.int .i64 0, .int .i64 0, .int .i64 0, .int .i64 0, .int .i64 0, .int .i64 0, .slice none 0 0, .slice none 0 0, .int .i64 0, .int .u32 0, .slice none 0 0] 50)).setRow w4.heap.size (fcl i d1 n1 e1 d2 n2 e2 ct sm d3 n2 e3) = w5 at *
  generalize w4.heap.size = g5 at *
  have HTT : Hid (∀ l, Pcm.Till (fun w' => Below w5.heap.size w5 w') (fun _ => True) 99 l w5.drew) := hid fun l => ⟨(Below.refl _ _).drew, fun _ => trivial⟩
  refine Pcm.region_T (T := Pcm.Till (fun w' => Below w5.heap.size w5 w') (fun _ => True) 99) (by kernel_rfl) ?_
  refine Pcm.take_1 (i := 0) (oi := ({ dst := some 22, op := Op.move (Operand.tmp 4), type := 33, pos := _, after := #[], guard := none } : Oper)) (v := .int .i64 E) rfl (by kernel_rfl) (by kernel_rfl) (by kernel_rfl) (by decide) (fun _ _ _ h => h) (HTT.out _) (.inl ⟨by rfl, fun w' hSw => ?_⟩) ?_
  · (try dsimp only at hSw)
    go_simp
  (try simp only [Act.put, List.setIfInBounds_toArray, List.set_cons_zero, List.set_cons_succ])
  refine Pcm.take_1 (i := 1) (oi := ({ dst := some 23, op := Op.move (Operand.tmp 6), type := 33, pos := _, after := #[], guard := none } : Oper)) (v := .int .i64 E) rfl (by kernel_rfl) (by kernel_rfl) (by kernel_rfl) (by decide) (fun _ _ _ h => h) (HTT.out _) (.inl ⟨by rfl, fun w' hSw => ?_⟩) ?_
  · (try dsimp only at hSw)
    go_simp
  (try simp only [Act.put, List.setIfInBounds_toArray, List.set_cons_zero, List.set_cons_succ])
  refine Pcm.take_1 (i := 2) (oi := ({ dst := some 24, op := Op.binOp BinOp.eql 33 (Operand.tmp 22) (Operand.tmp 23) 33, type := 4, pos := _, after := #[{ on := 0, ground := Ground.data }, { on := 1, ground := Ground.data }], guard := none } : Oper)) (v := .bool true) rfl (by kernel_rfl) (by kernel_rfl) (by kernel_rfl) (by decide) (fun _ _ _ h => h) (HTT.out _) (.inl ⟨by rfl, fun w' hSw => ?_⟩) ?_
  · (try dsimp only at hSw)
    go_simp
  (try simp only [Act.put, List.setIfInBounds_toArray, List.set_cons_zero, List.set_cons_succ])
  refine Pcm.take_1 (i := 3) (oi := ({ dst := some 25, op := Op.move (Operand.tmp 24), type := 4, pos := _, after := #[{ on := 2, ground := Ground.data }], guard := none } : Oper)) (v := .bool true) rfl (by kernel_rfl) (by kernel_rfl) (by kernel_rfl) (by decide) (fun _ _ _ h => h) (HTT.out _) (.inl ⟨by rfl, fun w' hSw => ?_⟩) ?_
  · (try dsimp only at hSw)
    go_simp
  (try simp only [Act.put, List.setIfInBounds_toArray, List.set_cons_zero, List.set_cons_succ])
  refine Pcm.take_1 (i := 4) (oi := ({ dst := some 26, op := Op.load 45 (Operand.tmp 3), type := 45, pos := _, after := #[{ on := 3, ground := Ground.guard }], guard := some (3, true) } : Oper)) (v := .agg (fcl i a1 n1 c1 a2 n2 c2 ct sm a3 n2 c3)) rfl (by kernel_rfl) (by kernel_rfl) (by kernel_rfl) (by decide) (fun _ _ _ h => h) (HTT.out _) (.inl ⟨by rfl, fun w' hSw => ?_⟩) ?_
  · (try dsimp only at hSw)
    have hrow := (hSw.block g3 (World.block_lt_of_cell? _ _ (Inf.row_cell HR5.out 0 rfl))).trans HR5.out
    have x0 : w'.cell? ⟨g3, 0, none⟩ = some (.int .i64 i.k) := Inf.row_cell hrow 0 rfl
    have x1 : w'.cell? ⟨g3, 1, none⟩ = some (.int .i64 i.f.ch) := Inf.row_cell hrow 1 rfl
    have x2 : w'.cell? ⟨g3, 2, none⟩ = some (.int .i64 i.f.bits) := Inf.row_cell hrow 2 rfl
    have x3 : w'.cell? ⟨g3, 3, none⟩ = some (.int .i64 i.f.rate) := Inf.row_cell hrow 3 rfl
    have x4 : w'.cell? ⟨g3, 4, none⟩ = some (.int .i64 i.bk) := Inf.row_cell hrow 4 rfl
    have x5 : w'.cell? ⟨g3, 5, none⟩ = some (.int .i64 i.sh) := Inf.row_cell hrow 5 rfl
    have x6 : w'.cell? ⟨g3, 6, none⟩ = some (.slice a1 n1 c1) := Inf.row_cell hrow 6 rfl
    have x7 : w'.cell? ⟨g3, 7, none⟩ = some (.slice a2 n2 c2) := Inf.row_cell hrow 7 rfl
    have x8 : w'.cell? ⟨g3, 8, none⟩ = some (.int .i64 ct) := Inf.row_cell hrow 8 rfl
    have x9 : w'.cell? ⟨g3, 9, none⟩ = some (.int .u32 (sm : Int)) := Inf.row_cell hrow 9 rfl
    have x10 : w'.cell? ⟨g3, 10, none⟩ = some (.slice a3 n2 c3) := Inf.row_cell hrow 10 rfl
    clear hSw hrow
    go_simp
  (try simp only [Act.put, List.setIfInBounds_toArray, List.set_cons_zero, List.set_cons_succ])
  refine Pcm.take_1 (i := 6) (oi := ({ dst := some 28, op := Op.load 50 (Operand.tmp 5), type := 50, pos := _, after := #[{ on := 3, ground := Ground.guard }], guard := some (3, true) } : Oper)) (v := .agg (fcl i d1 n1 e1 d2 n2 e2 ct sm d3 n2 e3)) rfl (by kernel_rfl) (by kernel_rfl) (by kernel_rfl) (by decide) (fun _ _ _ h => h) (HTT.out _) (.inl ⟨by rfl, fun w' hSw => ?_⟩) ?_
  · (try dsimp only at hSw)
    have hrow := (hSw.block g5 (World.block_lt_of_cell? _ _ (Inf.row_cell HS5.out 0 rfl))).trans HS5.out
    have y0 : w'.cell? ⟨g5, 0, none⟩ = some (.int .i64 i.k) := Inf.row_cell hrow 0 rfl
    have y1 : w'.cell? ⟨g5, 1, none⟩ = some (.int .i64 i.f.ch) := Inf.row_cell hrow 1 rfl
    have y2 : w'.cell? ⟨g5, 2, none⟩ = some (.int .i64 i.f.bits) := Inf.row_cell hrow 2 rfl
    have y3 : w'.cell? ⟨g5, 3, none⟩ = some (.int .i64 i.f.rate) := Inf.row_cell hrow 3 rfl
    have y4 : w'.cell? ⟨g5, 4, none⟩ = some (.int .i64 i.bk) := Inf.row_cell hrow 4 rfl
    have y5 : w'.cell? ⟨g5, 5, none⟩ = some (.int .i64 i.sh) := Inf.row_cell hrow 5 rfl
    have y6 : w'.cell? ⟨g5, 6, none⟩ = some (.slice d1 n1 e1) := Inf.row_cell hrow 6 rfl
    have y7 : w'.cell? ⟨g5, 7, none⟩ = some (.slice d2 n2 e2) := Inf.row_cell hrow 7 rfl
    have y8 : w'.cell? ⟨g5, 8, none⟩ = some (.int .i64 ct) := Inf.row_cell hrow 8 rfl
    have y9 : w'.cell? ⟨g5, 9, none⟩ = some (.int .u32 (sm : Int)) := Inf.row_cell hrow 9 rfl
    have y10 : w'.cell? ⟨g5, 10, none⟩ = some (.slice d3 n2 e3) := Inf.row_cell hrow 10 rfl
    clear hSw hrow
    go_simp
  (try simp only [Act.put, List.setIfInBounds_toArray, List.set_cons_zero, List.set_cons_succ])
  refine Pcm.anyT_one (i := 5) (o := ({ dst := some 27, op := Op.call { callee := Callee.value (Operand.func 15), args := #[Operand.tmp 26], argTypes := #[45] }, type := 50, pos := _, after := #[{ on := 4, ground := Ground.data }, { on := 3, ground := Ground.chain }, { on := 3, ground := Ground.guard }], guard := some (3, true) } : Oper)) (by kernel_rfl) rfl (fun K HK2 => ?_)
  go_simp
  refine (back_any HV5.out.xn ((HV5.out.keep (Below.refl _ _).drew).bo) HV5.out.le).mono ?_
  rintro e w6 ⟨ab, cb, rfl, hba, hb6⟩
  have HB6 := hid (show Below w5.heap.size w5 w6 from (Below.refl _ _).drew.trans hb6)
  have HBA := hid hba
  refine HK2.out _ _ ⟨HB6.out, fun _ => trivial⟩ ?_
  clear HK2 K hb6 hba HTT
  have HTT : Hid (∀ l, Pcm.Till (fun w' => Below w5.heap.size w5 w') (fun _ => True) 99 l w6) := hid fun l => ⟨HB6.out, fun _ => trivial⟩
  (try simp only [Act.put, List.setIfInBounds_toArray, List.set_cons_zero, List.set_cons_succ])
  refine Pcm.anyT_one (i := 7) (o := ({ dst := some 29, op := Op.call { callee := Callee.value (Operand.func 14), args := #[Operand.tmp 27, Operand.tmp 28], argTypes := #[50, 50] }, type := 4, pos := _, after := #[{ on := 5, ground := Ground.data }, { on := 6, ground := Ground.data }, { on := 5, ground := Ground.chain }, { on := 3, ground := Ground.guard }], guard := some (3, true) } : Oper)) (by kernel_rfl) rfl (fun K HK2 => ?_)
  go_simp
  obtain ⟨B1, ht1⟩ := (HV5.out.keep HB6.out).tg
  obtain ⟨B2, ht2⟩ := (HU5.out.keep HB6.out).tg
  have hsb : Smb w6 X Y := (HV5.out.keep HB6.out).smb (HU5.out.keep HB6.out)
  refine (same_true HV5.out.tn ht1 ht2 HV5.out.xn HU5.out.xn HBA.out (HU5.out.keep HB6.out).bo hsb HV5.out.pn (HV5.out.keep HB6.out).pl (HU5.out.keep HB6.out).pl HV5.out.le HFW.out HV5.out.le).mono ?_
  rintro e w7 ⟨rfl, hb7⟩
  have HB7 := hid (HB6.out.trans (hb7.mono HB6.out.size))
  refine HK2.out _ _ ⟨HB7.out, fun _ => trivial⟩ ?_
  clear HK2 K hb7 HTT ht1 ht2 hsb HBA
  have HTT : Hid (∀ l, Pcm.Till (fun w' => Below w5.heap.size w5 w') (fun _ => True) 99 l w7) := hid fun l => ⟨HB7.out, fun _ => trivial⟩
  (try simp only [Act.put, List.setIfInBounds_toArray, List.set_cons_zero, List.set_cons_succ])
  refine Pcm.take_1 (i := 8) (oi := ({ dst := some 30, op := Op.pick (Operand.tmp 25) (Operand.tmp 29) (Operand.const (Value.bool false)), type := 4, pos := _, after := #[{ on := 3, ground := Ground.data }, { on := 7, ground := Ground.data }], guard := none } : Oper)) (v := .bool true) rfl (by kernel_rfl) (by kernel_rfl) (by kernel_rfl) (by decide) (fun _ _ _ h => h) (HTT.out _) (.inl ⟨by rfl, fun w' hSw => ?_⟩) ?_
  · (try dsimp only at hSw)
    go_simp
  (try simp only [Act.put, List.setIfInBounds_toArray, List.set_cons_zero, List.set_cons_succ])
  refine Pcm.take_1 (i := 9) (oi := ({ dst := some 31, op := Op.move (Operand.tmp 30), type := 4, pos := _, after := #[{ on := 8, ground := Ground.data }, { on := 7, ground := Ground.chain }], guard := none } : Oper)) (v := .bool true) rfl (by kernel_rfl) (by kernel_rfl) (by kernel_rfl) (by decide) (fun _ _ _ h => h) (HTT.out _) (.inl ⟨by rfl, fun w' hSw => ?_⟩) ?_
  · (try dsimp only at hSw)
    go_simp
  (try simp only [Act.put, List.setIfInBounds_toArray, List.set_cons_zero, List.set_cons_succ])
  refine Pcm.take_1 (i := 10) (oi := ({ dst := some 32, op := Op.load 45 (Operand.tmp 3), type := 45, pos := _, after := #[{ on := 9, ground := Ground.guard }], guard := some (9, true) } : Oper)) (v := .agg (fcl i a1 n1 c1 a2 n2 c2 ct sm a3 n2 c3)) rfl (by kernel_rfl) (by kernel_rfl) (by kernel_rfl) (by decide) (fun _ _ _ h => h) (HTT.out _) (.inl ⟨by rfl, fun w' hSw => ?_⟩) ?_
  · (try dsimp only at hSw)
    have hrow := (hSw.block g3 (World.block_lt_of_cell? _ _ (Inf.row_cell HR5.out 0 rfl))).trans HR5.out
    have x0 : w'.cell? ⟨g3, 0, none⟩ = some (.int .i64 i.k) := Inf.row_cell hrow 0 rfl
    have x1 : w'.cell? ⟨g3, 1, none⟩ = some (.int .i64 i.f.ch) := Inf.row_cell hrow 1 rfl
    have x2 : w'.cell? ⟨g3, 2, none⟩ = some (.int .i64 i.f.bits) := Inf.row_cell hrow 2 rfl
    have x3 : w'.cell? ⟨g3, 3, none⟩ = some (.int .i64 i.f.rate) := Inf.row_cell hrow 3 rfl
    have x4 : w'.cell? ⟨g3, 4, none⟩ = some (.int .i64 i.bk) := Inf.row_cell hrow 4 rfl
    have x5 : w'.cell? ⟨g3, 5, none⟩ = some (.int .i64 i.sh) := Inf.row_cell hrow 5 rfl
    have x6 : w'.cell? ⟨g3, 6, none⟩ = some (.slice a1 n1 c1) := Inf.row_cell hrow 6 rfl
    have x7 : w'.cell? ⟨g3, 7, none⟩ = some (.slice a2 n2 c2) := Inf.row_cell hrow 7 rfl
    have x8 : w'.cell? ⟨g3, 8, none⟩ = some (.int .i64 ct) := Inf.row_cell hrow 8 rfl
    have x9 : w'.cell? ⟨g3, 9, none⟩ = some (.int .u32 (sm : Int)) := Inf.row_cell hrow 9 rfl
    have x10 : w'.cell? ⟨g3, 10, none⟩ = some (.slice a3 n2 c3) := Inf.row_cell hrow 10 rfl
    clear hSw hrow
    go_simp
  (try simp only [Act.put, List.setIfInBounds_toArray, List.set_cons_zero, List.set_cons_succ])
  refine Pcm.take_1 (i := 12) (oi := ({ dst := some 34, op := Op.fieldAddr 45 (Operand.tmp 3) 3, type := 0, pos := _, after := #[{ on := 9, ground := Ground.guard }], guard := some (9, true) } : Oper)) (v := .pointer (some ⟨g3, 8, none⟩)) rfl (by kernel_rfl) (by kernel_rfl) (by kernel_rfl) (by decide) (fun _ _ _ h => h) (HTT.out _) (.inl ⟨by rfl, fun w' hSw => ?_⟩) ?_
  · (try dsimp only at hSw)
    go_simp
  (try simp only [Act.put, List.setIfInBounds_toArray, List.set_cons_zero, List.set_cons_succ])
  refine Pcm.take_1 (i := 13) (oi := ({ dst := some 35, op := Op.fieldAddr 43 (Operand.tmp 34) 0, type := 0, pos := _, after := #[{ on := 12, ground := Ground.data }, { on := 9, ground := Ground.guard }], guard := some (9, true) } : Oper)) (v := .pointer (some ⟨g3, 8, none⟩)) rfl (by kernel_rfl) (by kernel_rfl) (by kernel_rfl) (by decide) (fun _ _ _ h => h) (HTT.out _) (.inl ⟨by rfl, fun w' hSw => ?_⟩) ?_
  · (try dsimp only at hSw)
    go_simp
  (try simp only [Act.put, List.setIfInBounds_toArray, List.set_cons_zero, List.set_cons_succ])
  refine Pcm.take_1 (i := 14) (oi := ({ dst := some 36, op := Op.load 3 (Operand.tmp 35), type := 3, pos := _, after := #[{ on := 13, ground := Ground.data }, { on := 9, ground := Ground.guard }], guard := some (9, true) } : Oper)) (v := .int .i64 ct) rfl (by kernel_rfl) (by kernel_rfl) (by kernel_rfl) (by decide) (fun _ _ _ h => h) (HTT.out _) (.inl ⟨by rfl, fun w' hSw => ?_⟩) ?_
  · (try dsimp only at hSw)
    have hrow := (hSw.block g3 (World.block_lt_of_cell? _ _ (Inf.row_cell HR5.out 0 rfl))).trans HR5.out
    have x0 : w'.cell? ⟨g3, 0, none⟩ = some (.int .i64 i.k) := Inf.row_cell hrow 0 rfl
    have x1 : w'.cell? ⟨g3, 1, none⟩ = some (.int .i64 i.f.ch) := Inf.row_cell hrow 1 rfl
    have x2 : w'.cell? ⟨g3, 2, none⟩ = some (.int .i64 i.f.bits) := Inf.row_cell hrow 2 rfl
    have x3 : w'.cell? ⟨g3, 3, none⟩ = some (.int .i64 i.f.rate) := Inf.row_cell hrow 3 rfl
    have x4 : w'.cell? ⟨g3, 4, none⟩ = some (.int .i64 i.bk) := Inf.row_cell hrow 4 rfl
    have x5 : w'.cell? ⟨g3, 5, none⟩ = some (.int .i64 i.sh) := Inf.row_cell hrow 5 rfl
    have x6 : w'.cell? ⟨g3, 6, none⟩ = some (.slice a1 n1 c1) := Inf.row_cell hrow 6 rfl
    have x7 : w'.cell? ⟨g3, 7, none⟩ = some (.slice a2 n2 c2) := Inf.row_cell hrow 7 rfl
    have x8 : w'.cell? ⟨g3, 8, none⟩ = some (.int .i64 ct) := Inf.row_cell hrow 8 rfl
    have x9 : w'.cell? ⟨g3, 9, none⟩ = some (.int .u32 (sm : Int)) := Inf.row_cell hrow 9 rfl
    have x10 : w'.cell? ⟨g3, 10, none⟩ = some (.slice a3 n2 c3) := Inf.row_cell hrow 10 rfl
    clear hSw hrow
    go_simp
  (try simp only [Act.put, List.setIfInBounds_toArray, List.set_cons_zero, List.set_cons_succ])
  refine Pcm.anyT_one (i := 11) (o := ({ dst := some 33, op := Op.call { callee := Callee.value (Operand.func 16), args := #[Operand.tmp 32], argTypes := #[45] }, type := 3, pos := _, after := #[{ on := 10, ground := Ground.data }, { on := 9, ground := Ground.chain }, { on := 9, ground := Ground.guard }], guard := some (9, true) } : Oper)) (by kernel_rfl) rfl (fun K HK2 => ?_)
  go_simp
  refine (count_any HV5.out.xn (HV5.out.keep HB7.out).bo HV5.out.ln HV5.out.le).mono ?_
  rw [HV5.out.sm]
  rintro e w8 ⟨rfl, hb8⟩
  have HB8 := hid (HB7.out.trans (hb8.mono HB7.out.size))
  refine HK2.out _ _ ⟨HB8.out, fun _ => trivial⟩ ?_
  clear HK2 K hb8 HTT
  have HTT : Hid (∀ l, Pcm.Till (fun w' => Below w5.heap.size w5 w') (fun _ => True) 99 l w8) := hid fun l => ⟨HB8.out, fun _ => trivial⟩
  (try simp only [Act.put, List.setIfInBounds_toArray, List.set_cons_zero, List.set_cons_succ])
  refine Pcm.take_1 (i := 15) (oi := ({ dst := some 37, op := Op.binOp BinOp.eql 3 (Operand.tmp 33) (Operand.tmp 36) 3, type := 4, pos := _, after := #[{ on := 11, ground := Ground.data }, { on := 14, ground := Ground.data }, { on := 9, ground := Ground.guard }], guard := some (9, true) } : Oper)) (v := .bool true) rfl (by kernel_rfl) (by kernel_rfl) (by kernel_rfl) (by decide) (fun _ _ _ h => h) (HTT.out _) (.inl ⟨by rfl, fun w' hSw => ?_⟩) ?_
  · (try dsimp only at hSw)
    go_simp
  (try simp only [Act.put, List.setIfInBounds_toArray, List.set_cons_zero, List.set_cons_succ])
  refine Pcm.take_1 (i := 16) (oi := ({ dst := some 38, op := Op.pick (Operand.tmp 31) (Operand.tmp 37) (Operand.const (Value.bool false)), type := 4, pos := _, after := #[{ on := 9, ground := Ground.data }, { on := 15, ground := Ground.data }], guard := none } : Oper)) (v := .bool true) rfl (by kernel_rfl) (by kernel_rfl) (by kernel_rfl) (by decide) (fun _ _ _ h => h) (HTT.out _) (.inl ⟨by rfl, fun w' hSw => ?_⟩) ?_
  · (try dsimp only at hSw)
    go_simp
  (try simp only [Act.put, List.setIfInBounds_toArray, List.set_cons_zero, List.set_cons_succ])
  refine Pcm.take_1 (i := 17) (oi := ({ dst := some 39, op := Op.move (Operand.tmp 38), type := 4, pos := _, after := #[{ on := 16, ground := Ground.data }, { on := 11, ground := Ground.chain }], guard := none } : Oper)) (v := .bool true) rfl (by kernel_rfl) (by kernel_rfl) (by kernel_rfl) (by decide) (fun _ _ _ h => h) (HTT.out _) (.inl ⟨by rfl, fun w' hSw => ?_⟩) ?_
  · (try dsimp only at hSw)
    go_simp
  (try simp only [Act.put, List.setIfInBounds_toArray, List.set_cons_zero, List.set_cons_succ])
  refine Pcm.anyT_one (i := 18) (o := ({ dst := some 40, op := Op.call { callee := Callee.value (Operand.func 8), args := #[], argTypes := #[] }, type := 4, pos := _, after := #[{ on := 17, ground := Ground.chain }, { on := 17, ground := Ground.guard }], guard := some (17, true) } : Oper)) (by kernel_rfl) rfl (fun K HK2 => ?_)
  go_simp
  refine (HK.out _ (HB5.out.trans (HB8.out.mono HB5.out.size))).mono ?_
  rintro e w9 ⟨rfl, hb9⟩
  have HB9 := hid (HB8.out.trans (hb9.mono HB8.out.size))
  refine HK2.out _ _ ⟨HB9.out, fun _ => trivial⟩ ?_
  clear HK2 K hb9 HTT
  have HTT : Hid (∀ l, Pcm.Till (fun w' => Below w5.heap.size w5 w') (fun _ => True) 99 l w9) := hid fun l => ⟨HB9.out, fun _ => trivial⟩
  (try simp only [Act.put, List.setIfInBounds_toArray, List.set_cons_zero, List.set_cons_succ])
  refine Pcm.take_1 (i := 19) (oi := ({ dst := some 41, op := Op.pick (Operand.tmp 39) (Operand.tmp 40) (Operand.const (Value.bool false)), type := 4, pos := _, after := #[{ on := 17, ground := Ground.data }, { on := 18, ground := Ground.data }], guard := none } : Oper)) (v := .bool true) rfl (by kernel_rfl) (by kernel_rfl) (by kernel_rfl) (by decide) (fun _ _ _ h => h) (HTT.out _) (.inl ⟨by rfl, fun w' hSw => ?_⟩) ?_
  · (try dsimp only at hSw)
    go_simp
  (try simp only [Act.put, List.setIfInBounds_toArray, List.set_cons_zero, List.set_cons_succ])
  refine Pcm.take_1 (i := 20) (oi := ({ dst := some 2, op := Op.assign (Operand.tmp 41), type := 4, pos := _, after := #[{ on := 19, ground := Ground.data }, { on := 18, ground := Ground.chain }, { on := 0, ground := Ground.phase }, { on := 1, ground := Ground.phase }, { on := 2, ground := Ground.phase }, { on := 3, ground := Ground.phase }, { on := 4, ground := Ground.phase }, { on := 5, ground := Ground.phase }, { on := 6, ground := Ground.phase }, { on := 7, ground := Ground.phase }, { on := 8, ground := Ground.phase }, { on := 9, ground := Ground.phase }, { on := 10, ground := Ground.phase }, { on := 11, ground := Ground.phase }, { on := 12, ground := Ground.phase }, { on := 13, ground := Ground.phase }, { on := 14, ground := Ground.phase }, { on := 15, ground := Ground.phase }, { on := 16, ground := Ground.phase }, { on := 17, ground := Ground.phase }, { on := 18, ground := Ground.phase }, { on := 19, ground := Ground.phase }], guard := none } : Oper)) (v := .bool true) rfl (by kernel_rfl) (by kernel_rfl) (by kernel_rfl) (by decide) (fun _ _ _ h => h) (HTT.out _) (.inl ⟨by rfl, fun w' hSw => ?_⟩) ?_
  · (try dsimp only at hSw)
    go_simp
  (try simp only [Act.put, List.setIfInBounds_toArray, List.set_cons_zero, List.set_cons_succ])
  refine Pcm.anyT_done (by kernel_rfl) ?_ _
  go_wp2_with fail
  go_ret
  exact ⟨rfl, HB5.out.trans (HB9.out.mono HB5.out.size)⟩
end Go.Proofs.YthjjonbkfkpkmaaGreatDoor.Fil
namespace Go.Proofs.YthjjonbkfkpkmaaGreatDoor.Fil
open Go.RowKit Gen

theorem parses_walk (w : World) (hT : Tg.Tabs w) {ba : Option Addr} {b : List Nat} {bn bc : Nat} (hb : Byts w ba b) (hbn : b.length = bn) (hbc : bn ≤ bc) (hnn : ba = none → bc = 0) (hcm : bc ≤ 9223372036854775807) :
    Calls Tryz.prog 4 #[.slice ba bn bc] w fun e w' => e = .returned (.bool true) ∧ Below w.heap.size w w' :=
  parses_walk0 (fun h1 h2 h3 h4 h5 => rparse_any h1 h2 h3 h4 h5) w hT hb hbn hbc hnn hcm
end Go.Proofs.YthjjonbkfkpkmaaGreatDoor.Fil
namespace Go.Proofs.YthjjonbkfkpkmaaGreatDoor.Inf
open Go.ChangeShapes Go.WideShapes Go.ChangeAt Go.RowKit Gen Pcm

set_option maxRecDepth 100000 in
theorem cells25 : Tryz.prog.cellsOf 25 = 6 := by kernel_rfl
set_option maxRecDepth 100000 in
theorem cells23 : Tryz.prog.cellsOf 23 = 3 := by kernel_rfl
set_option maxRecDepth 100000 in
theorem cells3 : Tryz.prog.cellsOf 3 = 1 := by kernel_rfl
set_option maxRecDepth 100000 in
theorem cells5 : Tryz.prog.cellsOf 5 = 1 := by kernel_rfl
set_option maxRecDepth 100000 in
theorem open_bytes {H : Type} {enc : TypeId × Value → H} {W : World} {spare : Nat → Bool} {held : Bool} {fuel : Nat} {a : Option Addr} {len cap : Nat} {x : DataW H × List MemPlace}
    (hf : DataW.trod enc Tryz.prog W 0 spare held fuel 32 [.slice a len cap] = some x) : ∃ L : List Nat, L.length = len ∧ Byts W a L ∧ len ≤ cap ∧ cap ≤ 9223372036854775807 ∧ (a = none → len = 0 ∧ cap = 0) := by
  rcases Deep.open_slice Tryz.underlying32 hf with ⟨hcs, _⟩ | ⟨a', l, c, m, n, D, Pl, hcs, _, hlc, hcm, hm, _, hel⟩
  · simp at hcs
    obtain ⟨rfl, rfl, rfl⟩ := hcs
    exact ⟨[], rfl, Byts.nil _ _, Nat.le_refl _, by decide, fun _ => ⟨rfl, rfl⟩⟩
  · simp at hcs
    obtain ⟨rfl, rfl, rfl⟩ := hcs
    have hmx : maxLen = 9223372036854775807 := rfl
    have hlm : len ≤ m := by rw [hm]; split <;> omega
    by_cases h0 : len = 0
    · subst h0
      exact ⟨[], rfl, Byts.nil _ _, hlc, by omega, fun e => by cases e⟩
    rw [cells5] at hel
    have each : ∀ i, i < len → ∃ y : Nat, W.cell? ((a'.add (i * 1)).add 0) = some (.int .u8 (y : Int)) ∧ y < 256 := by
      intro i hi
      obtain ⟨cs', h1, h2⟩ := hel i (by omega)
      obtain ⟨_, hl3, hcell⟩ := World.cells?_some h1
      obtain ⟨k0, e0, _, w0⟩ := DataW.trod_int Tryz.underlying5 h2
      subst e0
      have hb := bounds_u8 w0
      refine ⟨k0.toNat, ?_, by omega⟩
      rw [hcell 0 (by omega)]
      simp; omega
    obtain ⟨b, off, spot⟩ := a'
    obtain ⟨y, hy⟩ := Deep.choose_lt each
    have hspot : spot = none := by
      have := (hy 0 (by omega)).1
      simpa [Addr.add] using World.cell?_spot this
    subst hspot
    have ea : ∀ i, ((⟨b, off, none⟩ : Addr).add (i * 1)).add 0 = ⟨b, off + i, none⟩ := fun i => by rw [Addr.add_lit, Addr.add_lit]; simp
    refine ⟨(List.range len).map y, by simp, ⟨fun z hz => ?_, fun j z hj => ⟨b, off, rfl, ?_⟩⟩, hlc, by omega, fun e => by cases e⟩
    · obtain ⟨i, hi, rfl⟩ := List.mem_map.1 hz
      exact (hy i (List.mem_range.1 hi)).2
    · rw [List.getElem?_map] at hj
      by_cases hjl : j < len
      · rw [List.getElem?_range hjl] at hj
        cases hj
        have := (hy j hjl).1; rw [ea] at this; exact this
      · rw [List.getElem?_eq_none (by simpa using Nat.le_of_not_lt hjl)] at hj
        cases hj
set_option maxRecDepth 100000 in
theorem form_open {H : Type} {enc : TypeId × Value → H} {W : World} {b0 : Nat} {v : Value} {d : DataW H} {p : List MemPlace} (hv0 : Value.okWide Tryz.prog W .any b0 23 v) (h : DataW.Trod enc Tryz.prog W 0 (fun _ => true) true 23 v d p) :
    ∃ x : Fmt, v = x.v ∧ True := by
  obtain ⟨cs, rfl, hsz⟩ := okWide_struct Tryz.underlying23 hv0
  rw [cells23] at hsz
  obtain ⟨l⟩ := cs
  match l, hsz with
  | [c0, c1, c2], _ =>
  obtain ⟨fuel, hf⟩ := h
  obtain ⟨z0, z1, z2, m', _, _, h0, h1, h2⟩ := Deep.trod_struct3 Tryz.underlying23 hf
  simp [Value.cells, cells3] at h0 h1 h2
  obtain ⟨ch, e0, _, _⟩ := DataW.trod_int Tryz.underlying3 h0
  obtain ⟨bits, e1, _, _⟩ := DataW.trod_int Tryz.underlying3 h1
  obtain ⟨rate, e2, _, _⟩ := DataW.trod_int Tryz.underlying3 h2
  simp at e0 e1 e2
  subst e0 e1 e2
  exact ⟨⟨ch, bits, rate⟩, rfl, trivial⟩
set_option maxRecDepth 100000 in
theorem info_open {H : Type} {enc : TypeId × Value → H} {W : World} {b0 : Nat} {v : Value} {d : DataW H} {p : List MemPlace} (hv0 : Value.okWide Tryz.prog W .any b0 25 v) (h : DataW.Trod enc Tryz.prog W 0 (fun _ => true) true 25 v d p) :
    ∃ x : If, v = iv x ∧ True := by
  obtain ⟨cs, rfl, hsz⟩ := okWide_struct Tryz.underlying25 hv0
  rw [cells25] at hsz
  obtain ⟨l⟩ := cs
  match l, hsz with
  | [c0, c1, c2, c3, c4, c5], _ =>
  obtain ⟨fuel, hf⟩ := h
  obtain ⟨xs, n, _, hx, hl, hlen, hfd⟩ := DataW.trod_struct Tryz.underlying25 hf
  have h0 := hfd 0 _ rfl
  have h1 := hfd 1 _ rfl
  have h2 := hfd 2 _ rfl
  have h3 := hfd 3 _ rfl
  match xs, hlen with
  | [y0, y1, y2, y3], _ =>
  simp [Value.cells, cells3, cells23] at h0 h1 h2 h3
  obtain ⟨z0, z1, z2, m', _, _, g0, g1, g2⟩ := Deep.trod_struct3 Tryz.underlying23 h1
  simp [cells3] at g0 g1 g2
  obtain ⟨k, e0, _, _⟩ := DataW.trod_int Tryz.underlying3 h0
  obtain ⟨ch, e1, _, _⟩ := DataW.trod_int Tryz.underlying3 g0
  obtain ⟨bits, e2, _, _⟩ := DataW.trod_int Tryz.underlying3 g1
  obtain ⟨rate, e3, _, _⟩ := DataW.trod_int Tryz.underlying3 g2
  obtain ⟨bk, e4, _, _⟩ := DataW.trod_int Tryz.underlying3 h2
  obtain ⟨sh, e5, _, _⟩ := DataW.trod_int Tryz.underlying3 h3
  simp at e0 e1 e2 e3 e4 e5
  subst e0 e1 e2 e3 e4 e5
  exact ⟨⟨k, ⟨ch, bits, rate⟩, bk, sh⟩, rfl, trivial⟩
end Go.Proofs.YthjjonbkfkpkmaaGreatDoor.Inf
namespace Go.Proofs.YthjjonbkfkpkmaaGreatDoor.Tg
open Go.Shelf Go.RowKit Go.Lib
set_option maxRecDepth 100000

set_option maxRecDepth 100000 in
theorem first_eq : Rows.laid_unicode_utf8_first = Lib.firstData := by kernel_rfl
set_option maxRecDepth 100000 in
theorem accept_eq : (Rows.laid_unicode_utf8_acceptRanges : DataW Unit) = Lib.acceptData := by kernel_rfl
/-- What the rows list. -/
def listed : List (String × DataW Unit) := Rows.fileBuildsRow.laid
/-- A world in which the two tables lie as their initialisers lay them. -/
noncomputable def laidWorld (os : Os) : World :=
  let w0 := World.holding Tryz.prog os ⟨#[], #[], []⟩
  let put (h : Array Obj) (g : Nat) (cs : Array Value) : Array Obj := h.modify g fun
    | .cells _ t frozen => .cells cs t frozen
    | o => o
  let h1 := put w0.heap 1 (Lib.firstTab.map fun z => Value.int .u8 z).toArray
  let h2 := put h1 2 ((List.range 16).flatMap fun i => [Value.int .u8 (Lib.accLo i), Value.int .u8 (Lib.accHi i)]).toArray
  { w0 with heap := h2 }
set_option maxRecDepth 100000 in
theorem laid_met (os : Os) (args : Array Value) : laidMet Tryz.prog listed ((laidWorld os).forCall (fun _ _ => 0) ⟨#[], args, []⟩).memory :=
  (LaidIn.of_run (l := listed) [2, 1] 8 (by kernel_rfl) (by kernel_rfl) (by kernel_rfl) (by kernel_rfl)).met
set_option maxRecDepth 100000 in
theorem laidH_met (os : Os) (args : Array Value) : laidMetH Tryz.prog listed ((laidWorld os).forCall (fun _ _ => 0) ⟨#[], args, []⟩).memory := laid_met os args
set_option maxRecDepth 100000 in
theorem tabs_of_laid {W : World} (h : laidMetH Tryz.prog listed W) : Tabs W := by
  have hL : laidMet Tryz.prog listed W := h
  have h1 := Lib.laidMet.reads hL (.head _)
  have h2 := Lib.laidMet.reads hL (.tail _ (.head _))
  rw [accept_eq] at h1
  rw [first_eq] at h2
  exact utf8Tabs_of_readsT (U8Types.of196 vlay) ⟨by kernel_rfl, by kernel_rfl, by kernel_rfl, by kernel_rfl, by kernel_rfl, by kernel_rfl, by kernel_rfl⟩ h2 h1
end Go.Proofs.YthjjonbkfkpkmaaGreatDoor.Tg
