/- readBlocks: all blocks are read, up to where the tail begins. Conditions: at most 2^30 bytes. -/
import Derived.Test.YthjjonbkfkpkmaaDoorYxFq
import Derived.WalkMore
import Derived.Test.YthjjonbkfkpkmaaDoorY14
import Derived.Deep.RegionHeld3
import Derived.BigQuiet
import Derived.Deep.QuietTactic
import Derived.Test.YthjjonbkfkpkmaaDoorY10
namespace Go.Proofs.YthjjonbkfkpkmaaDoor.Fil
open Go.RowKit Gen
open Tl (il il_app rise TRt)
attribute [local go_sem] Oper.semAt_some

set_option maxRecDepth 100000 in
theorem prun_end {i : Inf.If} {b : List Nat} {f : Nat} {s : Ns} (h : b.length ≤ s.at_) : prun i b (f + 1) s = (s, 10) := by unfold prun; rw [if_pos h]
set_option maxRecDepth 100000 in
theorem prun_tail {i : Inf.If} {b : List Nat} {f : Nat} {s : Ns} (h : s.at_ < b.length) (h2 : b.getD s.at_ 0 = 69) : prun i b (f + 1) s = (s, 0) := by unfold prun; rw [if_neg (by omega), if_pos h2]
set_option maxRecDepth 100000 in
theorem prun_step {i : Inf.If} {b : List Nat} {f : Nat} {s : Ns} (h : s.at_ < b.length) (h2 : b.getD s.at_ 0 ≠ 69) :
    prun i b (f + 1) s = if rbE i s (b.drop s.at_) ≠ 0 then (s, rbE i s (b.drop s.at_)) else prun i b f (s.next i (b.drop s.at_)) := by
  rw [prun, if_neg (by omega), if_neg h2]
  unfold rbE
  by_cases h0 : Head.opE (b.drop s.at_) = 0
  · simp only [h0, ne_eq, not_true_eq_false, if_false]
  · simp only [h0, ne_eq, not_false_eq_true, if_true]
/-- What readBlocks answers, and leaves. -/
def RbsP (w0 w : World) (g t : Nat) (i : Inf.If) (b : List Nat) (ba : Option Addr) (bn bc : Nat) (R : Ns × Int) (e : Ending) (w' : World) : Prop :=
  e = .returned (.int .i64 R.2) ∧ Below g w w' ∧ (R.2 = 0 → ∃ ap' cp' ab' cb' X', RdI w0 g t i b ba bn bc R.1 ap' cp' ab' cb' X' w' ∧ R.1.at_ < bn)

set_option maxHeartbeats 2000000 in
set_option maxRecDepth 100000 in
theorem rdblocks_any {w0 w : World} {g t : Nat} {i : Inf.If} {b : List Nat} {ba : Option Addr} {bn bc : Nat} {s : Ns} {ap : Option Addr} {cp : Nat} {ab : Option Addr} {cb : Nat} {X : List Bv}
    (h : RdI w0 g t i b ba bn bc s ap cp ab cb X w) (ht : Crc.Tab w t) (hb : Byts w ba b) (hbn : b.length = bn) (hbc : bn ≤ bc) (hm : bn ≤ 1073741824) (htg : t < g) (hba : ∀ q off, ba = some ⟨q, off, none⟩ → q < g) :
    Calls Tryd.prog 23 #[.pointer (some ⟨g, 0, none⟩)] w (RbsP w0 w g t i b ba bn bc (prun i b (bn + 1) s)) := by
  obtain ⟨R, hR⟩ : ∃ R, prun i b (bn + 1) s = R := ⟨_, rfl⟩
  rw [hR]
  have HR := hid hR
  have HRD := hid h
  have HTT := hid ht
  have HBB := hid hb
  have HBA := hid hba
  have HBN := hid (And.intro hbn hbc)
  clear h ht hb hba hR hbc
  go_enter Tryd.func23, Tryd.ntmps23
  go_wp2_with fail
  go_step3
  go_wp2_with fail
  go_step3
  go_wp2_with fail
  go_loopg [] (bn - s.at_) (fun gh wr => ∃ (s' : Ns) (ap' : Option Addr) (cp' : Nat) (ab' : Option Addr) (cb' : Nat) (X' : List Bv), gh = bn - s'.at_ ∧ RdI w0 g t i b ba bn bc s' ap' cp' ab' cb' X' wr ∧ Below g w wr ∧ prun i b (bn - s'.at_ + 1) s' = R)
  case atStart => exact ⟨s, ap, cp, ab, cb, X, rfl, HRD.out, Below.refl _ _, by rw [← HR.out]; exact (prun_fuel i b (bn + 1) (bn - s.at_ + 1) s (by rw [HBN.out.1]; omega) (by rw [HBN.out.1]; omega)).symm⟩
  case round =>
    clear HRD HR
    obtain ⟨s', ap', cp', ab', cb', X', hgh, hrd, hbel, hrun⟩ := hrel
    have HG := hid hgh
    have HRD := hid hrd
    have HBL := hid hbel
    have HRN := hid hrun
    clear hgh hrd hbel hrun
    have e6 := HRD.out.nx.c6
    have e11 := HRD.out.c11
    have hat := HRD.out.ok.at_
    rw [HBN.out.1] at hat
    by_cases hend : s'.at_ = bn
    · have heq : (((s'.at_ : Int)) == (bn : Int)) = true := by rw [beq_iff_eq]; omega
      have hR : R = (s', 10) := by rw [← HRN.out]; exact prun_end (by rw [HBN.out.1]; omega)
      subst hR
      go_wp2_with fail
      go_quiet (fail)
      have HB9 := hid (HBL.out.trans ((show Below wr.heap.size wr (wr.drewN nq) from ⟨rfl, rfl, rfl, Nat.le_refl _, fun _ _ => rfl⟩).mono (Nat.le_of_lt HRD.out.nx.lt)))
      clear e6 e11
      go_wp2_with fail
      rw [Exit.noGoto_ret]
      go_ret
      exact ⟨rfl, HB9.out, fun e => by cases e⟩
    have hlt : s'.at_ < bn := by omega
    obtain ⟨bq, bo, rfl⟩ : ∃ bq bo, ba = some ⟨bq, bo, none⟩ := by
      obtain ⟨q, off, e, _⟩ := HBB.out.at_ 0 _ (List.getElem?_eq_getElem (by rw [HBN.out.1]; omega))
      exact ⟨q, off, e⟩
    have hbq := HBA.out bq bo rfl
    have hneq : (((s'.at_ : Int)) == (bn : Int)) = false := by rw [beq_eq_false_iff_ne]; omega
    obtain ⟨x, hx⟩ : ∃ x, b[s'.at_]? = some x := ⟨_, List.getElem?_eq_getElem (by rw [HBN.out.1]; exact hlt)⟩
    have hgd : b.getD s'.at_ 0 = x := by rw [List.getD_eq_getElem?_getD, hx]; rfl
    obtain ⟨q', off', e', hcx⟩ := HBB.out.at_ s'.at_ x hx
    cases e'
    have hqw : bq < w.heap.size := World.block_lt_of_cell? _ _ hcx
    have hcw : wr.cell? ⟨bq, bo + s'.at_, none⟩ = some (.int .u8 (x : Int)) := (HBL.out.cell (p := ⟨bq, bo + s'.at_, none⟩) hbq).trans hcx
    have hlti : (s'.at_ : Int) < (bn : Int) := by omega
    have HGD := hid hgd
    clear hgd hx hcx
    by_cases h69 : x = 69
    · subst h69
      have hR : R = (s', 0) := by rw [← HRN.out]; exact prun_tail (by rw [HBN.out.1]; exact hlt) HGD.out
      subst hR
      have h69i : (((69 : Nat) : Int) == 69) = true := by decide
      go_wp2_with fail
      go_quiet (fail)
      have hbq1 : Below wr.heap.size wr (wr.drewN nq) := ⟨rfl, rfl, rfl, Nat.le_refl _, fun _ _ => rfl⟩
      have HRD1 := hid (HRD.out.more hbq1)
      have HBL1 := hid (HBL.out.trans (hbq1.mono (Nat.le_of_lt HRD.out.nx.lt)))
      have f6 := HRD1.out.nx.c6
      have f11 := HRD1.out.c11
      have hcw1 : (wr.drewN nq).cell? ⟨bq, bo + s'.at_, none⟩ = some (.int .u8 ((69 : Nat) : Int)) := hcw
      clear e6 e11 hcw hbq1
      generalize wr.drewN nq = w1 at *
      go_wp2_with fail
      go_quiet (fail)
      have hbq2 : Below w1.heap.size w1 (w1.drewN nq) := ⟨rfl, rfl, rfl, Nat.le_refl _, fun _ _ => rfl⟩
      have HRD2 := hid (HRD1.out.more hbq2)
      have HBL2 := hid (HBL1.out.trans (hbq2.mono (Nat.le_of_lt HRD1.out.nx.lt)))
      clear f6 f11 hcw1 hbq2
      go_wp2_with fail
      rw [Exit.noGoto_ret]
      go_ret
      exact ⟨rfl, HBL2.out, fun _ => ⟨ap', cp', ab', cb', X', HRD2.out, hlt⟩⟩
    have hx69 : ((x : Int) == 69) = false := by rw [beq_eq_false_iff_ne]; omega
    have hst := prun_step (i := i) (b := b) (f := bn - s'.at_) (s := s') (by rw [HBN.out.1]; exact hlt) (by rw [HGD.out]; exact h69)
    rw [HRN.out] at hst
    have HST := hid hst
    clear hst HRN
    go_wp2_with fail
    go_quiet (fail)
    have hbq1 : Below wr.heap.size wr (wr.drewN nq) := ⟨rfl, rfl, rfl, Nat.le_refl _, fun _ _ => rfl⟩
    have HRD1 := hid (HRD.out.more hbq1)
    have HBL1 := hid (HBL.out.trans (hbq1.mono (Nat.le_of_lt HRD.out.nx.lt)))
    have f6 := HRD1.out.nx.c6
    have f11 := HRD1.out.c11
    have hcw1 : (wr.drewN nq).cell? ⟨bq, bo + s'.at_, none⟩ = some (.int .u8 (x : Int)) := hcw
    clear e6 e11 hcw hbq1
    generalize wr.drewN nq = w1 at *
    go_wp2_with fail
    go_quiet (fail)
    have hbq2 : Below w1.heap.size w1 (w1.drewN nq) := ⟨rfl, rfl, rfl, Nat.le_refl _, fun _ _ => rfl⟩
    have HRD2 := hid (HRD1.out.more hbq2)
    have HBL2 := hid (HBL1.out.trans (hbq2.mono (Nat.le_of_lt HRD1.out.nx.lt)))
    clear f6 f11 hcw1 hbq2
    generalize w1.drewN nq = w2 at *
    have HRB := hid (rdblock_any HRD2.out (HTT.out.keep (HBL2.out.block t htg)) (HBB.out.stay (below_fr HBL2.out) (fun q off e => by cases e; omega)) HBN.out.1 HBN.out.2 hm hlt (fun q off e => by cases e; exact hbq))
    go_wp2_with fail
    refine HRB.out.mono ?_
    rintro e w3 ⟨rfl, hb3, hgood⟩
    have HB3 := hid (HBL2.out.trans hb3)
    generalize rbE i s' (b.drop s'.at_) = E at *
    by_cases hE : E = 0
    · subst hE
      obtain ⟨ap3, cp3, ab3, cb3, X3, hrd3⟩ := hgood rfl
      have HRD3 := hid hrd3
      have hR : prun i b (bn - s'.at_) (s'.next i (b.drop s'.at_)) = R := by rw [HST.out, if_neg (fun h => h rfl)]
      have hna : (s'.next i (b.drop s'.at_)).at_ = s'.at_ + (36 + Head.szn (b.drop s'.at_)) := rfl
      have hnl := hrd3.ok.at_
      rw [HBN.out.1] at hnl
      have HRN3 := hid (show prun i b (bn - (s'.next i (b.drop s'.at_)).at_ + 1) (s'.next i (b.drop s'.at_)) = R from by
        rw [← hR]
        exact prun_fuel i b _ _ _ (by rw [HBN.out.1]; omega) (by rw [HBN.out.1]; omega))
      have HLE := hid (show bn - (s'.next i (b.drop s'.at_)).at_ < bn - s'.at_ from by omega)
      clear hgood hrd3 hR hna hnl HST
      go_wp2_with fail
      go_roundg (bn - (s'.next i (b.drop s'.at_)).at_)
      case measure => rw [HG.out]; exact HLE.out
      case rel => exact ⟨s'.next i (b.drop s'.at_), ap3, cp3, ab3, cb3, X3, rfl, HRD3.out, HB3.out, HRN3.out⟩
    · have hE' : (E != 0) = true := bne_iff_ne.2 hE
      have hR : R = (s', E) := by rw [HST.out, if_pos hE]
      subst hR
      clear hgood HST hb3
      go_wp2_with fail
      rw [Exit.noGoto_ret]
      go_ret
      exact ⟨rfl, HB3.out, fun e => absurd e hE⟩
end Go.Proofs.YthjjonbkfkpkmaaDoor.Fil
namespace Go.Proofs.YthjjonbkfkpkmaaDoor.Head
open Go.RowKit Gen Fld
open Crc hiding hid

/-- The head of the fixed calls. -/
def kh : Hh := ⟨3, 0, 1, 1, 0, false, 0, 0⟩
set_option maxRecDepth 100000 in
theorem kh_rt : Rt kh := by decide
set_option maxRecDepth 100000 in
theorem kh_four : (hby kh).take 4 = [222, 92, 3, 0] := by decide
/-- A head's cells. -/
def C8 (w : World) (g : Nat) (h : Hh) : Prop :=
  w.cell? ⟨g, 0, none⟩ = some (.int .i64 h.k) ∧ w.cell? ⟨g, 1, none⟩ = some (.int .i64 h.ix) ∧ w.cell? ⟨g, 2, none⟩ = some (.int .i64 h.ln) ∧ w.cell? ⟨g, 3, none⟩ = some (.int .i64 h.st) ∧
  w.cell? ⟨g, 4, none⟩ = some (.int .i64 h.bd) ∧ w.cell? ⟨g, 5, none⟩ = some (.bool h.la) ∧ w.cell? ⟨g, 6, none⟩ = some (.int .u32 (h.lk : Int)) ∧ w.cell? ⟨g, 7, none⟩ = some (.int .i64 h.sz)
set_option maxRecDepth 100000 in
theorem Bx.c8 {w : World} {g : Nat} {h : Hh} (b : Bx w g h) : C8 w g h := ⟨b.c0, b.c1, b.c2, b.c3, b.c4, b.c5, b.c6, b.c7⟩
set_option maxRecDepth 100000 in
theorem own_cap {w : World} {B : Nat} {ao : Option Addr} {n c : Nat} {xs : List Value} (h : w.ownsRow B 5 1 (.slice ao n c) n xs) : n ≤ c := by
  rcases h.2 with ⟨h1, h2⟩ | ⟨g, cap, cur, h1, _, _, h4, _⟩
  · omega
  · cases h1; exact h4
end Go.Proofs.YthjjonbkfkpkmaaDoor.Head
namespace Go.Proofs.YthjjonbkfkpkmaaDoor.Head
open Go.RowKit Gen Fld

/-- A world in which all of w stands. -/
structure Kp (w : World) where
  w' : World
  h : Fr (fun _ => False) w w'

instance (w : World) : Inhabited (Kp w) := ⟨⟨w, Fr.refl _ _⟩⟩

set_option maxRecDepth 100000 in
theorem fr_of_below {w w' : World} (hb : Below w.heap.size w w') : Fr (fun _ => False) w w' := ⟨hb.os, hb.tape, hb.output, hb.size, fun k hk _ => hb.block k hk⟩
set_option maxRecDepth 100000 in
theorem below_of_fr {w w' : World} (hb : Fr (fun _ => False) w w') : Below w.heap.size w w' := ⟨hb.os, hb.tape, hb.output, hb.size, fun k hk => hb.block k hk (fun x => x)⟩
set_option maxRecDepth 100000 in
theorem wp_region_quiet_kp {P : Program} {id : Nat} {Q : Exit → Act → World → Prop} {a : Act} {w : World} {l : List Oper} (hm : P.follows .mixedOrders = true) (hB : Region.lexB .any l.toArray = true)
    (h : wpQuiet P l.toArray (fun w' => ∃ p : Kp w, w' = p.w') (fun a' => ∀ w', (∃ p : Kp w, w' = p.w') → Q .normal a' w') l a) : (Code.region id l.toArray true).wp P Q a w :=
  wp_region_quiet (C := fun w' => ∃ p : Kp w, w' = p.w') hm hB ⟨⟨w.drew, (Fr.refl _ _).drew⟩, rfl⟩ (by simpa using h)
set_option maxRecDepth 100000 in
theorem kp_same {P : Program} {f : FuncId} {args : Array Value} {w : World} {p : Kp w} {v : Value} (h : Calls P f args p.w' fun e w'' => e = .returned v ∧ p.w' = w'') :
    Calls P f args p.w' fun e w'' => e = .returned v ∧ ∃ p' : Kp w, w'' = p'.w' :=
  h.mono fun _ _ ⟨he, hf⟩ => ⟨he, p, hf.symm⟩
set_option maxRecDepth 100000 in
theorem kp_below {P : Program} {f : FuncId} {args : Array Value} {w : World} {p : Kp w} {v : Value} (h : Calls P f args p.w' fun e w'' => e = .returned v ∧ Below p.w'.heap.size p.w' w'') :
    Calls P f args p.w' fun e w'' => e = .returned v ∧ ∃ p' : Kp w, w'' = p'.w' :=
  h.mono fun _ w'' ⟨he, hf⟩ => ⟨he, ⟨w'', p.h.trans (fr_of_below hf)⟩, rfl⟩
end Go.Proofs.YthjjonbkfkpkmaaDoor.Head
namespace Go.Proofs.YthjjonbkfkpkmaaDoor.Tl
open Go.RowKit Gen Fld Inf
open Crc hiding hid

/-- A slice of ints in memory. -/
structure Isb (W : World) (a : Option Addr) (len b off : Nat) (X : Nat → Int) : Prop where
  addr : 0 < len → a = some ⟨b, off, none⟩
  c : ∀ i, i < len → W.cell? ⟨b, off + i, none⟩ = some (.int .i64 (X i))
  lt : 0 < len → b < W.heap.size
  hl : len ≤ 9223372036854775807
set_option maxRecDepth 100000 in
theorem Isb.below {W W' : World} {a : Option Addr} {len b off : Nat} {X : Nat → Int} (h : Isb W a len b off X) {B : Nat} (hb : Below B W W') (hB : 0 < len → b < B) : Isb W' a len b off X :=
  ⟨h.addr, fun i hi => (hb.cell (p := ⟨b, _, none⟩) (hB (by omega))).trans (h.c i hi), fun hl => Nat.lt_of_lt_of_le (h.lt hl) hb.size, h.hl⟩
set_option maxRecDepth 100000 in
theorem Isb.fr {W W' : World} {a : Option Addr} {len b off : Nat} {X : Nat → Int} (h : Isb W a len b off X) (hf : Fr (fun _ => False) W W') : Isb W' a len b off X :=
  h.below (B := W.heap.size) ⟨hf.os, hf.tape, hf.output, hf.size, fun k hk => hf.block k hk fun x => x⟩ h.lt
def anyB (q : Nat → Bool) : Nat → Bool
  | 0 => false
  | k + 1 => anyB q k || q k
set_option maxRecDepth 100000 in
theorem any_iff (q : Nat → Bool) : ∀ n, (anyB q n = true ↔ ∃ i, i < n ∧ q i = true)
  | 0 => ⟨fun h => absurd (show false = true from h) Bool.false_ne_true, fun ⟨i, hi, _⟩ => absurd hi (Nat.not_lt_zero _)⟩
  | k + 1 => by
    show (anyB q k || q k) = true ↔ _
    rw [Bool.or_eq_true, any_iff q k]
    constructor
    · rintro (⟨i, hi, h⟩ | h)
      · exact ⟨i, by omega, h⟩
      · exact ⟨k, by omega, h⟩
    · rintro ⟨i, hi, h⟩
      by_cases e : i = k
      · exact .inr (e ▸ h)
      · exact .inl ⟨i, by omega, h⟩
/-- Are two lists alike? -/
def eqI (U V : Nat → Int) (len len' : Nat) : Bool := (len == len') && !anyB (fun j => U j != V j) len
set_option maxRecDepth 100000 in
theorem eqI_len {U V : Nat → Int} {len len' : Nat} (h : ¬ len = len') : eqI U V len len' = false := by unfold eqI; rw [beq_eq_false_iff_ne.2 h]; rfl
set_option maxRecDepth 100000 in
theorem eqI_not {U V : Nat → Int} {len j : Nat} (hj : j < len) (h : ¬ U j = V j) : eqI U V len len = false := by
  unfold eqI; rw [(any_iff (fun j => U j != V j) len).2 ⟨j, hj, bne_iff_ne.2 h⟩, beq_self_eq_true]; rfl
set_option maxRecDepth 100000 in
theorem eqI_all {U V : Nat → Int} {len : Nat} (h : ∀ j, j < len → U j = V j) : eqI U V len len = true := by
  unfold eqI
  rw [beq_self_eq_true]
  cases hu : anyB (fun j => U j != V j) len with
  | false => rfl
  | true =>
    obtain ⟨i, hi, hq⟩ := (any_iff _ _).1 hu
    rw [h i hi] at hq; simp at hq
set_option maxRecDepth 100000 in
theorem eqI_iff {U V : Nat → Int} {len len' : Nat} : eqI U V len len' = true ↔ len = len' ∧ ∀ j, j < len → U j = V j := by
  by_cases h : len = len'
  · subst h
    by_cases h2 : ∀ j, j < len → U j = V j
    · rw [eqI_all h2]; exact ⟨fun _ => ⟨rfl, h2⟩, fun _ => rfl⟩
    · obtain ⟨j, hj⟩ := Classical.not_forall.1 h2
      obtain ⟨hj, hn⟩ := Classical.not_imp.1 hj
      rw [eqI_not hj hn]; exact ⟨fun h => (by cases h), fun h => absurd h.2 h2⟩
  · rw [eqI_len h]; exact ⟨fun h => (by cases h), fun h' => absurd h'.1 h⟩

set_option maxRecDepth 100000 in
theorem ints_gen (w : World) (a a' : Option Addr) (len len' cap cap' b off b' off' : Nat) (U V : Nat → Int) (h : Isb w a len b off U) (h' : Isb w a' len' b' off' V) :
    Calls Tryd.prog 52 #[.slice a len cap, .slice a' len' cap'] w fun e w' => e = .returned (.bool (eqI U V len len')) ∧ Fr (fun _ => False) w w' := by
  have H := hid h
  have H' := hid h'
  have hl := h.hl
  clear h h'
  by_cases hll : len = len'
  · subst hll
    go_enter Tryd.func52, Tryd.ntmps52
    go_wp2_with fail
    go_loopg [5] len (fun g i wr => ∃ j : Nat, j ≤ len ∧ g = len - j ∧ i = .int .i64 j ∧ Fr (fun _ => False) w wr ∧ ∀ i, i < j → U i = V i)
    case atStart => exact ⟨0, Nat.zero_le _, rfl, rfl, Fr.refl _ _, fun i hi => absurd hi (Nat.not_lt_zero _)⟩
    case round =>
      obtain ⟨j, hj, hg, rfl, hf, hall⟩ := hrel
      have HG := hid hg
      have HA := hid hall
      clear hg hall
      by_cases hlt : j < len
      · have hlt2 : (j : Int) < (len : Int) := by omega
        obtain rfl := H.out.addr (by omega)
        obtain rfl := H'.out.addr (by omega)
        have ck := (H.out.fr hf).c j hlt
        have ck' := (H'.out.fr hf).c j hlt
        by_cases he : U j = V j
        · rw [← he] at ck'
          have HEQ : Hid (∀ i, i < j + 1 → U i = V i) := hid fun i hi => by
            by_cases e : i = j
            · rw [e]; exact he
            · exact HA.out i (by omega)
          clear he HA
          generalize hx : U j = x at ck ck'
          clear hx
          go_wp2_with fail
          go_quiet (fail)
          have hf2 : Fr (fun _ => False) w (wr.drewN nq) := ⟨hf.os, hf.tape, hf.output, hf.size, hf.block⟩
          clear ck ck' hf
          go_wp2_with fail
          go_roundg (len - (j + 1))
          case measure => rw [HG.out]; omega
          case rel => exact ⟨j + 1, by omega, rfl, by go_num, hf2, HEQ.out⟩
        · have e1 : (U j != V j) = true := bne_iff_ne.2 he
          have HE : Hid (eqI U V len len = false) := hid (eqI_not hlt he)
          clear he
          go_wp2_with fail
          go_quiet (fail)
          have hf2 : Fr (fun _ => False) w (wr.drewN nq) := ⟨hf.os, hf.tape, hf.output, hf.size, hf.block⟩
          clear ck ck' hf
          go_wp2_with fail
          go_ret
          exact ⟨congrArg (fun z : Bool => Ending.returned (Value.bool z)) HE.out.symm, hf2⟩
      · have hge : ¬ (j : Int) < (len : Int) := by omega
        obtain rfl : j = len := by omega
        have HE : Hid (eqI U V j j = true) := hid (eqI_all HA.out)
        go_wp2_with fail
        go_ret
        exact ⟨congrArg (fun z : Bool => Ending.returned (Value.bool z)) HE.out.symm, hf⟩
  · have e1 : ((len : Int) != (len' : Int)) = true := bne_iff_ne.2 (by omega)
    rw [eqI_len hll]
    clear hll
    go_enter Tryd.func52, Tryd.ntmps52
    go_wp2_with fail
    go_ret
    exact ⟨rfl, Fr.refl _ _⟩
set_option maxRecDepth 100000 in
theorem equal_gen (w : World) (a a' : Option Addr) (len len' cap cap' b off b' off' : Nat) (U V : Nat → Int) (h : Isb w a len b off U) (h' : Isb w a' len' b' off' V) :
    Calls Tryd.prog 80 #[.slice a len cap, .slice a' len' cap'] w fun e w' => e = .returned (.bool (eqI U V len len')) ∧ Fr (fun _ => False) w w' := by
  have H := hid h
  have H' := hid h'
  have hl := h.hl
  clear h h'
  by_cases hll : len = len'
  · subst hll
    go_enter Tryd.func80, Tryd.ntmps80
    go_wp2_with fail
    go_loopg [13] len (fun g i wr => ∃ j : Nat, j ≤ len ∧ g = len - j ∧ i = .int .i64 j ∧ Fr (fun _ => False) w wr ∧ ∀ i, i < j → U i = V i)
    case atStart => exact ⟨0, Nat.zero_le _, rfl, rfl, Fr.refl _ _, fun i hi => absurd hi (Nat.not_lt_zero _)⟩
    case round =>
      obtain ⟨j, hj, hg, rfl, hf, hall⟩ := hrel
      have HG := hid hg
      have HA := hid hall
      clear hg hall
      by_cases hlt : j < len
      · have hlt2 : (j : Int) < (len : Int) := by omega
        obtain rfl := H.out.addr (by omega)
        obtain rfl := H'.out.addr (by omega)
        have ck := (H.out.fr hf).c j hlt
        have ck' := (H'.out.fr hf).c j hlt
        by_cases he : U j = V j
        · rw [← he] at ck'
          have HEQ : Hid (∀ i, i < j + 1 → U i = V i) := hid fun i hi => by
            by_cases e : i = j
            · rw [e]; exact he
            · exact HA.out i (by omega)
          clear he HA
          generalize hx : U j = x at ck ck'
          clear hx
          go_wp2_with fail
          go_quiet (fail)
          have hf2 : Fr (fun _ => False) w (wr.drewN nq) := ⟨hf.os, hf.tape, hf.output, hf.size, hf.block⟩
          clear ck ck' hf
          go_wp2_with fail
          go_roundg (len - (j + 1))
          case measure => rw [HG.out]; omega
          case rel => exact ⟨j + 1, by omega, rfl, by go_num, hf2, HEQ.out⟩
        · have e1 : (U j != V j) = true := bne_iff_ne.2 he
          have HE : Hid (eqI U V len len = false) := hid (eqI_not hlt he)
          clear he
          go_wp2_with fail
          go_quiet (fail)
          have hf2 : Fr (fun _ => False) w (wr.drewN nq) := ⟨hf.os, hf.tape, hf.output, hf.size, hf.block⟩
          clear ck ck' hf
          go_wp2_with fail
          go_ret
          exact ⟨congrArg (fun z : Bool => Ending.returned (Value.bool z)) HE.out.symm, hf2⟩
      · have hge : ¬ (j : Int) < (len : Int) := by omega
        obtain rfl : j = len := by omega
        have HE : Hid (eqI U V j j = true) := hid (eqI_all HA.out)
        go_wp2_with fail
        go_ret
        exact ⟨congrArg (fun z : Bool => Ending.returned (Value.bool z)) HE.out.symm, hf⟩
  · have e1 : ((len : Int) != (len' : Int)) = true := bne_iff_ne.2 (by omega)
    rw [eqI_len hll]
    clear hll
    go_enter Tryd.func80, Tryd.ntmps80
    go_wp2_with fail
    go_ret
    exact ⟨rfl, Fr.refl _ _⟩
set_option maxRecDepth 100000 in
theorem nts_isb {w : World} {a : Option Addr} {P : List Int} {n : Nat} (hn : P.length = n) (h : Nts w a P) (hm : n ≤ 9223372036854775807) : ∃ b off, Isb w a n b off fun j => P.getD j 0 := by
  by_cases h0 : 0 < n
  · obtain ⟨b, off, rfl, hb⟩ := h.spot (by omega)
    refine ⟨b, off, fun _ => rfl, fun i hi => ?_, fun _ => hb, hm⟩
    rw [h.cell i (by omega), List.getD_eq_getElem?_getD, List.getElem?_eq_getElem (by omega)]
    rfl
  · exact ⟨0, 0, fun h => absurd h h0, fun i hi => absurd hi (by omega), fun h => absurd h h0, hm⟩
set_option maxRecDepth 100000 in
theorem eqi_list {P P' : List Int} {n n' : Nat} (hn : P.length = n) (hn' : P'.length = n') : eqI (fun j => P.getD j 0) (fun j => P'.getD j 0) n n' = decide (P = P') := by
  rw [Bool.eq_iff_iff, eqI_iff, decide_eq_true_eq]
  constructor
  · rintro ⟨e, h⟩
    refine List.ext_getElem (by omega) fun i h1 h2 => ?_
    have := h i (by omega)
    rw [List.getD_eq_getElem?_getD, List.getD_eq_getElem?_getD, List.getElem?_eq_getElem h1, List.getElem?_eq_getElem h2] at this
    exact this
  · rintro rfl
    exact ⟨by omega, fun _ _ => rfl⟩
set_option maxRecDepth 100000 in
theorem ints_any {w : World} {a a' : Option Addr} {P P' : List Int} {n n' cap cap' : Nat} (hn : P.length = n) (hn' : P'.length = n') (h : Nts w a P) (h' : Nts w a' P') (hm : n ≤ 9223372036854775807) (hm' : n' ≤ 9223372036854775807) :
    Calls Tryd.prog 52 #[.slice a n cap, .slice a' n' cap'] w fun e w' => e = .returned (.bool (decide (P = P'))) ∧ Fr (fun _ => False) w w' := by
  obtain ⟨b, off, hi⟩ := nts_isb hn h hm
  obtain ⟨b', off', hi'⟩ := nts_isb hn' h' hm'
  rw [← eqi_list hn hn']
  exact ints_gen w a a' n n' cap cap' b off b' off' _ _ hi hi'
set_option maxRecDepth 100000 in
theorem equal_any {w : World} {a a' : Option Addr} {P P' : List Int} {n n' cap cap' : Nat} (hn : P.length = n) (hn' : P'.length = n') (h : Nts w a P) (h' : Nts w a' P') (hm : n ≤ 9223372036854775807) (hm' : n' ≤ 9223372036854775807) :
    Calls Tryd.prog 80 #[.slice a n cap, .slice a' n' cap'] w fun e w' => e = .returned (.bool (decide (P = P'))) ∧ Fr (fun _ => False) w w' := by
  obtain ⟨b, off, hi⟩ := nts_isb hn h hm
  obtain ⟨b', off', hi'⟩ := nts_isb hn' h' hm'
  rw [← eqi_list hn hn']
  exact equal_gen w a a' n n' cap cap' b off b' off' _ _ hi hi'
end Go.Proofs.YthjjonbkfkpkmaaDoor.Tl
