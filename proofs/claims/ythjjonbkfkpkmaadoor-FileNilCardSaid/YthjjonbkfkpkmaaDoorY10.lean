/- Lists of numbers in memory, tails as data; whether places rise, of the program: a closure with a number of its own. Conditions: those that each lemma names. -/
import Derived.Test.YthjjonbkfkpkmaaDoorYxNj
import Derived.Deep.RegionHeld3
import Derived.BigQuiet
import Derived.Deep.QuietTactic
import Derived.Laws.CopyOwn
namespace Go.Proofs.YthjjonbkfkpkmaaDoor.Tl
open Go.RowKit Gen Fld Inf
open Crc hiding hid

/-- The numbers l lie behind the slice at a. -/
structure Nts (w : World) (a : Option Addr) (l : List Int) : Prop where
  at_ : ∀ (j : Nat) (x : Int), l[j]? = some x → ∃ b off, a = some ⟨b, off, none⟩ ∧ w.cell? ⟨b, off + j, none⟩ = some (.int .i64 x)
set_option maxRecDepth 100000 in
theorem Nts.keep {w w' : World} {a : Option Addr} {l : List Int} (h : Nts w a l) (e : Below w.heap.size w w') : Nts w' a l :=
  ⟨fun j x hj => by
    obtain ⟨b, off, ha, hc⟩ := h.at_ j x hj
    exact ⟨b, off, ha, (e.cell (p := ⟨b, off + j, none⟩) (World.block_lt_of_cell? w _ hc)).trans hc⟩⟩
set_option maxRecDepth 100000 in
theorem Nts.stay {w w' : World} {a : Option Addr} {l : List Int} (h : Nts w a l) {X : Nat → Prop} (e : Fr X w w') (hx : ∀ b off, a = some ⟨b, off, none⟩ → ¬ X b) : Nts w' a l :=
  ⟨fun j x hj => by
    obtain ⟨b, off, ha, hc⟩ := h.at_ j x hj
    exact ⟨b, off, ha, (e.cell (p := ⟨b, off + j, none⟩) (World.block_lt_of_cell? w _ hc) (hx b off ha)).trans hc⟩⟩
set_option maxRecDepth 100000 in
theorem Nts.nil (w : World) (a : Option Addr) : Nts w a [] := ⟨fun _ _ h => by simp at h⟩
set_option maxRecDepth 100000 in
theorem Nts.spot {w : World} {a : Option Addr} {l : List Int} (h : Nts w a l) (hl : 0 < l.length) : ∃ b off, a = some ⟨b, off, none⟩ ∧ b < w.heap.size := by
  obtain ⟨b, off, e, hc⟩ := h.at_ 0 l[0] (List.getElem?_eq_getElem hl)
  exact ⟨b, off, e, World.block_lt_of_cell? _ _ hc⟩
set_option maxRecDepth 100000 in
theorem Nts.cell {w : World} {b off : Nat} {l : List Int} (h : Nts w (some ⟨b, off, none⟩) l) (j : Nat) (hj : j < l.length) : w.cell? ⟨b, off + j, none⟩ = some (.int .i64 l[j]) := by
  obtain ⟨b', off', e, hc⟩ := h.at_ j l[j] (List.getElem?_eq_getElem hj)
  cases e
  exact hc
/-- Places rise from behind p on, and are below 2^40. -/
def rise (p : Int) : List Int → Prop
  | [] => True
  | x :: t => (p + 1 ≤ x ∧ x ≤ 1099511627775) ∧ rise x t
instance riseDec : ∀ (p : Int) (l : List Int), Decidable (rise p l)
  | _, [] => isTrue trivial
  | p, x :: t => by
    unfold rise
    exact @instDecidableAnd _ _ inferInstance (riseDec x t)
def TRt (c : Int) (P : List Int) : Prop := (0 ≤ c ∧ c ≤ 4294967295) ∧ P.length ≤ 16777216 ∧ rise (-1) P
instance (c : Int) (P : List Int) : Decidable (TRt c P) := by unfold TRt; exact inferInstance

set_option maxRecDepth 100000 in
theorem tfrom_any (x lo hi : Int) (w : World) : Calls Tryd.prog 92 #[.int .i64 x, .int .i64 lo, .int .i64 hi] w fun e w' => e = .returned (.bool (decide (lo ≤ x ∧ x ≤ hi))) ∧ w = w' := by
  by_cases h0 : lo ≤ x
  · by_cases h1 : x ≤ hi
    · rw [show decide (lo ≤ x ∧ x ≤ hi) = true from decide_eq_true ⟨h0, h1⟩]
      go_enter Tryd.func92, Tryd.ntmps92
      go_wp2_with fail
      go_ret
      exact ⟨rfl, rfl⟩
    · rw [show decide (lo ≤ x ∧ x ≤ hi) = false from decide_eq_false fun h => h1 h.2]
      go_enter Tryd.func92, Tryd.ntmps92
      go_wp2_with fail
      go_ret
      exact ⟨rfl, rfl⟩
  · rw [show decide (lo ≤ x ∧ x ≤ hi) = false from decide_eq_false fun h => h0 h.1]
    go_enter Tryd.func92, Tryd.ntmps92
    go_wp2_with fail
    go_ret
    exact ⟨rfl, rfl⟩
set_option maxRecDepth 100000 in
theorem tcount_any (x : Int) (w : World) : Calls Tryd.prog 70 #[.int .i64 x] w fun e w' => e = .returned (.bool (decide (0 ≤ x ∧ x ≤ 4294967295))) ∧ w = w' := by
  have HF := hid fun (w : World) => tfrom_any x 0 4294967295 w
  generalize decide (0 ≤ x ∧ x ≤ 4294967295) = b at *
  go_enter Tryd.func70, Tryd.ntmps70
  go_wp2_with fail
  refine (HF.out _).mono ?_
  rintro e w' ⟨rfl, rfl⟩
  go_wp2_with fail
  go_ret
  exact ⟨rfl, rfl⟩
/-- The closure's number: the last place. -/
structure Lst (w : World) (g : Nat) (p : Int) : Prop where
  row : w.heap[g]? = some (.cells #[.int .i64 p] 3 (0, 0))
set_option maxRecDepth 100000 in
theorem Lst.set {w : World} {g : Nat} {p : Int} (h : Lst w g p) (x : Int) : Lst (w.setCell ⟨g, 0, none⟩ (.int .i64 x)) g x := by
  refine ⟨?_⟩
  rw [heap_setCell_same w g 0 _ _ _ h.row]
  rfl
set_option maxRecDepth 100000 in
theorem misp_any {w : World} {g : Nat} {p : Int} (h : Lst w g p) (x : Int) (hp : -1 ≤ p ∧ p ≤ 1099511627775) : Calls Tryd.prog 94 #[.int .i64 x, .pointer (some ⟨g, 0, none⟩)] w fun e w' => e = .returned (.bool (!decide (p + 1 ≤ x ∧ x ≤ 1099511627775))) ∧ w' = w.setCell ⟨g, 0, none⟩ (.int .i64 x) := by
  have HF := hid fun (w : World) => tfrom_any x (p + 1) 1099511627775 w
  have c0 := row_cell h.row 0 (v := .int .i64 p) rfl
  have f0 := row_frozen h.row 0
  have hw : wrap64 (p + 1) = p + 1 := by unfold wrap64; omega
  have hp1 := hp.1
  have hp2 := hp.2
  generalize decide (p + 1 ≤ x ∧ x ≤ 1099511627775) = b at *
  clear hp h
  go_enter Tryd.func94, Tryd.ntmps94
  go_wp2_with fail
  refine (HF.out _).mono ?_
  rintro e w' ⟨rfl, rfl⟩
  go_wp2_with fail
  go_ret
  exact ⟨rfl, rfl⟩
set_option maxRecDepth 100000 in
theorem mk_misp (w : World) : Calls Tryd.prog 72 #[] w fun e w' => e = .returned (.func (.func 94) #[] #[.pointer (some ⟨w.heap.size, 0, none⟩)]) ∧ w' = w.alloc (.cells #[.int .i64 (-1)] 3) := by
  go_enter Tryd.func72, Tryd.ntmps72
  go_wp2_with fail
  go_ret
  exact ⟨rfl, rfl⟩
set_option maxRecDepth 100000 in
theorem rise_cons {p x : Int} {t : List Int} (h : p + 1 ≤ x ∧ x ≤ 1099511627775) : rise p (x :: t) ↔ rise x t := ⟨fun e => e.2, fun e => ⟨h, e⟩⟩
set_option maxRecDepth 100000 in
set_option maxHeartbeats 1000000 in
theorem tindex_any {w : World} {a : Option Addr} {P : List Int} {n cap g : Nat} (hn : P.length = n) (hP : Nts w a P) (hg : Lst w g (-1)) (hfar : 0 < n → ∀ b off, a = some ⟨b, off, none⟩ → b ≠ g) (hmax : n ≤ 1099511627776) :
    Calls Tryd.prog 93 #[.slice a n cap, .func (.func 94) #[] #[.pointer (some ⟨g, 0, none⟩)]] w fun e w' => ∃ r : Int, e = .returned (.int .i64 r) ∧ Fr (fun b => b = g) w w' ∧ (r < 0 ↔ rise (-1) P) := by
  have HP := hid hP
  have HN := hid hn
  have HL := hid hg
  have HF := hid hfar
  clear hP hn hg hfar
  go_enter Tryd.func93, Tryd.ntmps93
  go_wp2_with fail
  go_loopg [8] n (fun gg i wr => ∃ (k : Nat) (p : Int), k ≤ n ∧ gg = n - k ∧ i = .int .i64 k ∧ Lst wr g p ∧ (-1 ≤ p ∧ p ≤ 1099511627775) ∧ Fr (fun b => b = g) w wr ∧ (rise (-1) P ↔ rise p (P.drop k)))
  case atStart => exact ⟨0, -1, Nat.zero_le _, rfl, rfl, HL.out, by omega, Fr.refl _ _, Iff.rfl⟩
  case round =>
    obtain ⟨k, p, hk, hgg, rfl, hl, hp, hf, hr⟩ := hrel
    have HG := hid hgg
    have HL2 := hid hl
    have HPP := hid hp
    have HFR := hid hf
    have HR := hid hr
    clear hgg hl hp hf hr HL
    by_cases hlt : k < n
    · have hlt2 : (k : Int) < (n : Int) := by omega
      have hkl : k < P.length := by rw [HN.out]; exact hlt
      obtain ⟨b, off, rfl, hbs⟩ := HP.out.spot (by omega)
      have hst := HP.out.stay HFR.out (fun b' off' e => HF.out (by omega) b' off' e)
      have ck := hst.cell k hkl
      have HD := hid (List.drop_eq_getElem_cons hkl)
      clear hst
      generalize P[k] = x at *
      go_wp2_with fail
      refine (misp_any HL2.out x HPP.out).mono ?_
      rintro e w' ⟨rfl, rfl⟩
      by_cases hc : p + 1 ≤ x ∧ x ≤ 1099511627775
      · have HC := hid hc
        rw [show (!decide (p + 1 ≤ x ∧ x ≤ 1099511627775)) = false from by rw [decide_eq_true hc]; rfl]
        clear hc
        go_wp2_with fail
        go_roundg (n - (k + 1))
        case measure => rw [HG.out]; omega
        case rel =>
          refine ⟨k + 1, x, by omega, rfl, by go_num, HL2.out.set x, ?_, ?_, ?_⟩
          · have := HC.out; have := HPP.out; omega
          · exact HFR.out.trans (frq (q := g) 0 (.int .i64 x))
          · rw [HR.out, HD.out]; exact rise_cons HC.out
      · have HC := hid hc
        rw [show (!decide (p + 1 ≤ x ∧ x ≤ 1099511627775)) = true from by rw [decide_eq_false hc]; rfl]
        clear hc
        go_wp2_with fail
        go_ret
        refine ⟨_, rfl, HFR.out.trans (frq (q := g) 0 (.int .i64 x)), ?_⟩
        rw [HR.out, HD.out]
        exact ⟨fun h => by omega, fun h => absurd h.1 HC.out⟩
    · have hge : ¬ (k : Int) < (n : Int) := by omega
      obtain rfl : k = n := by omega
      go_wp2_with fail
      go_ret
      refine ⟨_, rfl, HFR.out, ?_⟩
      rw [HR.out, List.drop_eq_nil_of_le (by rw [HN.out]; exact Nat.le_refl _)]
      exact ⟨fun _ => trivial, fun _ => by decide⟩
set_option maxRecDepth 100000 in
theorem tcontains_any {w : World} {a : Option Addr} {P : List Int} {n cap g : Nat} (hn : P.length = n) (hP : Nts w a P) (hg : Lst w g (-1)) (hfar : 0 < n → ∀ b off, a = some ⟨b, off, none⟩ → b ≠ g) (hmax : n ≤ 1099511627776) :
    Calls Tryd.prog 71 #[.slice a n cap, .func (.func 94) #[] #[.pointer (some ⟨g, 0, none⟩)]] w fun e w' => e = .returned (.bool (!decide (rise (-1) P))) ∧ Fr (fun b => b = g) w w' := by
  have HI := hid (tindex_any (cap := cap) hn hP hg hfar hmax)
  clear hn hP hg hfar hmax
  by_cases hq : rise (-1) P
  · have HR := hid (fun (r : Int) (h : r < 0 ↔ rise (-1) P) => show r < 0 from h.2 hq)
    rw [decide_eq_true hq]
    clear hq
    go_enter Tryd.func71, Tryd.ntmps71
    go_wp2_with fail
    refine HI.out.mono ?_
    rintro e w' ⟨r, rfl, hf, hr⟩
    have h2 : decide (0 ≤ r) = false := decide_eq_false (by have := HR.out r hr; omega)
    have HF := hid hf
    clear hf hr HI HR
    go_wp2_with fail
    go_ret
    exact ⟨rfl, HF.out⟩
  · have HR := hid (fun (r : Int) (h : r < 0 ↔ rise (-1) P) => show ¬ r < 0 from fun e => hq (h.1 e))
    rw [decide_eq_false hq]
    clear hq
    go_enter Tryd.func71, Tryd.ntmps71
    go_wp2_with fail
    refine HI.out.mono ?_
    rintro e w' ⟨r, rfl, hf, hr⟩
    have h2 : decide (0 ≤ r) = true := decide_eq_true (by have := HR.out r hr; omega)
    have HF := hid hf
    clear hf hr HI HR
    go_wp2_with fail
    go_ret
    exact ⟨rfl, HF.out⟩
end Go.Proofs.YthjjonbkfkpkmaaDoor.Tl
namespace Go.Proofs.YthjjonbkfkpkmaaDoor.Tl
open Go.RowKit Gen Fld Inf
open Crc hiding hid

/-- A tail in a box. -/
structure Tx (w : World) (g : Nat) (c : Int) (s : Nat) (a : Option Addr) (n cap : Nat) : Prop where
  row : w.heap[g]? = some (.cells #[.int .i64 c, .int .u32 (s : Int), .slice a n cap] 41 (0, 0))
set_option maxRecDepth 100000 in
theorem Tx.new (w : World) (c : Int) (s : Nat) (a : Option Addr) (n cap : Nat) : Tx (w.alloc (.cells #[.int .i64 c, .int .u32 (s : Int), .slice a n cap] 41)) w.heap.size c s a n cap := ⟨heap_alloc_new _ _⟩
set_option maxRecDepth 100000 in
theorem Tx.c0 {w : World} {g : Nat} {c : Int} {s : Nat} {a : Option Addr} {n cap : Nat} (b : Tx w g c s a n cap) : w.cell? ⟨g, 0, none⟩ = some (.int .i64 c) := row_cell b.row 0 rfl
set_option maxRecDepth 100000 in
theorem Tx.c1 {w : World} {g : Nat} {c : Int} {s : Nat} {a : Option Addr} {n cap : Nat} (b : Tx w g c s a n cap) : w.cell? ⟨g, 1, none⟩ = some (.int .u32 (s : Int)) := row_cell b.row 1 rfl
set_option maxRecDepth 100000 in
theorem Tx.c2 {w : World} {g : Nat} {c : Int} {s : Nat} {a : Option Addr} {n cap : Nat} (b : Tx w g c s a n cap) : w.cell? ⟨g, 2, none⟩ = some (.slice a n cap) := row_cell b.row 2 rfl
set_option maxRecDepth 100000 in
theorem Tx.fz {w : World} {g : Nat} {c : Int} {s : Nat} {a : Option Addr} {n cap : Nat} (b : Tx w g c s a n cap) (i : Nat) : w.frozen? ⟨g, i, none⟩ = false := row_frozen b.row i
set_option maxRecDepth 100000 in
theorem Tx.lt {w : World} {g : Nat} {c : Int} {s : Nat} {a : Option Addr} {n cap : Nat} (b : Tx w g c s a n cap) : g < w.heap.size := World.block_lt_of_cell? w _ b.c0
set_option maxRecDepth 100000 in
theorem Tx.below {w w' : World} {g : Nat} {c : Int} {s : Nat} {a : Option Addr} {n cap : Nat} (b : Tx w g c s a n cap) {B : Nat} (hb : Below B w w') (hg : g < B) : Tx w' g c s a n cap := ⟨(hb.block g hg).trans b.row⟩
set_option maxRecDepth 100000 in
theorem below_frq {B g : Nat} {w w1 w' : World} (hb : Below B w w1) (h : Fr (fun b => b = g) w1 w') (hg : B ≤ g) (hB : B ≤ w1.heap.size) : Below B w w' :=
  hb.trans ⟨h.os, h.tape, h.output, h.size, fun k hk => h.block k (Nat.lt_of_lt_of_le hk hB) (by omega)⟩
set_option maxRecDepth 100000 in
set_option maxHeartbeats 2000000 in
theorem tright_any {w : World} {a : Option Addr} {P : List Int} {n cap s : Nat} {c : Int} (hn : P.length = n) (hP : Nts w a P) (hmax : n ≤ 1099511627776) :
    Calls Tryd.prog 37 #[.agg #[.int .i64 c, .int .u32 (s : Int), .slice a n cap]] w fun e w' => e = .returned (.bool (decide (TRt c P))) ∧ Below w.heap.size w w' := by
  have HCT := hid fun (w : World) => tcount_any c w
  have hx := Tx.new w c s a n cap
  have HB0 := hid (below_new w (.cells #[.int .i64 c, .int .u32 (s : Int), .slice a n cap] 41))
  by_cases h1 : 0 ≤ c ∧ c ≤ 4294967295
  · rw [decide_eq_true h1] at HCT
    by_cases h2 : n ≤ 16777216
    · have h2i : (n : Int) ≤ 16777216 := by omega
      rw [show decide (TRt c P) = decide (rise (-1) P) from decide_eq_decide.2 ⟨fun h => h.2.2, fun h => ⟨h1, by omega, h⟩⟩]
      have HCN := hid fun (w' : World) (g : Nat) (hb : Below w.heap.size w w') (hg : Lst w' g (-1)) (hw : w.heap.size ≤ g) => tcontains_any (cap := cap) hn (hP.keep hb) hg (fun h0 b off e => by
        obtain ⟨b', off', e', hlt⟩ := hP.spot (by omega)
        rw [e] at e'; cases e'; omega) hmax
      generalize decide (rise (-1) P) = r at *
      have HS := hid fun (w' : World) (hb : Below (w.alloc (.cells #[.int .i64 c, .int .u32 (s : Int), .slice a n cap] 41)).heap.size (w.alloc (.cells #[.int .i64 c, .int .u32 (s : Int), .slice a n cap] 41)) w') => (show w'.cell? ⟨w.heap.size, 0, none⟩ = some (.int .i64 c) ∧ w'.cell? ⟨w.heap.size, 2, none⟩ = some (.slice a n cap) from ⟨(hx.below hb hx.lt).c0, (hx.below hb hx.lt).c2⟩)
      have HBD := hid (drew1 (w.alloc (.cells #[.int .i64 c, .int .u32 (s : Int), .slice a n cap] 41)))
      clear hx hP hn hmax h1 h2
      go_enter Tryd.func37, Tryd.ntmps37
      go_wp2_with fail
      change Code.wp _ _ _ _ (w.alloc (.cells #[.int .i64 c, .int .u32 (s : Int), .slice a n cap] 41))
      have hws : w.heap.size ≤ (w.alloc (.cells #[.int .i64 c, .int .u32 (s : Int), .slice a n cap] 41)).heap.size := HB0.out.size
      generalize w.alloc (.cells #[.int .i64 c, .int .u32 (s : Int), .slice a n cap] 41) = W at *
      have bd := HBD.out
      have S1 := HS.out _ bd
      have bn : ∀ o, Below W.heap.size W (W.alloc o).drew := fun o => (below_new W o).drew
      have S2 := fun o => HS.out _ (bn o)
      go_region_held3 (fun w' => w'.cell? ⟨w.heap.size, 0, none⟩ = some (.int .i64 c) ∧ w'.cell? ⟨w.heap.size, 2, none⟩ = some (.slice a n cap))
        (first | with_reducible exact S1 | with_reducible exact S2 _ | with_reducible exact S3 | go_keep)
        ((first
          | (go_at_call 70; (with_reducible refine (HCT.out _).mono ?_); rintro e w1 ⟨rfl, rfl⟩)
          | (go_at_call 72; (with_reducible refine (mk_misp _).mono ?_); rintro e w1 ⟨rfl, rfl⟩)
          | (go_at_call 71; (with_reducible refine (HCN.out _ _ (HB0.out.trans ((bn _).mono hws)) ⟨heap_alloc_new _ _⟩ hws).mono ?_); rintro e w2 ⟨rfl, hf2⟩; have b2 := below_frq (bn _) hf2 (Nat.le_refl _) (bn _).size; have S3 := HS.out _ b2)))
      all_goals
        have hfin := HB0.out.trans (b2.mono hws)
        clear b2 S1 S2 S3 hf2 bn bd
        go_wp2_with fail
        go_ret
        exact ⟨rfl, hfin⟩
    · have h2i : decide ((n : Int) ≤ 16777216) = false := decide_eq_false (by omega)
      rw [show decide (TRt c P) = false from decide_eq_false fun h => h2 (by rw [← hn]; exact h.2.1)]
      have HX := hid hx
      clear hx hP hn hmax
      go_enter Tryd.func37, Tryd.ntmps37
      go_wp2_with fail
      change Code.wp _ _ _ _ (w.alloc (.cells #[.int .i64 c, .int .u32 (s : Int), .slice a n cap] 41))
      have hws : w.heap.size ≤ (w.alloc (.cells #[.int .i64 c, .int .u32 (s : Int), .slice a n cap] 41)).heap.size := HB0.out.size
      generalize w.alloc (.cells #[.int .i64 c, .int .u32 (s : Int), .slice a n cap] 41) = W at *
      have c0 := HX.out.c0
      have c2 := HX.out.c2
      go_quiet (first | (go_at_call 70; exact Calls.quiet_of_same ((HCT.out _).mono fun _ _ ⟨a, b⟩ => ⟨a, b.symm⟩)))
      have hfin := HB0.out.trans ((drew_below W nq).mono hws)
      clear c0 c2
      go_wp2_with fail
      go_ret
      exact ⟨rfl, hfin⟩
  · rw [decide_eq_false h1] at HCT
    rw [show decide (TRt c P) = false from decide_eq_false fun h => h1 h.1]
    have HX := hid hx
    clear hx hP hn hmax
    go_enter Tryd.func37, Tryd.ntmps37
    go_wp2_with fail
    change Code.wp _ _ _ _ (w.alloc (.cells #[.int .i64 c, .int .u32 (s : Int), .slice a n cap] 41))
    have hws : w.heap.size ≤ (w.alloc (.cells #[.int .i64 c, .int .u32 (s : Int), .slice a n cap] 41)).heap.size := HB0.out.size
    generalize w.alloc (.cells #[.int .i64 c, .int .u32 (s : Int), .slice a n cap] 41) = W at *
    have c0 := HX.out.c0
    have c2 := HX.out.c2
    go_quiet (first | (go_at_call 70; exact Calls.quiet_of_same ((HCT.out _).mono fun _ _ ⟨a, b⟩ => ⟨a, b.symm⟩)))
    have hfin := HB0.out.trans ((drew_below W nq).mono hws)
    clear c0 c2
    go_wp2_with fail
    go_ret
    exact ⟨rfl, hfin⟩
end Go.Proofs.YthjjonbkfkpkmaaDoor.Tl
namespace Go.Proofs.YthjjonbkfkpkmaaDoor.Tl
open Go.RowKit Gen Fld Inf
open Crc hiding hid

end Go.Proofs.YthjjonbkfkpkmaaDoor.Tl
namespace Go.Proofs.YthjjonbkfkpkmaaDoor.Tl
open Go.RowKit Gen Fld Inf
open Crc hiding hid

/-- Places as bytes. -/
def pl : List Int → List Nat
  | [] => []
  | x :: t => le x.toNat 5 ++ pl t
set_option maxRecDepth 100000 in
theorem pl_app (A B : List Int) : pl (A ++ B) = pl A ++ pl B := by
  induction A with
  | nil => rfl
  | cons x A ih => show le x.toNat 5 ++ pl (A ++ B) = le x.toNat 5 ++ pl A ++ pl B; rw [ih, List.append_assoc]
set_option maxRecDepth 100000 in
theorem pl_len (A : List Int) : (pl A).length = 5 * A.length := by
  induction A with
  | nil => rfl
  | cons x A ih => show (le x.toNat 5 ++ pl A).length = 5 * (A.length + 1); rw [List.length_append, le_len, ih]; omega
set_option maxRecDepth 100000 in
theorem pl_lt (A : List Int) : ∀ b ∈ pl A, b < 256 := by
  induction A with
  | nil => intro b h; cases h
  | cons x A ih => exact app_lt (le_lt _ _) ih
set_option maxRecDepth 100000 in
theorem pl_take (A : List Int) (k : Nat) (h : k < A.length) : pl (A.take (k + 1)) = pl (A.take k) ++ le A[k].toNat 5 := by
  rw [List.take_add_one, List.getElem?_eq_getElem h, pl_app]
  show _ ++ (le A[k].toNat 5 ++ []) = _
  rw [List.append_nil]
/-- What stands ahead of the places, and of the sum. -/
def thd (c : Int) (s n : Nat) : List Nat := [69, 78] ++ le c.toNat 4 ++ le s 4 ++ le n 4
def tpre (c : Int) (s : Nat) (P : List Int) : List Nat := thd c s P.length ++ pl P
def tby (c : Int) (s : Nat) (P : List Int) : List Nat := smd (tpre c s P)
set_option maxRecDepth 100000 in
theorem thd_len (c : Int) (s n : Nat) : (thd c s n).length = 14 := by unfold thd; simp only [List.length_append, le_len]; rfl
set_option maxRecDepth 100000 in
theorem thd_lt (c : Int) (s n : Nat) : ∀ b ∈ thd c s n, b < 256 := app_lt (app_lt (app_lt (by decide) (le_lt _ _)) (le_lt _ _)) (le_lt _ _)
set_option maxRecDepth 100000 in
theorem tpre_len (c : Int) (s : Nat) (P : List Int) : (tpre c s P).length = 14 + 5 * P.length := by unfold tpre; rw [List.length_append, thd_len, pl_len]
set_option maxRecDepth 100000 in
theorem tpre_lt (c : Int) (s : Nat) (P : List Int) : ∀ b ∈ tpre c s P, b < 256 := app_lt (thd_lt _ _ _) (pl_lt _)
set_option maxRecDepth 100000 in
theorem tby_len (c : Int) (s : Nat) (P : List Int) : (tby c s P).length = 18 + 5 * P.length := by unfold tby; rw [smd_len, tpre_len]; omega
set_option maxRecDepth 100000 in
theorem tby_lt (c : Int) (s : Nat) (P : List Int) : ∀ b ∈ tby c s P, b < 256 := smd_lt (tpre_lt _ _ _)

set_option maxRecDepth 100000 in
theorem splice_two (Z X1 X2 : List Value) (k : Nat) (h1 : X1.length = k) (hZ : Z.length = k + X2.length) : splice (splice Z 0 X1) k X2 = X1 ++ X2 := by
  unfold splice
  rw [List.take_zero, List.nil_append, Nat.zero_add, h1, List.take_left' h1]
  rw [show List.drop (k + X2.length) (X1 ++ List.drop k Z) = [] from List.drop_eq_nil_of_le (by rw [List.length_append, List.length_drop]; omega), List.append_nil]
set_option maxRecDepth 100000 in
theorem wrap_nat (n : Nat) (h : n < 4611686018427387904) : wrap64 (n : Int) = n := by unfold wrap64; omega
set_option maxRecDepth 100000 in
/-- A list that a row of its own holds, whole. -/
theorem nl_row {w w' : World} {l : List Nat} {g : Nat} (hl : ∀ b ∈ l, b < 256) (hn : l.length ≤ maxLen) (hg : w'.heap[g]? = some (.cells (bl l).toArray 5 (0, 0))) (hb : Below w.heap.size w w') (hge : w.heap.size ≤ g) : NL w (some ⟨g, 0, none⟩) l.length l w' :=
  ⟨⟨by rw [bl_len, Nat.mul_one], .inr ⟨g, l.length, _, rfl, hge, hg, Nat.le_refl _, hn, by simp [bl_len], by rw [List.take_of_length_le (by simp [bl_len])]⟩⟩, hb, hl⟩
set_option maxRecDepth 100000 in
set_option maxHeartbeats 2000000 in
theorem tsummed_any {w : World} {g : Nat} (ht : Tab w g) {ao : Option Addr} {l : List Nat} {L cap : Nat} (hL : l.length = L) (hb : Byts w ao l) (hlen : L ≤ 274877906944) :
    Calls Tryd.prog 38 #[.pointer (some ⟨g, 0, none⟩), .slice ao L cap] w (LP w (smd l)) := by
  have HCS := hid fun (w' : World) (ht' : Tab w' g) (hb' : Byts w' ao l) => tsum_any (cap := cap) ht' hb' (by omega)
  rw [hL] at HCS
  have hcl := cs_lt hb.lt
  have u0 : IntKind.u64.wrap (cs l : Int) = cs l := u64_small _ hcl
  have HCL := hid hcl
  have hmk : ∀ w : World, (Instr.makeSlice 28 (.int .i64 ((L : Int) + 4)) (.int .i64 ((L : Int) + 4))).run Tryd.prog w = .ok (.slice (some ⟨w.heap.size, 0, none⟩) (L + 4) (L + 4)) (w.alloc (.cells (madeCells #[.int .u8 0] (L + 4)) 5)) := fun w => run_make_row' (P := Tryd.prog) 28 5 (.int .u8 0) 1 Tryd.underlying28 Tryd.info5 rfl .i64 .i64 (L + 4) (by omega) (by omega) w
  have HLT := hid hb.lt
  have HBY := hid hb
  have HT := hid ht
  have HLL := hid hL
  have HPO := hid (show ∀ e w', LP w (smd l) e w' = ∃ ao cap, e = .returned (.slice ao (smd l).length cap) ∧ NL w ao cap (smd l) w' from fun _ _ => rfl)
  have HSL := hid (show (smd l).length = L + 4 from by rw [smd_len, hL])
  have HSE := hid (show smd l = l ++ le (cs l) 4 from rfl)
  have hsum : wrap64 ((L : Int) + 4) = ((L + 4 : Nat) : Int) := by unfold wrap64; omega
  clear hb ht hL hcl
  generalize cs l = v at *
  generalize smd l = T at *
  go_enter Tryd.func38, Tryd.ntmps38
  go_wp2_with fail
  have hst := MkN.start w
  have hb0 := below_new w (.cells #[.int .i64 0, .slice none 0 0] 93)
  have HST := hid (show St w [] (w.alloc (.cells #[.int .i64 0, .slice none 0 0] 93)) from hst)
  have HY0 := hid (HBY.out.keep hb0)
  have HT0 := hid (HT.out.keep (hb0.block g HT.out.lt))
  clear hst hb0
  refine (HCS.out _ HT0.out HY0.out).mono ?_
  rintro e w' ⟨rfl, rfl⟩
  go_wp2_with fail
  refine (St.u HST.out v 4 (by have := HCL.out; omega) (uerr_zero v HCL.out) (by decide)).mono ?_
  rintro e w1 ⟨rfl, hs1⟩
  have HS1 := hid (show St w (le v 4) w1 from hs1)
  clear hs1 HST HY0 HT0
  go_wp2_with fail
  refine (St.bytes HS1.out (by rw [le_len]; decide)).mono ?_
  rintro e w2 ⟨a2, c2, rfl, hn2⟩
  rw [le_len]
  have HB2 := hid hn2.bel
  have HY2 := hid hn2.byts
  clear hn2 HS1
  have HX1 := hid (show (bl l).length = L from (bl_len _).trans HLL.out)
  have HX2 := hid (show (bl (le v 4)).length = 4 from (bl_len _).trans (le_len _ _))
  have HINF := hid (show (Tryd.prog.info? 5).map (·.size) = some 1 from by kernel_rfl)
  have HZ := hid (show ((madeCells #[Value.int .u8 0] (L + 4)).toList).length = L + 4 from by rw [Array.length_toList, size_madeCells])
  have HG0 := hid (show (w2.alloc (.cells (madeCells #[.int .u8 0] (L + 4)) 5)).heap[w2.heap.size]? = some (.cells ((madeCells #[.int .u8 0] (L + 4)).toList).toArray 5 (0, 0)) from by rw [Array.toArray_toList]; exact heap_alloc_new w2 _)
  have HBN := hid (below_new w2 (.cells (madeCells #[.int .u8 0] (L + 4)) 5))
  have HSRC := hid (((HBY.out.keep HB2.out).keep HBN.out).cells)
  have hA : ao = none → L = 0 := fun e => by
    have h := HBY.out.none_len e
    have h2 := HLL.out
    rw [h] at h2
    exact h2.symm
  have HA := hid hA
  have HNN := hid (fun e : a2 = none => HY2.out.none_len e)
  have hge := HB2.out.size
  clear hA
  go_wp2_with (refine wpList_copy_splice rfl (.tmp 29) (.tmp 30) 28 28 rfl 5 Tryd.underlying28 HINF.out (some ⟨w2.heap.size, 0, none⟩) ao (L + 4) (L + 4) L cap rfl rfl w2.heap.size 0 _ 5 HG0.out (bl l) (by rw [HX1.out]; exact (Nat.min_eq_left (by omega)).symm) (fun h0 => ⟨rfl, by
      cases hao : ao with
      | none => rw [HX1.out, HA.out hao] at h0; exact absurd h0 (by decide)
      | some ad => exact ⟨ad, rfl, fun j u hj => HSRC.out ad hao j u hj⟩⟩) (by rw [HX1.out, HZ.out]; omega) (bl_one _) w2.heap.size w2 HBN.out (Nat.le_refl _) ?_)
  intro w3 hr3 hb3
  rw [HX1.out]
  have HB3 := hid hb3
  have HS2 := hid ((HY2.out.keep hb3).cells)
  have hln : (splice (madeCells #[Value.int .u8 0] (L + 4)).toList 0 (bl l)).length = L + 4 := by rw [length_splice _ _ _ (by rw [HX1.out, HZ.out]; omega), HZ.out]
  have HLN := hid hln
  have HA2 := hid (fun e : a2 = none => by have := HNN.out e; have h4 := le_len v 4; rw [this] at h4; exact absurd h4 (by decide) : a2 = none → False)
  clear hb3 hln
  have hL2 : ¬ ((L : Int) + 4 < (L : Int)) := by omega
  have hL3 : ¬ L + 4 = L := by omega
  have hL4 : L + 4 - L = 4 := by omega
  go_wp2_with (refine wpList_copy_splice rfl (.tmp 32) (.tmp 33) 28 28 rfl 5 Tryd.underlying28 HINF.out (some ⟨w2.heap.size, L, none⟩) a2 4 4 4 c2 rfl rfl w2.heap.size L _ 5 hr3.out (bl (le v 4)) (by rw [HX2.out]; rfl) (fun h0 => ⟨rfl, by
      cases hao : a2 with
      | none => exact (HA2.out hao).elim
      | some ad => exact ⟨ad, rfl, fun j u hj => HS2.out ad hao j u hj⟩⟩) (by rw [HX2.out, HLN.out]; exact Nat.le_refl _) (bl_one _) w2.heap.size w2 HB3.out (Nat.le_refl _) ?_)
  intro w4 hr4 hb4
  have hrow := hr4.out
  rw [splice_two _ _ _ L HX1.out (by rw [HZ.out, HX2.out]), ← bl_app, ← HSE.out] at hrow
  have HNL := hid (nl_row (w := w) (l := T) (by rw [HSE.out]; exact app_lt HLT.out (le_lt _ _)) (by rw [HSL.out]; unfold maxLen; omega) hrow (HB2.out.trans (hb4.mono hge)) hge)
  rw [HSL.out] at HNL
  clear hr3 hr4 hb4 hrow HS2 HLN HB3 HG0 HSRC HBN HX1 HX2 HZ
  go_wp2_with fail
  go_ret
  rw [HPO.out]
  exact ⟨_, _, by rw [HSL.out]; rfl, HNL.out⟩
end Go.Proofs.YthjjonbkfkpkmaaDoor.Tl
