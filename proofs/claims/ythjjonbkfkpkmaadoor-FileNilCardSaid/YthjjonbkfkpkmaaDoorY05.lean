/- The document's own fields: the bytes of a number, of a signed one, of a text, or why there are none. Conditions: texts of fewer than 2^38 bytes. -/
import Derived.Test.YthjjonbkfkpkmaaDoorY03
import Derived.Deep.OwnRows
import Derived.Test.YthjjonbkfkpkmaaDoorProg
import Derived.Test.YthjjonbkfkpkmaaDoorY01
import Derived.WalkKit
import Derived.WalkLawsBesides
import Derived.WalkSpells
import Derived.Outline
import Derived.Handy
import Derived.Deep.LoopGhost
import Derived.Deep.RegionHeld3
import Derived.Deep.RegionLaw
import Derived.Deep.DeepCutAuto
import Derived.Deep.QuietTactic
import Derived.BigQuiet
import Derived.Deep.RegionWith
import Derived.Test.YthjjonbkfkpkmaaDoorY04
import Derived.WalkMore
import Derived.Laws.ResultCell
namespace Go.Proofs.YthjjonbkfkpkmaaDoor.Fld
open Go.RowKit Gen

set_option maxRecDepth 100000 in
theorem le_at (v n i : Nat) (h : i < n) : (le v n)[i]? = some (v / 2 ^ (8 * i) % 256) := by
  induction n with
  | zero => omega
  | succ n ih =>
    rw [le]
    by_cases hi : i < n
    · rw [List.getElem?_append_left (by rw [le_len]; exact hi)]; exact ih hi
    · obtain rfl : i = n := by omega
      rw [List.getElem?_append_right (by rw [le_len]; omega), le_len, Nat.sub_self]; rfl

/-- 256 to a number up to 7. -/
def pw7 (n : Nat) : Nat := 256 ^ (min n 7)
/-- What comes with an error, or without one. -/
def ifOk (e : Nat) (m : List Nat) : List Nat := if e = 0 then m else []
/-- What a call of the document's leaves: bytes of its own, and an error. -/
def RefP (w : World) (e : Nat) (m : List Nat) (x : Ending) (w' : World) : Prop :=
  ∃ ao cap, x = .returned (.tuple #[.slice ao m.length cap, .int .i64 (e : Int)]) ∧ w'.ownsRow w.heap.size 5 1 (.slice ao m.length cap) m.length (bl m) ∧ Below w.heap.size w w'
set_option maxRecDepth 100000 in
theorem refp_none (w : World) (e : Nat) : RefP w e [] (.returned (.tuple #[.slice none 0 0, .int .i64 (e : Int)])) w := ⟨none, 0, rfl, World.ownsRow_nil _ _ _ _, Below.refl _ _⟩

set_option maxRecDepth 100000 in
theorem pow256 (n : Nat) : 256 ^ n = 2 ^ (8 * n) := by rw [Nat.pow_mul]

end Go.Proofs.YthjjonbkfkpkmaaDoor.Fld
namespace Go.Proofs.YthjjonbkfkpkmaaDoor.Pcm
open Go.RowKit Gen

set_option maxRecDepth 100000 in
theorem isfrom (x lo hi : Int) (w : World) : Calls Tryd.prog 81 #[.int .i64 x, .int .i64 lo, .int .i64 hi] w fun e w' => e = .returned (.bool (decide (lo ≤ x ∧ x ≤ hi))) ∧ w = w' := by
  by_cases h0 : lo ≤ x
  · by_cases h1 : x ≤ hi
    · have e : decide (lo ≤ x ∧ x ≤ hi) = true := decide_eq_true ⟨h0, h1⟩
      rw [e]
      clear e
      go_enter Tryd.func81, Tryd.ntmps81
      go_wp2_with fail
      go_ret
      exact ⟨rfl, rfl⟩
    · have e : decide (lo ≤ x ∧ x ≤ hi) = false := decide_eq_false fun h => h1 h.2
      rw [e]
      clear e
      go_enter Tryd.func81, Tryd.ntmps81
      go_wp2_with fail
      go_ret
      exact ⟨rfl, rfl⟩
  · have e : decide (lo ≤ x ∧ x ≤ hi) = false := decide_eq_false fun h => h0 h.1
    rw [e]
    clear e
    go_enter Tryd.func81, Tryd.ntmps81
    go_wp2_with fail
    go_ret
    exact ⟨rfl, rfl⟩

/-- A format. -/
structure Fmt where
  ch : Int
  bits : Int
  rate : Int
def Fmt.v (f : Fmt) : Value := .agg #[.int .i64 f.ch, .int .i64 f.bits, .int .i64 f.rate]
def Fmt.right (f : Fmt) : Prop := (1 ≤ f.ch ∧ f.ch ≤ 8) ∧ (8 ≤ f.bits ∧ f.bits ≤ 24) ∧ (1 ≤ f.rate ∧ f.rate ≤ 1048575)
instance (f : Fmt) : Decidable f.right := by unfold Fmt.right; exact inferInstance

set_option maxRecDepth 100000 in
theorem right_any (f : Fmt) (w : World) : Calls Tryd.prog 53 #[f.v] w fun e w' => e = .returned (.bool (decide f.right)) ∧ Below w.heap.size w w' := by
  obtain ⟨ch, bits, rate⟩ := f
  have hb : Below w.heap.size w (w.alloc (.cells #[.int .i64 ch, .int .i64 bits, .int .i64 rate] 23)) := (Below.refl _ _).alloc (Nat.le_refl _) _
  have HB := hid hb
  clear hb
  show Calls Tryd.prog 53 #[.agg #[.int .i64 ch, .int .i64 bits, .int .i64 rate]] w _
  by_cases h0 : 1 ≤ ch ∧ ch ≤ 8
  · have e0 : decide (1 ≤ ch ∧ ch ≤ 8) = true := decide_eq_true h0
    by_cases h1 : 8 ≤ bits ∧ bits ≤ 24
    · have e1 : decide (8 ≤ bits ∧ bits ≤ 24) = true := decide_eq_true h1
      by_cases h2 : 1 ≤ rate ∧ rate ≤ 1048575
      · have e2 : decide (1 ≤ rate ∧ rate ≤ 1048575) = true := decide_eq_true h2
        have e : decide (Fmt.right ⟨ch, bits, rate⟩) = true := decide_eq_true ⟨h0, h1, h2⟩
        rw [e]
        clear e
        go_enter Tryd.func53, Tryd.ntmps53
        go_wp2_with fail
        refine (isfrom _ _ _ _).mono ?_
        rintro e w' ⟨rfl, rfl⟩
        rw [e0]
        go_wp2_with fail
        refine (isfrom _ _ _ _).mono ?_
        rintro e w' ⟨rfl, rfl⟩
        rw [e1]
        go_wp2_with fail
        refine (isfrom _ _ _ _).mono ?_
        rintro e w' ⟨rfl, rfl⟩
        rw [e2]
        go_wp2_with fail
        go_ret
        exact ⟨rfl, HB.out⟩
      · have e2 : decide (1 ≤ rate ∧ rate ≤ 1048575) = false := decide_eq_false h2
        have e : decide (Fmt.right ⟨ch, bits, rate⟩) = false := decide_eq_false fun h => h2 h.2.2
        rw [e]
        clear e
        go_enter Tryd.func53, Tryd.ntmps53
        go_wp2_with fail
        refine (isfrom _ _ _ _).mono ?_
        rintro e w' ⟨rfl, rfl⟩
        rw [e0]
        go_wp2_with fail
        refine (isfrom _ _ _ _).mono ?_
        rintro e w' ⟨rfl, rfl⟩
        rw [e1]
        go_wp2_with fail
        refine (isfrom _ _ _ _).mono ?_
        rintro e w' ⟨rfl, rfl⟩
        rw [e2]
        go_wp2_with fail
        go_ret
        exact ⟨rfl, HB.out⟩
    · have e1 : decide (8 ≤ bits ∧ bits ≤ 24) = false := decide_eq_false h1
      have e : decide (Fmt.right ⟨ch, bits, rate⟩) = false := decide_eq_false fun h => h1 h.2.1
      rw [e]
      clear e
      go_enter Tryd.func53, Tryd.ntmps53
      go_wp2_with fail
      refine (isfrom _ _ _ _).mono ?_
      rintro e w' ⟨rfl, rfl⟩
      rw [e0]
      go_wp2_with fail
      refine (isfrom _ _ _ _).mono ?_
      rintro e w' ⟨rfl, rfl⟩
      rw [e1]
      go_wp2_with fail
      go_ret
      exact ⟨rfl, HB.out⟩
  · have e0 : decide (1 ≤ ch ∧ ch ≤ 8) = false := decide_eq_false h0
    have e : decide (Fmt.right ⟨ch, bits, rate⟩) = false := decide_eq_false fun h => h0 h.1
    rw [e]
    clear e
    go_enter Tryd.func53, Tryd.ntmps53
    go_wp2_with fail
    refine (isfrom _ _ _ _).mono ?_
    rintro e w' ⟨rfl, rfl⟩
    rw [e0]
    go_wp2_with fail
    go_ret
    exact ⟨rfl, HB.out⟩
end Go.Proofs.YthjjonbkfkpkmaaDoor.Pcm
namespace Go.Proofs.YthjjonbkfkpkmaaDoor.Inf
open Go.RowKit Gen Fld
open Crc hiding hid

set_option maxRecDepth 100000 in
theorem below_new (w : World) (o : Obj) : Below w.heap.size w (w.alloc o) := (Below.refl _ _).alloc (Nat.le_refl _) _
/-- The sum of bytes. -/
def cs (l : List Nat) : Nat := sm (fun i => l.getD i 0) l.length 0
set_option maxRecDepth 100000 in
theorem getD_lt {l : List Nat} (h : ∀ b ∈ l, b < 256) (i : Nat) : l.getD i 0 < 256 := by
  by_cases hi : i < l.length
  · rw [List.getD_eq_getElem?_getD, List.getElem?_eq_getElem hi]; exact h _ (List.getElem_mem hi)
  · rw [List.getD_eq_getElem?_getD, List.getElem?_eq_none (by omega)]; decide
set_option maxRecDepth 100000 in
theorem cs_lt {l : List Nat} (h : ∀ b ∈ l, b < 256) : cs l < 4294967296 := sm_lt (getD_lt h) _ _ (by decide)
set_option maxRecDepth 100000 in
theorem byts_f {w : World} {a : Option Addr} {l : List Nat} (h : Byts w a l) : Bytf w a l.length (fun i => l.getD i 0) :=
  ⟨getD_lt h.lt, fun j hj => by
    obtain ⟨b, off, e, hc⟩ := h.at_ j (l[j]) (List.getElem?_eq_getElem hj)
    refine ⟨b, off, e, ?_⟩
    rw [hc, List.getD_eq_getElem?_getD, List.getElem?_eq_getElem hj]; rfl⟩
set_option maxRecDepth 100000 in
theorem tsum_any {w : World} {g : Nat} (h : Tab w g) {a : Option Addr} {l : List Nat} {cap : Nat} (hb : Byts w a l) (hl : l.length ≤ 1099511627776) :
    Calls Tryd.prog 31 #[.pointer (some ⟨g, 0, none⟩), .slice a l.length cap] w fun e w' => e = .returned (.int .u32 (cs l : Int)) ∧ w = w' := sum_any h (byts_f hb) hl
set_option maxRecDepth 100000 in
theorem alloc2_at (w : World) (o1 o2 : Obj) : ((w.alloc o1).alloc o2).heap[w.heap.size + 1]? = some o2 := by
  rw [← Deep.nblk_alloc w o1]
  exact heap_alloc_new _ _
/-- Bytes and their sum. -/
def smd (l : List Nat) : List Nat := l ++ le (cs l) 4
set_option maxRecDepth 100000 in
theorem smd_len (l : List Nat) : (smd l).length = l.length + 4 := by unfold smd; rw [List.length_append, le_len]
set_option maxRecDepth 100000 in
theorem smd_lt {l : List Nat} (h : ∀ b ∈ l, b < 256) : ∀ b ∈ smd l, b < 256 := by
  intro b hb
  rcases List.mem_append.1 hb with hb | hb
  · exact h b hb
  · exact le_lt _ _ b hb
set_option maxRecDepth 100000 in
theorem uerr_zero (v : Nat) (h : v < 4294967296) : uErr v 4 = 0 := by
  unfold uErr
  rw [if_neg (by omega), if_neg]
  have : (2 : Nat) ^ (8 * (4 : Int).toNat) = 4294967296 := by decide
  omega
set_option maxRecDepth 100000 in
theorem own_byts {w : World} {B : Nat} {ao : Option Addr} {n cap : Nat} {l : List Nat} (h : w.ownsRow B 5 1 (.slice ao n cap) n (bl l)) (hl : ∀ b ∈ l, b < 256) : Byts w ao l := Byts.of_row hl h
set_option maxRecDepth 100000 in
theorem own_nil {w : World} {B : Nat} {ao : Option Addr} {n cap : Nat} {l : List Nat} (h : w.ownsRow B 5 1 (.slice ao n cap) n (bl l)) (hn : l.length = n) : ao = none → l.length = 0 ∧ cap = 0 := fun e => by
  rcases ownsRow_at h with ⟨_, h1, h2, _⟩ | ⟨g, h1⟩
  · exact ⟨hn.trans h1, h2⟩
  · rw [e] at h1; cases h1
set_option maxRecDepth 100000 in
theorem own_mono {w : World} {B B' : Nat} {v : Value} {n : Nat} {xs : List Value} (h : w.ownsRow B 5 1 v n xs) (hB : B' ≤ B) : w.ownsRow B' 5 1 v n xs :=
  ⟨h.1, h.2.imp id fun ⟨g, cap, cur, h1, h2, h3⟩ => ⟨g, cap, cur, h1, Nat.le_trans hB h2, h3⟩⟩
/-- A list of a call's own. -/
structure NL (w : World) (ao : Option Addr) (cap : Nat) (l : List Nat) (w' : World) : Prop where
  own : w'.ownsRow w.heap.size 5 1 (.slice ao l.length cap) l.length (bl l)
  bel : Below w.heap.size w w'
  lt : ∀ b ∈ l, b < 256
set_option maxRecDepth 100000 in
theorem NL.byts {w w' : World} {ao : Option Addr} {cap : Nat} {l : List Nat} (h : NL w ao cap l w') : Byts w' ao l := Byts.of_row h.lt h.own
set_option maxRecDepth 100000 in
theorem NL.nil {w w' : World} {ao : Option Addr} {cap : Nat} {l : List Nat} (h : NL w ao cap l w') : ao = none → l.length = 0 ∧ cap = 0 := own_nil h.own rfl
def PutP (w : World) (x : Int) (l : List Nat) (e : Ending) (w' : World) : Prop := ∃ ao cap, e = .returned (.tuple #[.slice ao l.length cap, .int .i64 x]) ∧ NL w ao cap l w'
set_option maxRecDepth 100000 in
theorem putp_none {w w' : World} (x : Int) (h : Below w.heap.size w w') : PutP w x [] (.returned (.tuple #[.slice none 0 0, .int .i64 x])) w' := ⟨none, 0, rfl, World.ownsRow_nil _ _ _ _, h, fun _ h => by cases h⟩
set_option maxRecDepth 100000 in
theorem uerr_one (v : Nat) (h : v < 256) : uErr v 1 = 0 := by
  unfold uErr
  rw [if_neg (by omega), if_neg]
  have : (2 : Nat) ^ (8 * (1 : Int).toNat) = 256 := by decide
  omega
set_option maxRecDepth 100000 in
theorem put_z (l m : List Nat) : put (0, l) 0 m = (0, l ++ m) := put_zero 0 l m rfl
/-- The maker, behind so many fields. -/
def St (w1 : World) (l : List Nat) (wr : World) : Prop := MkN w1 (0, l) wr
set_option maxRecDepth 100000 in
theorem St.u {w1 wr : World} {l : List Nat} (h : St w1 l wr) (v n : Nat) (hv : v < 18446744073709551616) (he : uErr v n = 0) (hl : l.length ≤ 1000) :
    Calls Tryd.prog 29 #[.pointer (some ⟨w1.heap.size, 0, none⟩), .int .u64 (v : Int), .int .i64 (n : Int)] wr fun e w' => e = .returned (.tuple #[]) ∧ St w1 (l ++ le v n) w' := by
  obtain ⟨ao, cap, hm, hb⟩ := h
  refine (u_any hm hb.size v n hv (by show l.length ≤ _; omega)).mono ?_
  rintro e w' ⟨rfl, hA⟩
  refine ⟨rfl, ?_⟩
  rw [he, put_z] at hA
  exact MkN.next (s := (0, l)) hm hb hA
set_option maxRecDepth 100000 in
theorem St.raw {w1 wr : World} {l : List Nat} (h : St w1 l wr) {a : Option Addr} {m : List Nat} {c n : Nat} (hn : m.length = n) (hb : Byts wr a m) (ha : a = none → m.length = 0 ∧ c = 0) (hl : l.length + m.length ≤ 1000) :
    Calls Tryd.prog 28 #[.pointer (some ⟨w1.heap.size, 0, none⟩), .slice a n c] wr fun e w' => e = .returned (.tuple #[]) ∧ St w1 (l ++ m) w' := by
  subst hn
  obtain ⟨ao, cap, hm, hB⟩ := h
  refine (raw_any hm hb ha hB.size (by show l.length + m.length ≤ _; omega)).mono ?_
  rintro e w' ⟨rfl, hA⟩
  refine ⟨rfl, ?_⟩
  rw [put_z] at hA
  exact MkN.next (s := (0, l)) hm hB hA
set_option maxRecDepth 100000 in
theorem St.bytes {w1 wr : World} {l : List Nat} (h : St w1 l wr) (hl : l.length ≤ 1000) :
    Calls Tryd.prog 30 #[.pointer (some ⟨w1.heap.size, 0, none⟩)] wr fun e w' => ∃ ao cap, e = .returned (.tuple #[.slice ao l.length cap, .int .i64 0]) ∧ NL w1 ao cap l w' := by
  obtain ⟨ao, cap, hm, hB⟩ := h
  have hlt := hm.lt
  refine (mbytes_ok hm (by show l.length ≤ _; omega)).mono ?_
  rintro e w' ⟨ao1, cap1, rfl, ho, hb⟩
  exact ⟨ao1, cap1, rfl, own_mono ho hB.size, hB.trans (hb.mono hB.size), hlt⟩
set_option maxRecDepth 100000 in
theorem St.below {w1 wr w' : World} {l : List Nat} (h : St w1 l wr) (hb : Below wr.heap.size wr w') : St w1 l w' := by
  obtain ⟨ao, cap, hm, hB⟩ := h
  exact ⟨ao, cap, hm.below hb, hB.trans (hb.mono hB.size)⟩
end Go.Proofs.YthjjonbkfkpkmaaDoor.Inf
namespace Go.Proofs.YthjjonbkfkpkmaaDoor.Inf
open Go.RowKit Gen Fld Pcm
open Crc hiding hid

/-- Info. -/
structure If where
  k : Int
  f : Fmt
  bk : Int
  sh : Int
def ivl (i : If) : Array Value := #[.int .i64 i.k, .int .i64 i.f.ch, .int .i64 i.f.bits, .int .i64 i.f.rate, .int .i64 i.bk, .int .i64 i.sh]
def iv (i : If) : Value := .agg (ivl i)
/-- Info of a kind is right. -/
def Kd (i : If) : Prop := i.k = 1 ∨ i.k = 2 ∨ i.k = 3
def Bk (i : If) : Prop := 256 ≤ i.bk ∧ i.bk ≤ 65536
def Sh (i : If) : Prop := 0 ≤ i.sh ∧ i.sh ≤ (if i.k = 3 then 0 else 3)
def Rt (i : If) : Prop := Kd i ∧ i.f.right ∧ Bk i ∧ Sh i
instance (i : If) : Decidable (Kd i) := by unfold Kd; exact inferInstance
instance (i : If) : Decidable (Bk i) := by unfold Bk; exact inferInstance
instance (i : If) : Decidable (Sh i) := by unfold Sh; exact inferInstance
instance (i : If) : Decidable (Rt i) := by unfold Rt; exact inferInstance

/-- Info in a box. -/
structure Bx (w : World) (g : Nat) (i : If) : Prop where
  row : w.heap[g]? = some (.cells (ivl i) 25 (0, 0))
set_option maxRecDepth 100000 in
theorem Bx.rowIs {w : World} {g : Nat} {i : If} (b : Bx w g i) : w.rowIs g 25 6 (fun j => (ivl i).getD j undef) :=
  ⟨_, b.row, rfl, fun j hj => by rcases j with _ | _ | _ | _ | _ | _ | j <;> first | rfl | omega⟩
set_option maxRecDepth 100000 in
theorem Bx.new (w : World) (i : If) : Bx (w.alloc (.cells (ivl i) 25)) w.heap.size i := ⟨heap_alloc_new _ _⟩
set_option maxRecDepth 100000 in
theorem Bx.c0 {w : World} {g : Nat} {i : If} (b : Bx w g i) : w.cell? ⟨g, 0, none⟩ = some (.int .i64 i.k) := b.rowIs.cell (i := 0) (by decide)
set_option maxRecDepth 100000 in
theorem Bx.c1 {w : World} {g : Nat} {i : If} (b : Bx w g i) : w.cell? ⟨g, 1, none⟩ = some (.int .i64 i.f.ch) := b.rowIs.cell (i := 1) (by decide)
set_option maxRecDepth 100000 in
theorem Bx.c2 {w : World} {g : Nat} {i : If} (b : Bx w g i) : w.cell? ⟨g, 2, none⟩ = some (.int .i64 i.f.bits) := b.rowIs.cell (i := 2) (by decide)
set_option maxRecDepth 100000 in
theorem Bx.c3 {w : World} {g : Nat} {i : If} (b : Bx w g i) : w.cell? ⟨g, 3, none⟩ = some (.int .i64 i.f.rate) := b.rowIs.cell (i := 3) (by decide)
set_option maxRecDepth 100000 in
theorem Bx.c4 {w : World} {g : Nat} {i : If} (b : Bx w g i) : w.cell? ⟨g, 4, none⟩ = some (.int .i64 i.bk) := b.rowIs.cell (i := 4) (by decide)
set_option maxRecDepth 100000 in
theorem Bx.c5 {w : World} {g : Nat} {i : If} (b : Bx w g i) : w.cell? ⟨g, 5, none⟩ = some (.int .i64 i.sh) := b.rowIs.cell (i := 5) (by decide)
set_option maxRecDepth 100000 in
theorem Bx.fz {w : World} {g : Nat} {i : If} (b : Bx w g i) (j : Nat) : w.frozen? ⟨g, j, none⟩ = false := b.rowIs.frozen j
set_option maxRecDepth 100000 in
theorem Bx.lt {w : World} {g : Nat} {i : If} (b : Bx w g i) : g < w.heap.size := World.block_lt_of_cell? w _ b.c0
set_option maxRecDepth 100000 in
theorem Bx.below {w w' : World} {g : Nat} {i : If} (b : Bx w g i) {B : Nat} (hb : Below B w w') (hg : g < B) : Bx w' g i := ⟨(hb.block g hg).trans b.row⟩

set_option maxRecDepth 100000 in
theorem from_any (x lo hi : Int) (w : World) : Calls Tryd.prog 55 #[.int .i64 x, .int .i64 lo, .int .i64 hi] w fun e w' => e = .returned (.bool (decide (lo ≤ x ∧ x ≤ hi))) ∧ w = w' := by
  by_cases h0 : lo ≤ x
  · by_cases h1 : x ≤ hi
    · have e : decide (lo ≤ x ∧ x ≤ hi) = true := decide_eq_true ⟨h0, h1⟩
      rw [e]
      clear e
      go_enter Tryd.func55, Tryd.ntmps55
      go_wp2_with fail
      go_ret
      exact ⟨rfl, rfl⟩
    · have e : decide (lo ≤ x ∧ x ≤ hi) = false := decide_eq_false fun h => h1 h.2
      rw [e]
      clear e
      go_enter Tryd.func55, Tryd.ntmps55
      go_wp2_with fail
      go_ret
      exact ⟨rfl, rfl⟩
  · have e : decide (lo ≤ x ∧ x ≤ hi) = false := decide_eq_false fun h => h0 h.1
    rw [e]
    clear e
    go_enter Tryd.func55, Tryd.ntmps55
    go_wp2_with fail
    go_ret
    exact ⟨rfl, rfl⟩
set_option maxRecDepth 100000 in
theorem block_any (x : Int) (w : World) : Calls Tryd.prog 54 #[.int .i64 x] w fun e w' => e = .returned (.bool (decide (256 ≤ x ∧ x ≤ 65536))) ∧ w = w' := by
  have HF := hid fun (w : World) => from_any x 256 65536 w
  generalize decide (256 ≤ x ∧ x ≤ 65536) = b at *
  go_enter Tryd.func54, Tryd.ntmps54
  go_wp2_with fail
  refine (HF.out _).mono ?_
  rintro e w' ⟨rfl, rfl⟩
  go_wp2_with fail
  go_ret
  exact ⟨rfl, rfl⟩
def mx (k : Int) : Int := if k = 3 then 0 else 3
set_option maxRecDepth 100000 in
theorem rt_and (k ch bits rate bk sh : Int) (hk : k = 1 ∨ k = 2 ∨ k = 3) : decide (Rt ⟨k, ⟨ch, bits, rate⟩, bk, sh⟩) = (decide (Fmt.right ⟨ch, bits, rate⟩) && (decide (256 ≤ bk ∧ bk ≤ 65536) && decide (0 ≤ sh ∧ sh ≤ mx k))) := by
  rw [Bool.eq_iff_iff]
  simp only [decide_eq_true_eq, Bool.and_eq_true]
  exact ⟨fun h => h.2, fun h => ⟨hk, h⟩⟩
set_option maxRecDepth 100000 in
set_option maxHeartbeats 2000000 in
theorem right_any (i : If) (w : World) : Calls Tryd.prog 27 #[iv i] w fun e w' => e = .returned (.bool (decide (Rt i))) ∧ Below w.heap.size w w' := by
  obtain ⟨k, ⟨ch, bits, rate⟩, bk, sh⟩ := i
  have HF := hid fun (w : World) => Pcm.right_any ⟨ch, bits, rate⟩ w
  have HB := hid fun (w : World) => block_any bk w
  have HX := hid (Bx.new w ⟨k, ⟨ch, bits, rate⟩, bk, sh⟩)
  have HN := hid (below_new w (.cells (ivl ⟨k, ⟨ch, bits, rate⟩, bk, sh⟩) 25))
  have hk : k = 1 ∨ k = 2 ∨ k = 3 ∨ (k ≠ 1 ∧ k ≠ 2 ∧ k ≠ 3) := by omega
  change Calls Tryd.prog 27 #[.agg #[.int .i64 k, .int .i64 ch, .int .i64 bits, .int .i64 rate, .int .i64 bk, .int .i64 sh]] w _
  rcases hk with rfl | rfl | rfl | ⟨h1, h2, h3⟩
  rotate_left 3
  · have k1 : (k == 1) = false := by simpa using h1
    have k2 : (k == 2) = false := by simpa using h2
    have k3 : (k == 3) = false := by simpa using h3
    rw [show decide (Rt ⟨k, ⟨ch, bits, rate⟩, bk, sh⟩) = false from decide_eq_false fun h => by rcases h.1 with h | h | h <;> first | exact h1 h | exact h2 h | exact h3 h]
    go_enter Tryd.func27, Tryd.ntmps27
    go_wp2_with fail
    go_ret
    exact ⟨rfl, HN.out⟩
  · rw [rt_and _ _ _ _ _ _ (by decide)]
    have HS := hid fun (w : World) => from_any sh 0 3 w
    have HQ := hid (show decide (0 ≤ sh ∧ sh ≤ mx 1) = decide (0 ≤ sh ∧ sh ≤ 3) from rfl)
    rw [HQ.out]
    generalize decide (Fmt.right ⟨ch, bits, rate⟩) = b1 at *
    generalize decide (256 ≤ bk ∧ bk ≤ 65536) = b2 at *
    generalize decide (0 ≤ sh ∧ sh ≤ 3) = b3 at *
    clear HQ
    cases b1
    · go_enter Tryd.func27, Tryd.ntmps27
      go_wp2_with fail
      refine (HF.out _).mono ?_
      rintro e w' ⟨rfl, hb⟩
      have hfin := HN.out.trans (hb.mono HN.out.size)
      clear hb
      go_wp2_with fail
      go_ret
      exact ⟨rfl, hfin⟩
    · cases b2
      · go_enter Tryd.func27, Tryd.ntmps27
        go_wp2_with fail
        refine (HF.out _).mono ?_
        rintro e w' ⟨rfl, hb⟩
        have hfin := HN.out.trans (hb.mono HN.out.size)
        have hx := HX.out.below hb HX.out.lt
        have c4 := hx.c4; have c5 := hx.c5
        simp only [] at c4 c5
        clear hb hx
        go_wp2_with fail
        refine (HB.out _).mono ?_
        rintro e w' ⟨rfl, rfl⟩
        go_wp2_with fail
        go_ret
        exact ⟨rfl, hfin⟩
      · go_enter Tryd.func27, Tryd.ntmps27
        go_wp2_with fail
        refine (HF.out _).mono ?_
        rintro e w' ⟨rfl, hb⟩
        have hfin := HN.out.trans (hb.mono HN.out.size)
        have hx := HX.out.below hb HX.out.lt
        have c4 := hx.c4; have c5 := hx.c5
        simp only [] at c4 c5
        clear hb hx
        go_wp2_with fail
        refine (HB.out _).mono ?_
        rintro e w' ⟨rfl, rfl⟩
        go_wp2_with fail
        refine (HS.out _).mono ?_
        rintro e w' ⟨rfl, rfl⟩
        go_wp2_with fail
        go_ret
        exact ⟨rfl, hfin⟩
  · rw [rt_and _ _ _ _ _ _ (by decide)]
    have HS := hid fun (w : World) => from_any sh 0 3 w
    have HQ := hid (show decide (0 ≤ sh ∧ sh ≤ mx 2) = decide (0 ≤ sh ∧ sh ≤ 3) from rfl)
    rw [HQ.out]
    generalize decide (Fmt.right ⟨ch, bits, rate⟩) = b1 at *
    generalize decide (256 ≤ bk ∧ bk ≤ 65536) = b2 at *
    generalize decide (0 ≤ sh ∧ sh ≤ 3) = b3 at *
    clear HQ
    cases b1
    · go_enter Tryd.func27, Tryd.ntmps27
      go_wp2_with fail
      refine (HF.out _).mono ?_
      rintro e w' ⟨rfl, hb⟩
      have hfin := HN.out.trans (hb.mono HN.out.size)
      clear hb
      go_wp2_with fail
      go_ret
      exact ⟨rfl, hfin⟩
    · cases b2
      · go_enter Tryd.func27, Tryd.ntmps27
        go_wp2_with fail
        refine (HF.out _).mono ?_
        rintro e w' ⟨rfl, hb⟩
        have hfin := HN.out.trans (hb.mono HN.out.size)
        have hx := HX.out.below hb HX.out.lt
        have c4 := hx.c4; have c5 := hx.c5
        simp only [] at c4 c5
        clear hb hx
        go_wp2_with fail
        refine (HB.out _).mono ?_
        rintro e w' ⟨rfl, rfl⟩
        go_wp2_with fail
        go_ret
        exact ⟨rfl, hfin⟩
      · go_enter Tryd.func27, Tryd.ntmps27
        go_wp2_with fail
        refine (HF.out _).mono ?_
        rintro e w' ⟨rfl, hb⟩
        have hfin := HN.out.trans (hb.mono HN.out.size)
        have hx := HX.out.below hb HX.out.lt
        have c4 := hx.c4; have c5 := hx.c5
        simp only [] at c4 c5
        clear hb hx
        go_wp2_with fail
        refine (HB.out _).mono ?_
        rintro e w' ⟨rfl, rfl⟩
        go_wp2_with fail
        refine (HS.out _).mono ?_
        rintro e w' ⟨rfl, rfl⟩
        go_wp2_with fail
        go_ret
        exact ⟨rfl, hfin⟩
  · rw [rt_and _ _ _ _ _ _ (by decide)]
    have HS := hid fun (w : World) => from_any sh 0 0 w
    have HQ := hid (show decide (0 ≤ sh ∧ sh ≤ mx 3) = decide (0 ≤ sh ∧ sh ≤ 0) from rfl)
    rw [HQ.out]
    generalize decide (Fmt.right ⟨ch, bits, rate⟩) = b1 at *
    generalize decide (256 ≤ bk ∧ bk ≤ 65536) = b2 at *
    generalize decide (0 ≤ sh ∧ sh ≤ 0) = b3 at *
    clear HQ
    cases b1
    · go_enter Tryd.func27, Tryd.ntmps27
      go_wp2_with fail
      refine (HF.out _).mono ?_
      rintro e w' ⟨rfl, hb⟩
      have hfin := HN.out.trans (hb.mono HN.out.size)
      clear hb
      go_wp2_with fail
      go_ret
      exact ⟨rfl, hfin⟩
    · cases b2
      · go_enter Tryd.func27, Tryd.ntmps27
        go_wp2_with fail
        refine (HF.out _).mono ?_
        rintro e w' ⟨rfl, hb⟩
        have hfin := HN.out.trans (hb.mono HN.out.size)
        have hx := HX.out.below hb HX.out.lt
        have c4 := hx.c4; have c5 := hx.c5
        simp only [] at c4 c5
        clear hb hx
        go_wp2_with fail
        refine (HB.out _).mono ?_
        rintro e w' ⟨rfl, rfl⟩
        go_wp2_with fail
        go_ret
        exact ⟨rfl, hfin⟩
      · go_enter Tryd.func27, Tryd.ntmps27
        go_wp2_with fail
        refine (HF.out _).mono ?_
        rintro e w' ⟨rfl, hb⟩
        have hfin := HN.out.trans (hb.mono HN.out.size)
        have hx := HX.out.below hb HX.out.lt
        have c4 := hx.c4; have c5 := hx.c5
        simp only [] at c4 c5
        clear hb hx
        go_wp2_with fail
        refine (HB.out _).mono ?_
        rintro e w' ⟨rfl, rfl⟩
        go_wp2_with fail
        refine (HS.out _).mono ?_
        rintro e w' ⟨rfl, rfl⟩
        go_wp2_with fail
        go_ret
        exact ⟨rfl, hfin⟩
end Go.Proofs.YthjjonbkfkpkmaaDoor.Inf
