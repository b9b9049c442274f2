/- Sums of lists of bytes, a maker at work, lists of bytes in new memory. Conditions: those that each lemma names. -/
import Derived.Test.YthaikhnplbbdlaaTa4
import Derived.Test.YthaikhnplbbdlaaSum
import Derived.Test.YthaikhnplbbdlaaRef
import Derived.Test.YthaikhnplbbdlaaRi
import Derived.WalkMore
import Derived.Laws.ResultCell
namespace Go.Proofs.Ythaikhnplbbdlaa.Inf
open Go.RowKit Gen Fld
open Crc hiding hid

theorem below_new (w : World) (o : Obj) : Below w.heap.size w (w.alloc o) := (Below.refl _ _).alloc (Nat.le_refl _) _
/-- The sum of bytes. -/
def cs (l : List Nat) : Nat := sm (fun i => l.getD i 0) l.length 0
theorem getD_lt {l : List Nat} (h : ∀ b ∈ l, b < 256) (i : Nat) : l.getD i 0 < 256 := by
  by_cases hi : i < l.length
  · rw [List.getD_eq_getElem?_getD, List.getElem?_eq_getElem hi]; exact h _ (List.getElem_mem hi)
  · rw [List.getD_eq_getElem?_getD, List.getElem?_eq_none (by omega)]; decide
theorem cs_lt {l : List Nat} (h : ∀ b ∈ l, b < 256) : cs l < 4294967296 := sm_lt (getD_lt h) _ _ (by decide)
theorem byts_f {w : World} {a : Option Addr} {l : List Nat} (h : Byts w a l) : Bytf w a l.length (fun i => l.getD i 0) :=
  ⟨getD_lt h.lt, fun j hj => by
    obtain ⟨b, off, e, hc⟩ := h.at_ j (l[j]) (List.getElem?_eq_getElem hj)
    refine ⟨b, off, e, ?_⟩
    rw [hc, List.getD_eq_getElem?_getD, List.getElem?_eq_getElem hj]; rfl⟩
theorem tsum_any {w : World} {g : Nat} (h : Tab w g) {a : Option Addr} {l : List Nat} {cap : Nat} (hb : Byts w a l) (hl : l.length ≤ 1099511627776) :
    Calls Try.prog 26 #[.pointer (some ⟨g, 0, none⟩), .slice a l.length cap] w fun e w' => e = .returned (.int .u32 (cs l : Int)) ∧ w = w' := sum_any h (byts_f hb) hl
theorem rcsum_any {w : World} {a : Option Addr} {l : List Nat} {cap : Nat} (hb : Byts w a l) (hl : l.length ≤ 1099511627776) :
    Calls Try.prog 33 #[.slice a l.length cap] w fun e w' => e = .returned (.int .u32 (cs l : Int)) ∧ w = w' := rsum_any (byts_f hb) hl

theorem alloc2_at (w : World) (o1 o2 : Obj) : ((w.alloc o1).alloc o2).heap[w.heap.size + 1]? = some o2 := by
  rw [← Deep.nblk_alloc w o1]
  exact heap_alloc_new _ _
/-- Bytes and their sum. -/
def smd (l : List Nat) : List Nat := l ++ le (cs l) 4
theorem smd_len (l : List Nat) : (smd l).length = l.length + 4 := by unfold smd; rw [List.length_append, le_len]
theorem smd_lt {l : List Nat} (h : ∀ b ∈ l, b < 256) : ∀ b ∈ smd l, b < 256 := by
  intro b hb
  rcases List.mem_append.1 hb with hb | hb
  · exact h b hb
  · exact le_lt _ _ b hb
theorem uerr_zero (v : Nat) (h : v < 4294967296) : uErr v 4 = 0 := by
  unfold uErr
  rw [if_neg (by omega), if_neg]
  have : (2 : Nat) ^ (8 * (4 : Int).toNat) = 4294967296 := by decide
  omega
theorem own_byts {w : World} {B : Nat} {ao : Option Addr} {n cap : Nat} {l : List Nat} (h : w.ownsRow B 5 1 (.slice ao n cap) n (bl l)) (hl : ∀ b ∈ l, b < 256) : Byts w ao l := Byts.of_row hl h
theorem own_nil {w : World} {B : Nat} {ao : Option Addr} {n cap : Nat} {l : List Nat} (h : w.ownsRow B 5 1 (.slice ao n cap) n (bl l)) (hn : l.length = n) : ao = none → l.length = 0 ∧ cap = 0 := fun e => by
  rcases ownsRow_at h with ⟨_, h1, h2, _⟩ | ⟨g, h1⟩
  · exact ⟨hn.trans h1, h2⟩
  · rw [e] at h1; cases h1
theorem own_mono {w : World} {B B' : Nat} {v : Value} {n : Nat} {xs : List Value} (h : w.ownsRow B 5 1 v n xs) (hB : B' ≤ B) : w.ownsRow B' 5 1 v n xs :=
  ⟨h.1, h.2.imp id fun ⟨g, cap, cur, h1, h2, h3⟩ => ⟨g, cap, cur, h1, Nat.le_trans hB h2, h3⟩⟩
/-- A list of a call's own. -/
structure NL (w : World) (ao : Option Addr) (cap : Nat) (l : List Nat) (w' : World) : Prop where
  own : w'.ownsRow w.heap.size 5 1 (.slice ao l.length cap) l.length (bl l)
  bel : Below w.heap.size w w'
  lt : ∀ b ∈ l, b < 256
theorem NL.byts {w w' : World} {ao : Option Addr} {cap : Nat} {l : List Nat} (h : NL w ao cap l w') : Byts w' ao l := Byts.of_row h.lt h.own
theorem NL.nil {w w' : World} {ao : Option Addr} {cap : Nat} {l : List Nat} (h : NL w ao cap l w') : ao = none → l.length = 0 ∧ cap = 0 := own_nil h.own rfl
def PutP (w : World) (x : Int) (l : List Nat) (e : Ending) (w' : World) : Prop := ∃ ao cap, e = .returned (.tuple #[.slice ao l.length cap, .int .i64 x]) ∧ NL w ao cap l w'
theorem putp_none {w w' : World} (x : Int) (h : Below w.heap.size w w') : PutP w x [] (.returned (.tuple #[.slice none 0 0, .int .i64 x])) w' := ⟨none, 0, rfl, World.ownsRow_nil _ _ _ _, h, fun _ h => by cases h⟩
theorem uerr_one (v : Nat) (h : v < 256) : uErr v 1 = 0 := by
  unfold uErr
  rw [if_neg (by omega), if_neg]
  have : (2 : Nat) ^ (8 * (1 : Int).toNat) = 256 := by decide
  omega
theorem put_z (l m : List Nat) : put (0, l) 0 m = (0, l ++ m) := put_zero 0 l m rfl
/-- The maker, behind so many fields. -/
def St (w1 : World) (l : List Nat) (wr : World) : Prop := MkN w1 (0, l) wr
theorem St.u {w1 wr : World} {l : List Nat} (h : St w1 l wr) (v n : Nat) (hv : v < 18446744073709551616) (he : uErr v n = 0) (hl : l.length ≤ 1000) :
    Calls Try.prog 24 #[.pointer (some ⟨w1.heap.size, 0, none⟩), .int .u64 (v : Int), .int .i64 (n : Int)] wr fun e w' => e = .returned (.tuple #[]) ∧ St w1 (l ++ le v n) w' := by
  obtain ⟨ao, cap, hm, hb⟩ := h
  refine (u_any hm hb.size v n hv (by show l.length ≤ _; omega)).mono ?_
  rintro e w' ⟨rfl, hA⟩
  refine ⟨rfl, ?_⟩
  rw [he, put_z] at hA
  exact MkN.next (s := (0, l)) hm hb hA
theorem St.raw {w1 wr : World} {l : List Nat} (h : St w1 l wr) {a : Option Addr} {m : List Nat} {c n : Nat} (hn : m.length = n) (hb : Byts wr a m) (ha : a = none → m.length = 0 ∧ c = 0) (hl : l.length + m.length ≤ 1000) :
    Calls Try.prog 23 #[.pointer (some ⟨w1.heap.size, 0, none⟩), .slice a n c] wr fun e w' => e = .returned (.tuple #[]) ∧ St w1 (l ++ m) w' := by
  subst hn
  obtain ⟨ao, cap, hm, hB⟩ := h
  refine (raw_any hm hb ha hB.size (by show l.length + m.length ≤ _; omega)).mono ?_
  rintro e w' ⟨rfl, hA⟩
  refine ⟨rfl, ?_⟩
  rw [put_z] at hA
  exact MkN.next (s := (0, l)) hm hB hA
theorem St.bytes {w1 wr : World} {l : List Nat} (h : St w1 l wr) (hl : l.length ≤ 1000) :
    Calls Try.prog 25 #[.pointer (some ⟨w1.heap.size, 0, none⟩)] wr fun e w' => ∃ ao cap, e = .returned (.tuple #[.slice ao l.length cap, .int .i64 0]) ∧ NL w1 ao cap l w' := by
  obtain ⟨ao, cap, hm, hB⟩ := h
  have hlt := hm.lt
  refine (mbytes_ok hm (by show l.length ≤ _; omega)).mono ?_
  rintro e w' ⟨ao1, cap1, rfl, ho, hb⟩
  exact ⟨ao1, cap1, rfl, own_mono ho hB.size, hB.trans (hb.mono hB.size), hlt⟩
theorem St.below {w1 wr w' : World} {l : List Nat} (h : St w1 l wr) (hb : Below wr.heap.size wr w') : St w1 l w' := by
  obtain ⟨ao, cap, hm, hB⟩ := h
  exact ⟨ao, cap, hm.below hb, hB.trans (hb.mono hB.size)⟩
end Go.Proofs.Ythaikhnplbbdlaa.Inf
