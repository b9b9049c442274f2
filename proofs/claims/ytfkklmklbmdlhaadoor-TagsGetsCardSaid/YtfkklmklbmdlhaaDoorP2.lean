/- Put of the program: the bytes of tags. Conditions: a table in memory, at most 2^30 tags, texts of at most 2^40 bytes, the two tables of unicode/utf8. -/
import Derived.Test.YtfkklmklbmdlhaaDoorP1
import Derived.Lib.SlBytesConst
namespace Go.Proofs.YtfkklmklbmdlhaaDoor.Tg
open Go.RowKit Gen Fld
open Crc hiding hid

/-- Bytes in new memory. -/
structure NL (w : World) (ao : Option Addr) (cap : Nat) (l : List Nat) (w' : World) : Prop where
  own : w'.ownsRow w.heap.size 5 1 (.slice ao l.length cap) l.length (bl l)
  bel : Below w.heap.size w w'
  lt : ∀ b ∈ l, b < 256
theorem NL.byts {w w' : World} {ao : Option Addr} {cap : Nat} {l : List Nat} (h : NL w ao cap l w') : Byts w' ao l := Byts.of_row h.lt h.own
theorem NL.cap {w w' : World} {ao : Option Addr} {cap : Nat} {l : List Nat} (h : NL w ao cap l w') : l.length ≤ cap := by
  rcases own_at h.own with ⟨_, h1, h2⟩ | ⟨_, _, _, _, h⟩
  · omega
  · exact h
theorem NL.nil {w w' : World} {ao : Option Addr} {cap : Nat} {l : List Nat} (h : NL w ao cap l w') : ao = none → l.length = 0 ∧ cap = 0 := fun e => by
  rcases own_at h.own with ⟨_, h1, h2⟩ | ⟨g, h1, _⟩
  · exact ⟨h1, h2⟩
  · rw [e] at h1; cases h1
theorem own_mono2 {w : World} {base base' : Nat} {e size : Nat} {v : Value} {n : Nat} {xs : List Value} (h : w.ownsRow base e size v n xs) (hb : base' ≤ base) : w.ownsRow base' e size v n xs :=
  ⟨h.1, h.2.imp id fun ⟨g, cap, cur, h1, h2, h3⟩ => ⟨g, cap, cur, h1, Nat.le_trans hb h2, h3⟩⟩
def PutP (w : World) (x : Int) (l : List Nat) (e : Ending) (w' : World) : Prop := ∃ ao cap, e = .returned (.tuple #[.slice ao l.length cap, .int .i64 x]) ∧ NL w ao cap l w'
theorem putp_none {w w' : World} (x : Int) (h : Below w.heap.size w w') : PutP w x [] (.returned (.tuple #[.slice none 0 0, .int .i64 x])) w' := ⟨none, 0, rfl, World.ownsRow_nil _ _ _ _, h, fun _ h => by cases h⟩
theorem byts_two (w : World) : Byts (w.alloc (.cells #[.int .u8 84, .int .u8 71] 5 (2, 3))) (some ⟨w.heap.size, 0, none⟩) [84, 71] :=
  ⟨fun b hb => by have : b = 84 ∨ b = 71 := by simpa using hb
                  omega,
   fun j x hj => by
    refine ⟨w.heap.size, 0, rfl, ?_⟩
    rcases j with _ | _ | j
    · simp at hj; subst hj; unfold World.cell?; rw [heap_alloc_new]; rfl
    · simp at hj; subst hj; unfold World.cell?; rw [heap_alloc_new]; rfl
    · simp at hj⟩
theorem put_z (l m : List Nat) : put (0, l) 0 m = (0, l ++ m) := put_zero 0 l m rfl
/-- A maker, behind so many bytes, and a block that is none of its own. -/
def St (w1 : World) (l : List Nat) (wr : World) (bx : Nat) : Prop := ∃ ao cap, MkA wr w1.heap.size w1.heap.size ao cap 0 l ∧ Below w1.heap.size w1 wr ∧ (bx ≠ w1.heap.size ∧ blk ao ≠ some bx)
theorem St.step {w1 wr w' : World} {l m : List Nat} {bx e : Nat} {ao : Option Addr} {cap : Nat} (hm : MkA wr w1.heap.size w1.heap.size ao cap 0 l) (hb : Below w1.heap.size w1 wr) (hx : bx ≠ w1.heap.size ∧ blk ao ≠ some bx) (hbl : bx < wr.heap.size) (he : e = 0)
    (hA : Aft wr w1.heap.size w1.heap.size ao (put (0, l) e m) w') : St w1 (l ++ m) w' bx ∧ (∀ off, w'.cell? ⟨bx, off, none⟩ = wr.cell? ⟨bx, off, none⟩) ∧ wr.heap.size ≤ w'.heap.size := by
  rw [he, put_z] at hA
  obtain ⟨ao', cap', hm', hP⟩ := hA
  refine ⟨⟨ao', cap', hm', hb.trans (hP.below (Nat.le_refl _) (fun g hg => (hm.rlt g hg).1) hb.size), hx.1, fun e9 => ?_⟩, fun off => hP.fr.cell (p := ⟨bx, off, none⟩) hbl (fun h9 => h9.elim hx.1 hx.2), hP.fr.size⟩
  rcases hP.at_ with h | h
  · exact hx.2 (h ▸ e9)
  · have := h bx e9; omega
theorem St.u {w1 wr : World} {l : List Nat} {bx : Nat} (h : St w1 l wr bx) (hbl : bx < wr.heap.size) (v n : Nat) (hv : v < 18446744073709551616) (he : uErr v n = 0) (hl : l.length ≤ 1073741824) :
    Calls Tryd.prog 42 #[.pointer (some ⟨w1.heap.size, 0, none⟩), .int .u64 (v : Int), .int .i64 (n : Int)] wr fun e w' => e = .returned (.tuple #[]) ∧ St w1 (l ++ le v n) w' bx ∧ (∀ off, w'.cell? ⟨bx, off, none⟩ = wr.cell? ⟨bx, off, none⟩) ∧ wr.heap.size ≤ w'.heap.size := by
  obtain ⟨ao, cap, hm, hb, hx⟩ := h
  refine (u_any hm hb.size v n hv (by omega)).mono ?_
  rintro e w' ⟨rfl, hA⟩
  exact ⟨rfl, St.step hm hb hx hbl he hA⟩
theorem St.text {w1 wr : World} {l : List Nat} {bx : Nat} (h : St w1 l wr bx) (hbl : bx < wr.heap.size) (s : ByteArray) (n : Nat) (hs : s.size ≤ 65536) (he : uErr s.size n = 0) (hl : l.length ≤ 1073741824) :
    Calls Tryd.prog 43 #[.pointer (some ⟨w1.heap.size, 0, none⟩), .string s, .int .i64 (n : Int)] wr fun e w' => e = .returned (.tuple #[]) ∧ St w1 (l ++ (le s.size n ++ sb s)) w' bx ∧ (∀ off, w'.cell? ⟨bx, off, none⟩ = wr.cell? ⟨bx, off, none⟩) ∧ wr.heap.size ≤ w'.heap.size := by
  obtain ⟨ao, cap, hm, hb, hx⟩ := h
  refine (text_any hm hb.size s n (by omega) (by omega)).mono ?_
  rintro e w' ⟨rfl, hA⟩
  exact ⟨rfl, St.step hm hb hx hbl he hA⟩
theorem St.raw {w1 wr : World} {l : List Nat} {bx : Nat} (h : St w1 l wr bx) (hbl : bx < wr.heap.size) {a : Option Addr} {m : List Nat} {c n : Nat} (hn : m.length = n) (hb : Byts wr a m) (ha : a = none → m.length = 0 ∧ c = 0) (hl : l.length + m.length ≤ 1073741824) :
    Calls Tryd.prog 41 #[.pointer (some ⟨w1.heap.size, 0, none⟩), .slice a n c] wr fun e w' => e = .returned (.tuple #[]) ∧ St w1 (l ++ m) w' bx ∧ (∀ off, w'.cell? ⟨bx, off, none⟩ = wr.cell? ⟨bx, off, none⟩) ∧ wr.heap.size ≤ w'.heap.size := by
  subst hn
  obtain ⟨ao, cap, hm, hB, hx⟩ := h
  refine (raw_any hm hb ha hB.size (by omega)).mono ?_
  rintro e w' ⟨rfl, hA⟩
  exact ⟨rfl, St.step hm hB hx hbl rfl hA⟩
theorem St.bytes {w1 wr : World} {l : List Nat} {bx : Nat} (h : St w1 l wr bx) (hl : l.length ≤ 1073741824) :
    Calls Tryd.prog 44 #[.pointer (some ⟨w1.heap.size, 0, none⟩)] wr fun e w' => ∃ ao cap, e = .returned (.tuple #[.slice ao l.length cap, .int .i64 0]) ∧ NL w1 ao cap l w' ∧ St w1 l w' bx ∧ wr.heap.size ≤ w'.heap.size := by
  obtain ⟨ao, cap, hm, hB, hx⟩ := h
  have hlt := hm.lt
  refine (mbytes_ok hm (by omega)).mono ?_
  rintro e w' ⟨ao1, cap1, rfl, ho, hb⟩
  exact ⟨ao1, cap1, rfl, ⟨own_mono2 ho hB.size, hB.trans (hb.mono hB.size), hlt⟩, ⟨ao, cap, hm.below hb, hB.trans (hb.mono hB.size), hx⟩, hb.size⟩
theorem St.below {w1 wr w' : World} {l : List Nat} {bx : Nat} (h : St w1 l wr bx) (hb : Below wr.heap.size wr w') : St w1 l w' bx := by
  obtain ⟨ao, cap, hm, hB, hx⟩ := h
  exact ⟨ao, cap, hm.below hb, hB.trans (hb.mono hB.size), hx⟩
/-- A block that is made is none of the maker's. -/
theorem St.box {w1 wr w' : World} {l : List Nat} {bx : Nat} (h : St w1 l wr bx) (hb : Below wr.heap.size wr w') : St w1 l w' wr.heap.size := by
  obtain ⟨ao, cap, hm, hB, _⟩ := h
  exact ⟨ao, cap, hm.below hb, hB.trans (hb.mono hB.size), by have := hm.plt; omega, fun e => by have := (hm.rlt _ e).2; omega⟩
theorem St.bel {w1 wr : World} {l : List Nat} {bx : Nat} (h : St w1 l wr bx) : Below w1.heap.size w1 wr := by
  obtain ⟨_, _, _, hB, _⟩ := h
  exact hB
end Go.Proofs.YtfkklmklbmdlhaaDoor.Tg
