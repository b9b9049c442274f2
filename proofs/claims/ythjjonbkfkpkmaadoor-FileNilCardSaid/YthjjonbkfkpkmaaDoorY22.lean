/- The bytes of tags, and their sum: of lists, and of the program's calls. Conditions: those that each lemma names. -/
import Derived.Test.YthjjonbkfkpkmaaDoorY04
import Derived.Test.YthjjonbkfkpkmaaDoorY03
import Derived.Test.YthjjonbkfkpkmaaDoorY21
import Derived.Lib.SlBytesConst
namespace Go.Proofs.YthjjonbkfkpkmaaDoor.Tg
open Go.RowKit Gen Fld
open Crc hiding hid

/-- The sum of bytes. -/
def cs (l : List Nat) : Nat := sm (fun i => l.getD i 0) l.length 0
set_option maxRecDepth 100000 in
theorem getD_lt {l : List Nat} (h : ∀ b ∈ l, b < 256) (i : Nat) : l.getD i 0 < 256 := by
  by_cases hi : i < l.length
  · rw [List.getD_eq_getElem?_getD, List.getElem?_eq_getElem hi]; exact h _ (List.getElem_mem hi)
  · rw [List.getD_eq_getElem?_getD, List.getElem?_eq_none (by omega)]; decide
set_option maxRecDepth 100000 in
theorem cs_lt {l : List Nat} (h : ∀ b ∈ l, b < 256) : cs l < 4294967296 := sm_lt (getD_lt h) _ _ (by decide)
set_option maxRecDepth 100000 in
theorem byts_f {w : World} {a : Option Addr} {l : List Nat} (h : Byts w a l) : Bytf w a l.length (fun i => l.getD i 0) :=
  ⟨getD_lt h.lt, fun j hj => by
    obtain ⟨b, off, e, hc⟩ := h.at_ j (l[j]) (List.getElem?_eq_getElem hj)
    refine ⟨b, off, e, ?_⟩
    rw [hc, List.getD_eq_getElem?_getD, List.getElem?_eq_getElem hj]; rfl⟩
set_option maxRecDepth 100000 in
theorem tsum_any {w : World} {g : Nat} (h : Tab w g) {a : Option Addr} {l : List Nat} {cap : Nat} (hb : Byts w a l) (hl : l.length ≤ 1099511627776) :
    Calls Tryd.prog 31 #[.pointer (some ⟨g, 0, none⟩), .slice a l.length cap] w fun e w' => e = .returned (.int .u32 (cs l : Int)) ∧ w = w' := sum_any h (byts_f hb) hl
set_option maxRecDepth 100000 in
theorem uerr_four (v : Nat) (h : v < 4294967296) : uErr v 4 = 0 := by
  unfold uErr
  rw [if_neg (by omega), if_neg]
  have : (2 : Nat) ^ (8 * (4 : Int).toNat) = 4294967296 := by decide
  omega
set_option maxRecDepth 100000 in
theorem uerr_one (v : Nat) (h : v < 256) : uErr v 1 = 0 := by
  unfold uErr
  rw [if_neg (by omega), if_neg]
  have : (2 : Nat) ^ (8 * (1 : Int).toNat) = 256 := by decide
  omega
set_option maxRecDepth 100000 in
theorem uerr_two (v : Nat) (h : v < 65536) : uErr v 2 = 0 := by
  unfold uErr
  rw [if_neg (by omega), if_neg]
  have : (2 : Nat) ^ (8 * (2 : Int).toNat) = 65536 := by decide
  omega

/-- A tag's bytes. -/
def tby (t : Tag) : List Nat := le t.k.size 1 ++ sb t.k ++ (le t.v.size 2 ++ sb t.v)
/-- Those of all tags. -/
def tbs : List Tag → List Nat
  | [] => []
  | t :: l => tby t ++ tbs l
set_option maxRecDepth 100000 in
theorem tbs_app : ∀ l m : List Tag, tbs (l ++ m) = tbs l ++ tbs m
  | [], _ => rfl
  | t :: l, m => by show tby t ++ tbs (l ++ m) = _; rw [tbs_app l m, ← List.append_assoc]; rfl
/-- What the sum is of. -/
def bod (l : List Tag) : List Nat := [84, 71] ++ le l.length 1 ++ tbs l
/-- The bytes of tags. -/
def pby (l : List Tag) : List Nat := bod l ++ le (cs (bod l)) 4
set_option maxRecDepth 100000 in
theorem tby_lt (t : Tag) : ∀ b ∈ tby t, b < 256 := by
  intro b hb
  unfold tby at hb
  simp only [List.mem_append] at hb
  rcases hb with (hb | hb) | (hb | hb)
  · exact le_lt _ _ b hb
  · exact sb_lt _ b hb
  · exact le_lt _ _ b hb
  · exact sb_lt _ b hb
set_option maxRecDepth 100000 in
theorem tbs_lt : ∀ (l : List Tag), ∀ b ∈ tbs l, b < 256
  | [], b, hb => by cases hb
  | t :: l, b, hb => by
    rcases List.mem_append.1 hb with hb | hb
    · exact tby_lt t b hb
    · exact tbs_lt l b hb
set_option maxRecDepth 100000 in
theorem bod_lt (l : List Tag) : ∀ b ∈ bod l, b < 256 := by
  intro b hb
  unfold bod at hb
  simp only [List.mem_append] at hb
  rcases hb with (hb | hb) | hb
  · simp at hb; omega
  · exact le_lt _ _ b hb
  · exact tbs_lt l b hb
set_option maxRecDepth 100000 in
theorem pby_lt (l : List Tag) : ∀ b ∈ pby l, b < 256 := by
  intro b hb
  rcases List.mem_append.1 hb with hb | hb
  · exact bod_lt l b hb
  · exact le_lt _ _ b hb
/-- A tag's texts are short enough for its fields. -/
def Ft (t : Tag) : Prop := t.k.size < 256 ∧ t.v.size < 65536
set_option maxRecDepth 100000 in
theorem tby_len (t : Tag) : (tby t).length = t.k.size + t.v.size + 3 := by
  unfold tby
  simp only [List.length_append, le_len, sb_len]
  omega
set_option maxRecDepth 100000 in
theorem tbs_len : ∀ (l : List Tag), (∀ t ∈ l, Ft t) → (tbs l).length ≤ l.length * 65794
  | [], _ => Nat.zero_le _
  | t :: l, h => by
    have h1 := tbs_len l (fun x hx => h x (by simp [hx]))
    have h2 := h t (by simp)
    unfold Ft at h2
    show (tby t ++ tbs l).length ≤ (l.length + 1) * 65794
    rw [List.length_append, tby_len]
    omega
end Go.Proofs.YthjjonbkfkpkmaaDoor.Tg
namespace Go.Proofs.YthjjonbkfkpkmaaDoor.Tg
open Go.RowKit Gen Fld
open Crc hiding hid

/-- Bytes in new memory. -/
structure NL (w : World) (ao : Option Addr) (cap : Nat) (l : List Nat) (w' : World) : Prop where
  own : w'.ownsRow w.heap.size 5 1 (.slice ao l.length cap) l.length (bl l)
  bel : Below w.heap.size w w'
  lt : ∀ b ∈ l, b < 256
set_option maxRecDepth 100000 in
theorem NL.byts {w w' : World} {ao : Option Addr} {cap : Nat} {l : List Nat} (h : NL w ao cap l w') : Byts w' ao l := Byts.of_row h.lt h.own
set_option maxRecDepth 100000 in
theorem NL.cap {w w' : World} {ao : Option Addr} {cap : Nat} {l : List Nat} (h : NL w ao cap l w') : l.length ≤ cap := by
  rcases own_at h.own with ⟨_, h1, h2⟩ | ⟨_, _, _, _, h⟩
  · omega
  · exact h
set_option maxRecDepth 100000 in
theorem NL.nil {w w' : World} {ao : Option Addr} {cap : Nat} {l : List Nat} (h : NL w ao cap l w') : ao = none → l.length = 0 ∧ cap = 0 := fun e => by
  rcases own_at h.own with ⟨_, h1, h2⟩ | ⟨g, h1, _⟩
  · exact ⟨h1, h2⟩
  · rw [e] at h1; cases h1
set_option maxRecDepth 100000 in
theorem own_mono2 {w : World} {base base' : Nat} {e size : Nat} {v : Value} {n : Nat} {xs : List Value} (h : w.ownsRow base e size v n xs) (hb : base' ≤ base) : w.ownsRow base' e size v n xs :=
  ⟨h.1, h.2.imp id fun ⟨g, cap, cur, h1, h2, h3⟩ => ⟨g, cap, cur, h1, Nat.le_trans hb h2, h3⟩⟩
def PutP (w : World) (x : Int) (l : List Nat) (e : Ending) (w' : World) : Prop := ∃ ao cap, e = .returned (.tuple #[.slice ao l.length cap, .int .i64 x]) ∧ NL w ao cap l w'
set_option maxRecDepth 100000 in
theorem putp_none {w w' : World} (x : Int) (h : Below w.heap.size w w') : PutP w x [] (.returned (.tuple #[.slice none 0 0, .int .i64 x])) w' := ⟨none, 0, rfl, World.ownsRow_nil _ _ _ _, h, fun _ h => by cases h⟩
set_option maxRecDepth 100000 in
theorem byts_two (w : World) : Byts (w.alloc (.cells #[.int .u8 84, .int .u8 71] 5 (2, 3))) (some ⟨w.heap.size, 0, none⟩) [84, 71] :=
  ⟨fun b hb => by have : b = 84 ∨ b = 71 := by simpa using hb
                  omega,
   fun j x hj => by
    refine ⟨w.heap.size, 0, rfl, ?_⟩
    rcases j with _ | _ | j
    · simp at hj; subst hj; unfold World.cell?; rw [heap_alloc_new]; rfl
    · simp at hj; subst hj; unfold World.cell?; rw [heap_alloc_new]; rfl
    · simp at hj⟩
set_option maxRecDepth 100000 in
theorem put_z (l m : List Nat) : put (0, l) 0 m = (0, l ++ m) := put_zero 0 l m rfl
/-- A maker, behind so many bytes, and a block that is none of its own. -/
def St (w1 : World) (l : List Nat) (wr : World) (bx : Nat) : Prop := ∃ ao cap, MkA wr w1.heap.size w1.heap.size ao cap 0 l ∧ Below w1.heap.size w1 wr ∧ (bx ≠ w1.heap.size ∧ blk ao ≠ some bx)
set_option maxRecDepth 100000 in
theorem St.step {w1 wr w' : World} {l m : List Nat} {bx e : Nat} {ao : Option Addr} {cap : Nat} (hm : MkA wr w1.heap.size w1.heap.size ao cap 0 l) (hb : Below w1.heap.size w1 wr) (hx : bx ≠ w1.heap.size ∧ blk ao ≠ some bx) (hbl : bx < wr.heap.size) (he : e = 0)
    (hA : Aft wr w1.heap.size w1.heap.size ao (put (0, l) e m) w') : St w1 (l ++ m) w' bx ∧ (∀ off, w'.cell? ⟨bx, off, none⟩ = wr.cell? ⟨bx, off, none⟩) ∧ wr.heap.size ≤ w'.heap.size := by
  rw [he, put_z] at hA
  obtain ⟨ao', cap', hm', hP⟩ := hA
  refine ⟨⟨ao', cap', hm', hb.trans (hP.below (Nat.le_refl _) (fun g hg => (hm.rlt g hg).1) hb.size), hx.1, fun e9 => ?_⟩, fun off => hP.fr.cell (p := ⟨bx, off, none⟩) hbl (fun h9 => h9.elim hx.1 hx.2), hP.fr.size⟩
  rcases hP.at_ with h | h
  · exact hx.2 (h ▸ e9)
  · have := h bx e9; omega
set_option maxRecDepth 100000 in
theorem St.u {w1 wr : World} {l : List Nat} {bx : Nat} (h : St w1 l wr bx) (hbl : bx < wr.heap.size) (v n : Nat) (hv : v < 18446744073709551616) (he : uErr v n = 0) (hl : l.length ≤ 1073741824) :
    Calls Tryd.prog 29 #[.pointer (some ⟨w1.heap.size, 0, none⟩), .int .u64 (v : Int), .int .i64 (n : Int)] wr fun e w' => e = .returned (.tuple #[]) ∧ St w1 (l ++ le v n) w' bx ∧ (∀ off, w'.cell? ⟨bx, off, none⟩ = wr.cell? ⟨bx, off, none⟩) ∧ wr.heap.size ≤ w'.heap.size := by
  obtain ⟨ao, cap, hm, hb, hx⟩ := h
  refine (u_any hm hb.size v n hv (by omega)).mono ?_
  rintro e w' ⟨rfl, hA⟩
  exact ⟨rfl, St.step hm hb hx hbl he hA⟩
set_option maxRecDepth 100000 in
theorem St.text {w1 wr : World} {l : List Nat} {bx : Nat} (h : St w1 l wr bx) (hbl : bx < wr.heap.size) (s : ByteArray) (n : Nat) (hs : s.size ≤ 65536) (he : uErr s.size n = 0) (hl : l.length ≤ 1073741824) :
    Calls Tryd.prog 33 #[.pointer (some ⟨w1.heap.size, 0, none⟩), .string s, .int .i64 (n : Int)] wr fun e w' => e = .returned (.tuple #[]) ∧ St w1 (l ++ (le s.size n ++ sb s)) w' bx ∧ (∀ off, w'.cell? ⟨bx, off, none⟩ = wr.cell? ⟨bx, off, none⟩) ∧ wr.heap.size ≤ w'.heap.size := by
  obtain ⟨ao, cap, hm, hb, hx⟩ := h
  refine (text_any hm hb.size s n (by omega) (by omega)).mono ?_
  rintro e w' ⟨rfl, hA⟩
  exact ⟨rfl, St.step hm hb hx hbl he hA⟩
set_option maxRecDepth 100000 in
theorem St.raw {w1 wr : World} {l : List Nat} {bx : Nat} (h : St w1 l wr bx) (hbl : bx < wr.heap.size) {a : Option Addr} {m : List Nat} {c n : Nat} (hn : m.length = n) (hb : Byts wr a m) (ha : a = none → m.length = 0 ∧ c = 0) (hl : l.length + m.length ≤ 1073741824) :
    Calls Tryd.prog 28 #[.pointer (some ⟨w1.heap.size, 0, none⟩), .slice a n c] wr fun e w' => e = .returned (.tuple #[]) ∧ St w1 (l ++ m) w' bx ∧ (∀ off, w'.cell? ⟨bx, off, none⟩ = wr.cell? ⟨bx, off, none⟩) ∧ wr.heap.size ≤ w'.heap.size := by
  subst hn
  obtain ⟨ao, cap, hm, hB, hx⟩ := h
  refine (raw_any hm hb ha hB.size (by omega)).mono ?_
  rintro e w' ⟨rfl, hA⟩
  exact ⟨rfl, St.step hm hB hx hbl rfl hA⟩
set_option maxRecDepth 100000 in
theorem St.bytes {w1 wr : World} {l : List Nat} {bx : Nat} (h : St w1 l wr bx) (hl : l.length ≤ 1073741824) :
    Calls Tryd.prog 30 #[.pointer (some ⟨w1.heap.size, 0, none⟩)] wr fun e w' => ∃ ao cap, e = .returned (.tuple #[.slice ao l.length cap, .int .i64 0]) ∧ NL w1 ao cap l w' ∧ St w1 l w' bx ∧ wr.heap.size ≤ w'.heap.size := by
  obtain ⟨ao, cap, hm, hB, hx⟩ := h
  have hlt := hm.lt
  refine (mbytes_ok hm (by omega)).mono ?_
  rintro e w' ⟨ao1, cap1, rfl, ho, hb⟩
  exact ⟨ao1, cap1, rfl, ⟨own_mono2 ho hB.size, hB.trans (hb.mono hB.size), hlt⟩, ⟨ao, cap, hm.below hb, hB.trans (hb.mono hB.size), hx⟩, hb.size⟩
set_option maxRecDepth 100000 in
theorem St.below {w1 wr w' : World} {l : List Nat} {bx : Nat} (h : St w1 l wr bx) (hb : Below wr.heap.size wr w') : St w1 l w' bx := by
  obtain ⟨ao, cap, hm, hB, hx⟩ := h
  exact ⟨ao, cap, hm.below hb, hB.trans (hb.mono hB.size), hx⟩
set_option maxRecDepth 100000 in
/-- A block that is made is none of the maker's. -/
theorem St.box {w1 wr w' : World} {l : List Nat} {bx : Nat} (h : St w1 l wr bx) (hb : Below wr.heap.size wr w') : St w1 l w' wr.heap.size := by
  obtain ⟨ao, cap, hm, hB, _⟩ := h
  exact ⟨ao, cap, hm.below hb, hB.trans (hb.mono hB.size), by have := hm.plt; omega, fun e => by have := (hm.rlt _ e).2; omega⟩
set_option maxRecDepth 100000 in
theorem St.bel {w1 wr : World} {l : List Nat} {bx : Nat} (h : St w1 l wr bx) : Below w1.heap.size w1 wr := by
  obtain ⟨_, _, _, hB, _⟩ := h
  exact hB
end Go.Proofs.YthjjonbkfkpkmaaDoor.Tg
namespace Go.Proofs.YthjjonbkfkpkmaaDoor.Tg
open Go.RowKit Gen

set_option maxRecDepth 100000 in
theorem own_mono {w : World} {base base' : Nat} {e size : Nat} {v : Value} {n : Nat} {xs : List Value} (h : w.ownsRow base e size v n xs) (hb : base' ≤ base) : w.ownsRow base' e size v n xs :=
  ⟨h.1, h.2.imp id fun ⟨g, cap, cur, h1, h2, h3⟩ => ⟨g, cap, cur, h1, Nat.le_trans hb h2, h3⟩⟩
/-- A tag's value at a place; none: nothing. -/
def valAt (T : Nat → Tag) (f : Int) : ByteArray := if f < 0 then ⟨#[]⟩ else (T f.toNat).v
end Go.Proofs.YthjjonbkfkpkmaaDoor.Tg
namespace Go.Proofs.YthjjonbkfkpkmaaDoor.Tg
open Go.RowKit Gen

/-- Tags without those whose keys are alike. -/
def flt (kf : ByteArray) (l : List Tag) : List Tag := l.filter fun x => !decide (fold x.k = kf)
set_option maxRecDepth 100000 in
theorem lst_succ (T : Nat → Tag) (n : Nat) : lst T (n + 1) = lst T n ++ [T n] := by unfold lst; rw [List.range_succ, List.map_append]; rfl
set_option maxRecDepth 100000 in
theorem flt_no {kf : ByteArray} {T : Nat → Tag} {n : Nat} (h : lk T kf n = false) : flt kf (lst T (n + 1)) = flt kf (lst T n) ++ [T n] := by
  have h' : decide (fold (T n).k = kf) = false := h
  unfold flt; rw [lst_succ, List.filter_append]; simp [List.filter, h']
set_option maxRecDepth 100000 in
theorem flt_yes {kf : ByteArray} {T : Nat → Tag} {n : Nat} (h : lk T kf n = true) : flt kf (lst T (n + 1)) = flt kf (lst T n) := by
  have h' : decide (fold (T n).k = kf) = true := h
  unfold flt; rw [lst_succ, List.filter_append]; simp [List.filter, h']
set_option maxRecDepth 100000 in
theorem flt_all {kf : ByteArray} {T : Nat → Tag} : ∀ {n : Nat}, (∀ i, i < n → lk T kf i = false) → flt kf (lst T n) = lst T n
  | 0, _ => rfl
  | n + 1, h => by rw [flt_no (h n (by omega)), flt_all (fun i hi => h i (by omega)), lst_succ]
set_option maxRecDepth 100000 in
theorem flt_le (kf : ByteArray) (l : List Tag) : (flt kf l).length ≤ l.length := List.length_filter_le _ _
/-- What a call of Drop leaves. -/
def DropP (w : World) (M : List Tag) (e : Ending) (w' : World) : Prop := ∃ ao cap b off, e = .returned (.slice ao M.length cap) ∧ Tb w' ao M.length b off (gt M) ∧ Below w.heap.size w w'

end Go.Proofs.YthjjonbkfkpkmaaDoor.Tg
