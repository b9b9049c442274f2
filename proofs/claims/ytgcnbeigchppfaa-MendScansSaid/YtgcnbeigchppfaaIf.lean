/- A head's bytes, of the program. Conditions: a table in memory. -/
import Derived.Test.YtgcnbeigchppfaaIe
namespace Go.Proofs.Ytgcnbeigchppfaa.Head
open Go.RowKit Gen Fld
open Crc hiding hid

/-- The fields of a head. -/
def fd (h : Hh) : Nat → Nat
  | 0 => h.ix.toNat
  | 1 => h.ln.toNat
  | 2 => h.st.toNat
  | 3 => h.bd.toNat
  | 4 => h.lk
  | 5 => h.sz.toNat
  | _ => 0
def lb (b : Bool) : Nat := if b then 1 else 0
/-- The first bytes, and so many fields behind them. -/
def pre (h : Hh) : Nat → List Nat
  | 0 => [222, 92] ++ le h.k.toNat 1 ++ le (lb h.la) 1
  | j + 1 => pre h j ++ le (fd h j) 4
set_option maxRecDepth 100000 in
theorem pre_len (h : Hh) : ∀ j, (pre h j).length = 4 + 4 * j
  | 0 => rfl
  | j + 1 => by show (pre h j ++ le (fd h j) 4).length = _; rw [List.length_append, pre_len h j, le_len]; omega
set_option maxRecDepth 100000 in
theorem pre_lt (h : Hh) : ∀ j, ∀ b ∈ pre h j, b < 256
  | 0 => by
    intro b hb
    rcases List.mem_append.1 hb with hb | hb
    · rcases List.mem_append.1 hb with hb | hb
      · have : b = 222 ∨ b = 92 := by simpa using hb
        omega
      · exact le_lt _ _ b hb
    · exact le_lt _ _ b hb
  | j + 1 => by
    intro b hb
    rcases List.mem_append.1 hb with hb | hb
    · exact pre_lt h j b hb
    · exact le_lt _ _ b hb
/-- A head's bytes. -/
def hby (h : Hh) : List Nat := smd (pre h 6)
set_option maxRecDepth 100000 in
theorem hby_len (h : Hh) : (hby h).length = 32 := by unfold hby; rw [smd_len, pre_len]
set_option maxRecDepth 100000 in
theorem hby_lt (h : Hh) : ∀ b ∈ hby h, b < 256 := smd_lt (pre_lt h 6)
set_option maxRecDepth 100000 in
theorem fd_lt (h : Hh) (hi : Inn h) (hk : h.lk < 4294967296) (j : Nat) : fd h j < 4294967296 := by
  obtain ⟨h0, h1, h2, h3, h4, h5, h6, h7, h8, h9⟩ := hi
  rcases j with _ | _ | _ | _ | _ | _ | j
  · show h.ix.toNat < _; omega
  · show h.ln.toNat < _; omega
  · show h.st.toNat < _; omega
  · show h.bd.toNat < _; omega
  · exact hk
  · show h.sz.toNat < _; omega
  · show 0 < _; omega
set_option maxRecDepth 100000 in
theorem own_mono {w : World} {B B' : Nat} {v : Value} {n : Nat} {xs : List Value} (h : w.ownsRow B 5 1 v n xs) (hB : B' ≤ B) : w.ownsRow B' 5 1 v n xs :=
  ⟨h.1, h.2.imp id fun ⟨g, cap, cur, h1, h2, h3⟩ => ⟨g, cap, cur, h1, Nat.le_trans hB h2, h3⟩⟩
/-- A list of a call's own. -/
structure NL (w : World) (ao : Option Addr) (cap : Nat) (l : List Nat) (w' : World) : Prop where
  own : w'.ownsRow w.heap.size 5 1 (.slice ao l.length cap) l.length (bl l)
  bel : Below w.heap.size w w'
  lt : ∀ b ∈ l, b < 256
set_option maxRecDepth 100000 in
theorem NL.byts {w w' : World} {ao : Option Addr} {cap : Nat} {l : List Nat} (h : NL w ao cap l w') : Byts w' ao l := Byts.of_row h.lt h.own
set_option maxRecDepth 100000 in
theorem NL.nil {w w' : World} {ao : Option Addr} {cap : Nat} {l : List Nat} (h : NL w ao cap l w') : ao = none → l.length = 0 ∧ cap = 0 := own_nil h.own rfl
def PutP (w : World) (x : Int) (l : List Nat) (e : Ending) (w' : World) : Prop := ∃ ao cap, e = .returned (.tuple #[.slice ao l.length cap, .int .i64 x]) ∧ NL w ao cap l w'
set_option maxRecDepth 100000 in
theorem putp_none {w w' : World} (x : Int) (h : Below w.heap.size w w') : PutP w x [] (.returned (.tuple #[.slice none 0 0, .int .i64 x])) w' := ⟨none, 0, rfl, World.ownsRow_nil _ _ _ _, h, fun _ h => by cases h⟩
set_option maxRecDepth 100000 in
theorem byts_two (w : World) : Byts (w.alloc (.cells #[.int .u8 222, .int .u8 92] 5 (2, 3))) (some ⟨w.heap.size, 0, none⟩) [222, 92] :=
  ⟨fun b hb => by have : b = 222 ∨ b = 92 := by simpa using hb
                  omega,
   fun j x hj => by
    refine ⟨w.heap.size, 0, rfl, ?_⟩
    rcases j with _ | _ | j
    · simp at hj; subst hj; unfold World.cell?; rw [heap_alloc_new]; rfl
    · simp at hj; subst hj; unfold World.cell?; rw [heap_alloc_new]; rfl
    · simp at hj⟩
set_option maxRecDepth 100000 in
theorem uerr_one (v : Nat) (h : v < 256) : uErr v 1 = 0 := by
  unfold uErr
  rw [if_neg (by omega), if_neg]
  have : (2 : Nat) ^ (8 * (1 : Int).toNat) = 256 := by decide
  omega
set_option maxRecDepth 100000 in
theorem put_z (l m : List Nat) : put (0, l) 0 m = (0, l ++ m) := put_zero 0 l m rfl
/-- The maker, behind so many fields. -/
def St (w1 : World) (l : List Nat) (wr : World) : Prop := MkN w1 (0, l) wr
set_option maxRecDepth 100000 in
theorem St.below {w1 wr w' : World} {l : List Nat} (h : St w1 l wr) (hb : Below wr.heap.size wr w') : St w1 l w' := by
  obtain ⟨ao, cap, hm, hB⟩ := h
  exact ⟨ao, cap, hm.below hb, hB.trans (hb.mono hB.size)⟩
end Go.Proofs.Ytgcnbeigchppfaa.Head
