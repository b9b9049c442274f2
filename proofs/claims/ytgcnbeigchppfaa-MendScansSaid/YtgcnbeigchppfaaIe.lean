/- Bytes of a call's own, and their sum behind them, of the program. Conditions: a table in memory, fewer than 2^39 bytes. -/
import Derived.Test.YtgcnbeigchppfaaId
namespace Go.Proofs.Ytgcnbeigchppfaa.Head
open Go.RowKit Gen Fld
open Crc hiding hid

/-- Bytes and their sum. -/
def smd (l : List Nat) : List Nat := l ++ le (cs l) 4
set_option maxRecDepth 100000 in
theorem smd_len (l : List Nat) : (smd l).length = l.length + 4 := by unfold smd; rw [List.length_append, le_len]
set_option maxRecDepth 100000 in
theorem smd_lt {l : List Nat} (h : ∀ b ∈ l, b < 256) : ∀ b ∈ smd l, b < 256 := by
  intro b hb
  rcases List.mem_append.1 hb with hb | hb
  · exact h b hb
  · exact le_lt _ _ b hb
set_option maxRecDepth 100000 in
theorem uerr_zero (v : Nat) (h : v < 4294967296) : uErr v 4 = 0 := by
  unfold uErr
  rw [if_neg (by omega), if_neg]
  have : (2 : Nat) ^ (8 * (4 : Int).toNat) = 4294967296 := by decide
  omega
def SmdP (w : World) (B : Nat) (ao : Option Addr) (l : List Nat) (e : Ending) (w' : World) : Prop :=
  ∃ ao' cap', e = .returned (.tuple #[.slice ao' (smd l).length cap', .int .u32 (cs l : Int)]) ∧ w'.ownsRow B 5 1 (.slice ao' (smd l).length cap') (smd l).length (bl (smd l)) ∧
    Fr (fun k => blk ao = some k) w w' ∧ (blk ao' = blk ao ∨ ∀ g, blk ao' = some g → w.heap.size ≤ g)
set_option maxRecDepth 100000 in
theorem own_byts {w : World} {B : Nat} {ao : Option Addr} {n cap : Nat} {l : List Nat} (h : w.ownsRow B 5 1 (.slice ao n cap) n (bl l)) (hl : ∀ b ∈ l, b < 256) : Byts w ao l := Byts.of_row hl h
set_option maxRecDepth 100000 in
theorem own_nil {w : World} {B : Nat} {ao : Option Addr} {n cap : Nat} {l : List Nat} (h : w.ownsRow B 5 1 (.slice ao n cap) n (bl l)) (hn : l.length = n) : ao = none → l.length = 0 ∧ cap = 0 := fun e => by
  rcases ownsRow_at h with ⟨_, h1, h2, _⟩ | ⟨g, h1⟩
  · exact ⟨hn.trans h1, h2⟩
  · rw [e] at h1; cases h1
end Go.Proofs.Ytgcnbeigchppfaa.Head
