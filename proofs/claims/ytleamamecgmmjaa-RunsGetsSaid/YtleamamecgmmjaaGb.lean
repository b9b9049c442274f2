/- GetAll of rice, and the document's: both answer the same numbers, and stand at the same place. Conditions: the parameter and the number may be; fewer than 2^20 bytes. -/
import Derived.Test.YtleamamecgmmjaaGa
namespace Go.Proofs.Ytleamamecgmmjaa.Rice
open Go.RowKit Bit

def GetAllPost (w : World) (q g M T p k n : Nat) (e : Ending) (w' : World) : Prop := ∃ (x : List Nat × Int × Nat) (lo : Option Addr) (lcap : Nat), AllR M T k p n x ∧ e = .returned (.tuple #[.slice lo x.1.length lcap, .int .i64 x.2.1]) ∧ Ul w' w.heap.size lo lcap x.1 ∧ Rd w' q g M T x.2.2 ∧ Fr (fun b => b = q) w w'
def RGetAllPost (w : World) (B q : Nat) (lo' : Option Addr) (lcap' M T p k n : Nat) (e : Ending) (w' : World) : Prop := ∃ (x : List Nat × Int × Nat) (lo : Option Addr) (lcap : Nat), AllR M T k p n x ∧ e = .returned (.tuple #[.slice lo x.1.length lcap, .int .i64 x.2.1]) ∧ Ul w' w.heap.size lo lcap x.1 ∧ Rf w' B q lo' lcap' M T x.2.2 ∧ Fr (fun b => b = q) w w'

/-- What is read so far. -/
def GS (w : World) (q g M T p k j : Nat) (v : Value) (wr : World) : Prop := ∃ (l : List Nat) (p' : Nat) (lo : Option Addr) (lcap : Nat), Run M T k p j l p' ∧ v = .slice lo j lcap ∧ Ul wr w.heap.size lo lcap l ∧ Rd wr q g M T p' ∧ Fr (fun b => b = q) w wr

theorem riceget_arg (w : World) (a : Addr) (k : Int) (h : ¬ okK k) : Calls Try.prog 79 #[.pointer (some a), .int .i64 k] w fun e w' => e = .returned (.tuple #[.int .u64 0, .int .i64 1]) ∧ w = w' := by
  have hd0 : decide (okK k) = false := decide_eq_false h
  go_enter Try.func79, Try.ntmps79
  go_wp2_with fail
  refine (isparam k w).mono ?_
  rintro e w' ⟨rfl, rfl⟩
  rw [hd0]
  go_wp2_with fail
  go_ret2
  exact ⟨rfl, rfl⟩

def RGS (w : World) (B q : Nat) (lo' : Option Addr) (lcap' M T p k j : Nat) (v : Value) (wr : World) : Prop := ∃ (l : List Nat) (p' : Nat) (lo : Option Addr) (lcap : Nat), Run M T k p j l p' ∧ v = .slice lo j lcap ∧ Ul wr w.heap.size lo lcap l ∧ Rf wr B q lo' lcap' M T p' ∧ Fr (fun b => b = q) w wr

end Go.Proofs.Ytleamamecgmmjaa.Rice
