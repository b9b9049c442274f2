/- GetAll of rice, and the document's: both answer the same numbers, and stand at the same place. Conditions: the parameter and the number may be; fewer than 2^20 bytes. -/
import Derived.Test.YtfpmdfbggifjiaaGa
namespace Go.Proofs.Ytfpmdfbggifjiaa.Rice
open Go.RowKit Bit

def GetAllPost (w : World) (q g M T p k n : Nat) (e : Ending) (w' : World) : Prop := ∃ (x : List Nat × Int × Nat) (lo : Option Addr) (lcap : Nat), AllR M T k p n x ∧ e = .returned (.tuple #[.slice lo x.1.length lcap, .int .i64 x.2.1]) ∧ Ul w' w.heap.size lo lcap x.1 ∧ Rd w' q g M T x.2.2 ∧ Fr (fun b => b = q) w w'
def RGetAllPost (w : World) (B q : Nat) (lo' : Option Addr) (lcap' M T p k n : Nat) (e : Ending) (w' : World) : Prop := ∃ (x : List Nat × Int × Nat) (lo : Option Addr) (lcap : Nat), AllR M T k p n x ∧ e = .returned (.tuple #[.slice lo x.1.length lcap, .int .i64 x.2.1]) ∧ Ul w' w.heap.size lo lcap x.1 ∧ Rf w' B q lo' lcap' M T x.2.2 ∧ Fr (fun b => b = q) w w'

/-- What is read so far. -/
def GS (w : World) (q g M T p k j : Nat) (v : Value) (wr : World) : Prop := ∃ (l : List Nat) (p' : Nat) (lo : Option Addr) (lcap : Nat), Run M T k p j l p' ∧ v = .slice lo j lcap ∧ Ul wr w.heap.size lo lcap l ∧ Rd wr q g M T p' ∧ Fr (fun b => b = q) w wr

def RGS (w : World) (B q : Nat) (lo' : Option Addr) (lcap' M T p k j : Nat) (v : Value) (wr : World) : Prop := ∃ (l : List Nat) (p' : Nat) (lo : Option Addr) (lcap : Nat), Run M T k p j l p' ∧ v = .slice lo j lcap ∧ Ul wr w.heap.size lo lcap l ∧ Rf wr B q lo' lcap' M T p' ∧ Fr (fun b => b = q) w wr

/-- Two lists that have the same numbers are the same. -/
theorem uints_any (w : World) (a a' : Option Addr) (len cap cap' b off b' off' : Nat) (U V : Nat → Nat) (h : Us w a len b off U) (h' : Us w a' len b' off' V) (he : ∀ i, i < len → U i = V i) :
    Calls Try.prog 26 #[.slice a len cap, .slice a' len cap'] w fun e w' => e = .returned (.bool true) ∧ Fr (fun _ => False) w w' := by
  have H := hid h
  have H' := hid h'
  have HE := hid he
  have hl := h.hl
  clear h h' he
  go_enter Try.func26, Try.ntmps26
  go_wp2_with fail
  go_loopg [5] len (fun g i wr => ∃ j : Nat, j ≤ len ∧ g = len - j ∧ i = .int .i64 j ∧ Fr (fun _ => False) w wr)
  case atStart => exact ⟨0, Nat.zero_le _, rfl, rfl, Fr.refl _ _⟩
  case round =>
    obtain ⟨j, hj, hg, rfl, hf⟩ := hrel
    have HG := hid hg
    clear hg
    by_cases hlt : j < len
    · have hlt2 : (j : Int) < (len : Int) := by omega
      obtain rfl := H.out.addr (by omega)
      obtain rfl := H'.out.addr (by omega)
      have ck := (H.out.fr hf fun _ x => x).c j hlt
      have ck' := (H'.out.fr hf fun _ x => x).c j hlt
      rw [← HE.out j hlt] at ck'
      generalize U j = x at *
      go_wp2_with fail
      go_quiet (fail)
      have hf2 := hf.drewN nq
      clear ck ck' hf
      go_wp2_with fail
      go_roundg (len - (j + 1))
      case measure => rw [HG.out]; omega
      case rel => exact ⟨j + 1, by omega, rfl, by go_num, hf2⟩
    · have hge : ¬ (j : Int) < (len : Int) := by omega
      obtain rfl : j = len := by omega
      go_wp2_with fail
      go_ret
      exact ⟨rfl, hf⟩
end Go.Proofs.Ytfpmdfbggifjiaa.Rice
