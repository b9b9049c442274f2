/- parts, its iterator: what a range over the parts of a list hands on. Conditions: the list has at most 2^16 numbers, the order is one of theirs. -/
import Derived.RangeFuncNested
import Derived.RangeFuncBound
import Derived.RangeFuncCalls
import Derived.RangeFuncLeaves
import Derived.Shelf.Abstract
import Derived.Shelf.RegionOpen
import Derived.WalkKit
import Derived.OwnWalkIn
import Derived.TacticsInMore
import Derived.LoopNIn
import Derived.LoopIn
import Derived.Test.YtjimamjhakainaaM22
namespace Go.Proofs.Ytjimamjhakainaa.Part
open Go.RowKit Go.Shelf Bit Rice Runs
attribute [local go_sem] Oper.semAt_some

theorem parts_any (a : Option Addr) (len cap : Nat) (p : Int) (w : World) :
    Calls Try.prog 51 #[.slice a len cap, .int .i64 p] w fun e w' => e = .returned (.func (.func 75) #[] #[.pointer (some ⟨w.heap.size + 1, 0, none⟩), .pointer (some ⟨w.heap.size, 0, none⟩)]) ∧ w' = (w.alloc (.cells #[.slice a len cap] 22)).alloc (.cells #[.int .i64 p] 3) := by
  go_enter Try.func51, Try.ntmps51
  go_wp2_with fail
  go_ret
  exact ⟨rfl, rfl⟩
def Kp2 (bp bl : Nat) (W W' : World) : Prop := W.heap.size ≤ W'.heap.size ∧ W'.heap[bp]? = W.heap[bp]? ∧ W'.heap[bl]? = W.heap[bl]?
theorem Kp2.trans {bp bl : Nat} {A B C : World} (h : Kp2 bp bl A B) (k : Kp2 bp bl B C) : Kp2 bp bl A C := ⟨Nat.le_trans h.1 k.1, k.2.1.trans h.2.1, k.2.2.trans h.2.2⟩
theorem bd_mono (n p i : Nat) : bd n p i ≤ bd n p (i + 1) := Nat.div_le_div_right (Nat.mul_le_mul_right _ (by omega))
theorem bd_le (n p i : Nat) (h : i ≤ 2 ^ p) : bd n p i ≤ n := by
  unfold bd
  exact Nat.div_le_of_le_mul (Nat.mul_le_mul_right _ h)
theorem fr_next (y k : Nat) (h : k < y) : (List.finRange y).take (k + 1) = (List.finRange y).take k ++ [⟨k, h⟩] := by
  rw [List.take_add_one]
  congr 1
  simp [h]
theorem fr_len (y k : Nat) (h : k ≤ y) : ((List.finRange y).take k).length = k := by simp [h]
def ptA (a : Option Addr) (cap f : Nat) : Option Addr := if cap = f then a else a.map (·.add f)
def encP (a : Option Addr) (len cap p y : Nat) (x : Fin y) : Array Value := #[.int .i64 ((x.val : Nat) : Int), .slice (ptA a cap (bd len p x.val)) (bd len p (x.val + 1) - bd len p x.val) (cap - bd len p x.val)]
def P1Post (y : Nat) (J Jx : List (Fin y) → World → Prop) (e : Ending) (W' : World) : Prop := (∃ v, e = .returned v) ∧ ((∃ ys, ys = List.finRange y ∧ J ys W') ∨ (∃ pre, pre <+: List.finRange y ∧ Jx pre W'))
set_option maxRecDepth 100000 in
set_option maxHeartbeats 2000000 in
theorem parts1_in (l bp bl : Nat) (a : Option Addr) (len cap p : Nat) (hlen : len ≤ 65536) (hp : p ≤ 6) (hlc : len ≤ cap) (y : Nat) (hy : 2 ^ p = y) (J Jx : List (Fin y) → World → Prop) (n : Nat)
    (hY : ∀ pre x W, J pre W → pre.length < y → YieldAt Fence.wide (n - 1) Try.prog l (encP a len cap p y x) W fun e W' =>
      (e = .returned (.bool true) ∧ J (pre ++ [x]) W' ∧ Kp2 bp bl W W') ∨ (e = .returned (.bool false) ∧ Jx (pre ++ [x]) W'))
    (W : World) (h1 : W.cell? ⟨bp, 0, none⟩ = some (.int .i64 (p : Int))) (h2 : W.cell? ⟨bl, 0, none⟩ = some (.slice a len cap)) (h0 : J [] W) (hJd : ∀ s W n, J s W → J s (W.drewN n)) :
    CallsIn Fence.wide n Try.prog 75 #[.func (.yield l) #[] #[], .pointer (some ⟨bp, 0, none⟩), .pointer (some ⟨bl, 0, none⟩)] W (P1Post y J Jx) := by
  refine callsIn_of_wp Try.func75 rfl trivial ?_ rfl
  simp only [Try.ntmps75, List.size_toArray, List.length_cons, List.length_nil, Nat.reduceAdd, Nat.reduceSub, Array.replicate_succ, Array.replicate_zero, List.push_toArray, List.append_toArray, List.nil_append, List.cons_append]
  have hpw : (0 : Int) ≤ (p : Int) := by omega
  have hy64 : y ≤ 64 := by rw [← hy]; exact Nat.pow_le_pow_right (n := 2) (by decide) hp
  have hw2 : wrap64 ((2 : Int) ^ p) = (y : Int) := by
    rw [show (2 : Int) ^ p = ((2 ^ p : Nat) : Int) from by push_cast; rfl, hy]
    exact IntWalk.wrap64_in _ (by omega)
  have HB := hid fun wr i (hi : i < y) => bounds_in len p i hlen hp (by rw [hy]; exact hi) wr
  have HBM := hid fun i => bd_mono len p i
  have HBL := hid fun i (hi : i ≤ y) => bd_le len p i (by rw [hy]; exact hi)
  clear hy
  gi_wp2
  rw [hw2]
  clear hw2
  gi_loopw [9] (fun i wr => ∃ k : Nat, k ≤ y ∧ i = .int .i64 k ∧ J ((List.finRange y).take k) wr ∧ Kp2 bp bl W wr)
    (fun i _ => y - (intOf i).toNat)
  case atStart => exact ⟨0, Nat.zero_le _, rfl, h0, Nat.le_refl _, rfl, rfl⟩
  case round =>
    obtain ⟨k, hk, rfl, hJs, hkp⟩ := hrel
    have c1 := (World.cell?_of_block (a := ⟨bp, 0, none⟩) hkp.2.1).trans h1
    have c2 := (World.cell?_of_block (a := ⟨bl, 0, none⟩) hkp.2.2).trans h2
    by_cases hlt : k < y
    · have hlt2 : (k : Int) < (y : Int) := by omega
      have HBK := hid (HB.out wr k hlt)
      have hbm := HBM.out k
      have hbl := HBL.out (k + 1) (by omega)
      have HLT := hid hlt
      have HEQ := hid (show encP a len cap p y ⟨k, hlt⟩ = #[.int .i64 (k : Int), .slice (ptA a cap (bd len p k)) (bd len p (k + 1) - bd len p k) (cap - bd len p k)] from rfl)
      have HLEN := hid (fr_len y k hk)
      have HNX := hid (fr_next y k hlt)
      generalize bd len p k = f at *
      generalize bd len p (k + 1) = t at *
      gi_wp2_with fail
      refine ⟨trivial, fun h => (by cases h), ?_⟩
      refine (callsIn_wide.2 HBK.out).mono ?_
      rintro e w' ⟨rfl, nq, rfl⟩
      have c3 : (wr.drewN nq).cell? ⟨bl, 0, none⟩ = some (.slice a len cap) := c2
      have hJ2 := hJd _ _ nq hJs
      have HKP := hid hkp
      obtain ⟨fn, tmps, assign, body, hyl, hR⟩ := hY _ ⟨k, hlt⟩ (wr.drewN nq) hJ2 (by rw [HLEN.out]; exact hlt)
      rw [HEQ.out] at hyl
      unfold ptA at hyl
      clear hJ2 hkp hJs
      by_cases e : cap = f
      · rw [if_pos e] at hyl
        subst e
        rw [Nat.sub_self] at hyl
        gi_wp2_with fail
        refine ⟨fun h => (by cases h), ?_⟩
        refine hR.mono ?_
        rintro e W3 (⟨rfl, hJ3, hk3⟩ | ⟨rfl, hJx3⟩)
        · gi_wp2_with fail
          go_roundw
          case rel => exact ⟨k + 1, by omega, by go_num, by rw [HNX.out]; exact hJ3, HKP.out.trans (Kp2.trans ⟨Nat.le_refl _, rfl, rfl⟩ hk3)⟩
          case measure => simp [intOf]; omega
        · have hfin : P1Post y J Jx (.returned (.tuple #[])) W3 := ⟨⟨_, rfl⟩, .inr ⟨_, ⟨(List.finRange y).drop (k + 1), by rw [← HNX.out]; exact List.take_append_drop _ _⟩, hJx3⟩⟩
          gi_wp2_with fail
          refine bodyPost_ret (results_none rfl _ _ _) rfl ?_
          exact hfin
      · rw [if_neg e] at hyl
        gi_wp2_with fail
        refine ⟨fun h => (by cases h), ?_⟩
        refine hR.mono ?_
        rintro e W3 (⟨rfl, hJ3, hk3⟩ | ⟨rfl, hJx3⟩)
        · gi_wp2_with fail
          go_roundw
          case rel => exact ⟨k + 1, by omega, by go_num, by rw [HNX.out]; exact hJ3, HKP.out.trans (Kp2.trans ⟨Nat.le_refl _, rfl, rfl⟩ hk3)⟩
          case measure => simp [intOf]; omega
        · have hfin : P1Post y J Jx (.returned (.tuple #[])) W3 := ⟨⟨_, rfl⟩, .inr ⟨_, ⟨(List.finRange y).drop (k + 1), by rw [← HNX.out]; exact List.take_append_drop _ _⟩, hJx3⟩⟩
          gi_wp2_with fail
          refine bodyPost_ret (results_none rfl _ _ _) rfl ?_
          exact hfin
    · have hge : ¬ (k : Int) < (y : Int) := by omega
      obtain rfl : y = k := by omega
      rw [List.take_of_length_le (by simp)] at hJs
      have hfin : P1Post y J Jx (.returned (.tuple #[])) wr := ⟨⟨_, rfl⟩, .inl ⟨_, rfl, hJs⟩⟩
      gi_wp2_with fail
      go_end0
      exact hfin

theorem grown_drewN (W : World) (n : Nat) : W.grownBy (W.drewN n) none := ⟨rfl, rfl, rfl, Nat.le_refl _, fun _ _ _ => rfl⟩
/-- **THE ITERATOR's CONTRACT.** -/
theorem parts_stops (n bp bl : Nat) (a : Option Addr) (len cap p : Nat) (hlen : len ≤ 65536) (hp : p ≤ 6) (hlc : len ≤ cap) (y : Nat) (hy : 2 ^ p = y) (w : World) (hbp : bp < w.heap.size) (hbl : bl < w.heap.size)
    (h1 : w.cell? ⟨bp, 0, none⟩ = some (.int .i64 (p : Int))) (h2 : w.cell? ⟨bl, 0, none⟩ = some (.slice a len cap)) :
    SeqStopsK Fence.wide n Try.prog 75 #[.pointer (some ⟨bp, 0, none⟩), .pointer (some ⟨bl, 0, none⟩)] (encP a len cap p y) (Kp2 bp bl) (fun xs => xs = List.finRange y) (fun pre => pre <+: List.finRange y) y w := fun l J Jx W hW hJ _ hY h0 =>
  parts1_in l bp bl a len cap p hlen hp hlc y hy J Jx n hY W ((hW.cell (p := ⟨bp, 0, none⟩) hbp).trans h1) ((hW.cell (p := ⟨bl, 0, none⟩) hbl).trans h2) h0
    (fun s A m hs => hJ s A _ none hs (grown_drewN A m) fun r e => by cases e)
end Go.Proofs.Ytjimamjhakainaa.Part
