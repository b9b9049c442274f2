/- BitioAdds: whatever two lists of calls a writer is given, pieces that are written apart, and added, are as if they had been written one behind the other. Conditions: those of the memory's own form alone. -/
import Derived.Test.YtpjiglnjllpjcaaFew
import Derived.Test.YtpjiglnjllpjcaaKnown
import Derived.StillTailTactics
import Derived.Deep.RegionWith
namespace Go.Proofs.Ytpjiglnjllpjcaa.Bit
open Go.RowKit

theorem new_writer' (w : World) (t : TypeId) (B : Nat) (hB : B ≤ w.heap.size) : WrN (w.alloc (.cells #[.slice none 0 0, .int .u64 0, .int .i64 0] t)) B w.heap.size 0 none 0 0 0 := by
  obtain ⟨c0, c1, c2, f0, f1, f2, own, far, base⟩ := new_writer w t
  exact ⟨c0, c1, c2, f0, f1, f2, World.ownsRow_nil _ _ _ _, far, hB⟩

/-- Three writers that share nothing, in blocks of the call's own: their bits. -/
def St (w wr : World) (x y z : Nat × Nat) : Prop := ∃ (aox aoy aoz : Option Addr) (capx capy capz : Nat),
  WrN wr w.heap.size w.heap.size 0 aox capx x.1 x.2 ∧ WrN wr w.heap.size (w.heap.size + 1) 0 aoy capy y.1 y.2 ∧ WrN wr w.heap.size (w.heap.size + 1 + 1) 0 aoz capz z.1 z.2 ∧
  Sep w.heap.size aox (w.heap.size + 1) aoy ∧ Sep w.heap.size aox (w.heap.size + 1 + 1) aoz ∧ Sep (w.heap.size + 1) aoy (w.heap.size + 1 + 1) aoz ∧ Below w.heap.size w wr

theorem WrN.fr {w w' : World} {B p o : Nat} {ao : Option Addr} {cap N L : Nat} (h : WrN w B p o ao cap N L) (hf : Fr (fun _ => False) w w') : WrN w' B p o ao cap N L := Wr.keep h hf (fun x => x) (fun _ _ x => x)

theorem St.below {w wr : World} {x y z : Nat × Nat} (h : St w wr x y z) : Below w.heap.size w wr := by obtain ⟨_, _, _, _, _, _, _, _, _, _, _, _, hb⟩ := h; exact hb
theorem St.fr {w wr w' : World} {x y z : Nat × Nat} (h : St w wr x y z) (hf : Fr (fun _ => False) wr w') : St w w' x y z := by
  obtain ⟨aox, aoy, aoz, capx, capy, capz, hx, hy, hz, sxy, sxz, syz, hb⟩ := h
  exact ⟨aox, aoy, aoz, capx, capy, capz, hx.fr hf, hy.fr hf, hz.fr hf, sxy, sxz, syz, hb.trans ⟨hf.os, hf.tape, hf.output, hf.size, fun k hk => hf.block k (Nat.lt_of_lt_of_le hk hb.size) (fun e => e)⟩⟩
theorem St.start (w : World) : St w (((w.alloc (.cells #[.slice none 0 0, .int .u64 0, .int .i64 0] 29)).alloc (.cells #[.slice none 0 0, .int .u64 0, .int .i64 0] 29)).alloc (.cells #[.slice none 0 0, .int .u64 0, .int .i64 0] 29)) (0, 0) (0, 0) (0, 0) := by
  refine ⟨none, none, none, 0, 0, 0, ?_, ?_, ?_, ⟨by omega, by simp [blk], by simp [blk], by simp [blk]⟩, ⟨by omega, by simp [blk], by simp [blk], by simp [blk]⟩, ⟨by omega, by simp [blk], by simp [blk], by simp [blk]⟩, ?_⟩
  · exact ((new_writer' w 29 _ (Nat.le_refl _)).fr ((Fr.refl _ _).alloc _)).fr ((Fr.refl _ _).alloc _)
  · have h := (new_writer' (w.alloc (.cells #[.slice none 0 0, .int .u64 0, .int .i64 0] 29)) 29 w.heap.size (by simp)).fr ((Fr.refl _ _).alloc (.cells #[.slice none 0 0, .int .u64 0, .int .i64 0] 29))
    simpa using h
  · have h := new_writer' ((w.alloc (.cells #[.slice none 0 0, .int .u64 0, .int .i64 0] 29)).alloc (.cells #[.slice none 0 0, .int .u64 0, .int .i64 0] 29)) 29 w.heap.size (by simp; omega)
    simpa using h
  · exact (((Below.refl _ _).alloc (Nat.le_refl _) _).alloc (by simp) _).alloc (by simp; omega) _

theorem St.x {w wr w' : World} {x y z : Nat × Nat} (h : St w wr x y z) {N' L' : Nat} (hp : ∀ aox capx, WrN wr w.heap.size w.heap.size 0 aox capx x.1 x.2 → ∃ ao' cap', WrN w' w.heap.size w.heap.size 0 ao' cap' N' L' ∧ Pushed wr w' w.heap.size aox ao' (x.2 / 8)) : St w w' (N', L') y z := by
  obtain ⟨aox, aoy, aoz, capx, capy, capz, hx, hy, hz, sxy, sxz, syz, hb⟩ := h
  obtain ⟨ao', cap', h1, h2⟩ := hp _ _ hx
  obtain ⟨hy', s1⟩ := h2.other hy sxy
  obtain ⟨hz', s2⟩ := h2.other hz sxz
  exact ⟨_, _, _, _, _, _, h1, hy', hz', s1, s2, syz, hb.trans (h2.below (Nat.le_refl _) (fun g hg => (Wr.rlt hx g hg).1) hb.size)⟩
theorem St.y {w wr w' : World} {x y z : Nat × Nat} (h : St w wr x y z) {N' L' : Nat} (hp : ∀ aoy capy, WrN wr w.heap.size (w.heap.size + 1) 0 aoy capy y.1 y.2 → ∃ ao' cap', WrN w' w.heap.size (w.heap.size + 1) 0 ao' cap' N' L' ∧ Pushed wr w' (w.heap.size + 1) aoy ao' (y.2 / 8)) : St w w' x (N', L') z := by
  obtain ⟨aox, aoy, aoz, capx, capy, capz, hx, hy, hz, sxy, sxz, syz, hb⟩ := h
  obtain ⟨ao', cap', h1, h2⟩ := hp _ _ hy
  obtain ⟨hx', s1⟩ := h2.other hx sxy.symm
  obtain ⟨hz', s2⟩ := h2.other hz syz
  exact ⟨_, _, _, _, _, _, hx', h1, hz', s1.symm, sxz, s2, hb.trans (h2.below (by omega) (fun g hg => (Wr.rlt hy g hg).1) hb.size)⟩
theorem St.z {w wr w' : World} {x y z : Nat × Nat} (h : St w wr x y z) {N' L' : Nat} (hp : ∀ aoz capz, WrN wr w.heap.size (w.heap.size + 1 + 1) 0 aoz capz z.1 z.2 → ∃ ao' cap', WrN w' w.heap.size (w.heap.size + 1 + 1) 0 ao' cap' N' L' ∧ Pushed wr w' (w.heap.size + 1 + 1) aoz ao' (z.2 / 8)) : St w w' x y (N', L') := by
  obtain ⟨aox, aoy, aoz, capx, capy, capz, hx, hy, hz, sxy, sxz, syz, hb⟩ := h
  obtain ⟨ao', cap', h1, h2⟩ := hp _ _ hz
  obtain ⟨hx', s1⟩ := h2.other hx sxz.symm
  obtain ⟨hy', s2⟩ := h2.other hy syz.symm
  exact ⟨_, _, _, _, _, _, hx', hy', h1, sxy, s1.symm, s2.symm, hb.trans (h2.below (by omega) (fun g hg => (Wr.rlt hz g hg).1) hb.size)⟩

def put2 (x : Nat × Nat) (v n : Int) : Nat × Nat := ((putS x.1 x.2 v.toNat n).1, (putS x.1 x.2 v.toNat n).2.1)
theorem put2_len (x : Nat × Nat) (v n : Int) : (put2 x v n).2 ≤ x.2 + 64 := (putS_len _ _ _ _).2
theorem put2_lt (x : Nat × Nat) (v n : Int) (h : x.1 < 2 ^ x.2) : (put2 x v n).1 < 2 ^ (put2 x v n).2 := putS_lt _ _ _ _ h

/-- An answer that nobody looks at, and the writers behind it. -/
def Ans (w : World) (x y z : Nat × Nat) (e : Ending) (w' : World) : Prop := ∃ err, e = .returned (.int .i64 err) ∧ St w w' x y z

theorem put_x {w wr : World} {x y z : Nat × Nat} (h : St w wr x y z) (v n : Int) (hv : 0 ≤ v) (hL : x.2 ≤ 7000000000000) :
    Calls Try.prog 25 #[.pointer (some ⟨w.heap.size, 0, none⟩), .int .u64 v, .int .i64 n] wr (Ans w (put2 x v n) y z) := by
  have h' := h
  obtain ⟨aox, aoy, aoz, capx, capy, capz, hx, hy, hz, sxy, sxz, syz, hb⟩ := h
  refine (put_any _ _ _ v n v.toNat aox capx x.1 x.2 wr hx (by omega) hL).mono ?_
  rintro e w' ⟨rfl, ao', cap', h1, h2⟩
  obtain ⟨hy', s1⟩ := h2.other hy sxy
  obtain ⟨hz', s2⟩ := h2.other hz sxz
  exact ⟨_, rfl, _, _, _, _, _, _, h1, hy', hz', s1, s2, syz, hb.trans (h2.below (Nat.le_refl _) (fun g hg => (Wr.rlt hx g hg).1) hb.size)⟩
theorem put_y {w wr : World} {x y z : Nat × Nat} (h : St w wr x y z) (v n : Int) (hv : 0 ≤ v) (hL : y.2 ≤ 7000000000000) :
    Calls Try.prog 25 #[.pointer (some ⟨w.heap.size + 1, 0, none⟩), .int .u64 v, .int .i64 n] wr (Ans w x (put2 y v n) z) := by
  obtain ⟨aox, aoy, aoz, capx, capy, capz, hx, hy, hz, sxy, sxz, syz, hb⟩ := h
  refine (put_any _ _ _ v n v.toNat aoy capy y.1 y.2 wr hy (by omega) hL).mono ?_
  rintro e w' ⟨rfl, ao', cap', h1, h2⟩
  obtain ⟨hx', s1⟩ := h2.other hx sxy.symm
  obtain ⟨hz', s2⟩ := h2.other hz syz
  exact ⟨_, rfl, _, _, _, _, _, _, hx', h1, hz', s1.symm, sxz, s2, hb.trans (h2.below (by omega) (fun g hg => (Wr.rlt hy g hg).1) hb.size)⟩
theorem put_z {w wr : World} {x y z : Nat × Nat} (h : St w wr x y z) (v n : Int) (hv : 0 ≤ v) (hL : z.2 ≤ 7000000000000) :
    Calls Try.prog 25 #[.pointer (some ⟨w.heap.size + 1 + 1, 0, none⟩), .int .u64 v, .int .i64 n] wr (Ans w x y (put2 z v n)) := by
  obtain ⟨aox, aoy, aoz, capx, capy, capz, hx, hy, hz, sxy, sxz, syz, hb⟩ := h
  refine (put_any _ _ _ v n v.toNat aoz capz z.1 z.2 wr hz (by omega) hL).mono ?_
  rintro e w' ⟨rfl, ao', cap', h1, h2⟩
  obtain ⟨hx', s1⟩ := h2.other hx sxz.symm
  obtain ⟨hy', s2⟩ := h2.other hy syz.symm
  exact ⟨_, rfl, _, _, _, _, _, _, hx', hy', h1, sxy, s1.symm, s2.symm, hb.trans (h2.below (by omega) (fun g hg => (Wr.rlt hz g hg).1) hb.size)⟩

/-- What the calls of a list up to k make of a writer's bits. -/
def run (V N : Nat → Int) (x : Nat × Nat) : Nat → Nat × Nat
  | 0 => x
  | k + 1 => put2 (run V N x k) (V k) (N k)
theorem run_len (V N : Nat → Int) (x : Nat × Nat) : ∀ k, (run V N x k).2 ≤ x.2 + 64 * k
  | 0 => by simp [run]
  | k + 1 => by have := run_len V N x k; have := put2_len (run V N x k) (V k) (N k); show (put2 _ _ _).2 ≤ _; omega
theorem run_lt (V N : Nat → Int) (x : Nat × Nat) (h : x.1 < 2 ^ x.2) : ∀ k, (run V N x k).1 < 2 ^ (run V N x k).2
  | 0 => h
  | k + 1 => put2_lt _ _ _ (run_lt V N x h k)

/-- Behind another's bits. -/
theorem put2_app (x y : Nat × Nat) (v n : Int) : put2 (x.1 * 2 ^ y.2 + y.1, x.2 + y.2) v n = (x.1 * 2 ^ (put2 y v n).2 + (put2 y v n).1, x.2 + (put2 y v n).2) := by
  unfold put2 putS
  by_cases h1 : n < 0 ∨ 64 < n
  · rw [if_pos h1, if_pos h1]
  · rw [if_neg h1, if_neg h1]
    by_cases h2 : 2 ^ n.toNat ≤ v.toNat
    · rw [if_pos h2, if_pos h2]
    · rw [if_neg h2, if_neg h2]
      simp only [Nat.pow_add, Nat.add_mul, Nat.mul_assoc, Nat.add_assoc]
theorem run_app (V N : Nat → Int) (x : Nat × Nat) : ∀ k, run V N x k = (x.1 * 2 ^ (run V N (0, 0) k).2 + (run V N (0, 0) k).1, x.2 + (run V N (0, 0) k).2)
  | 0 => by simp [run]
  | k + 1 => by show put2 (run V N x k) _ _ = _; rw [run_app V N x k, put2_app]; rfl

theorem len_x {w wr : World} {x y z : Nat × Nat} (h : St w wr x y z) (hL : x.2 ≤ 8000000000000) : Calls Try.prog 11 #[.pointer (some ⟨w.heap.size, 0, none⟩)] wr fun e w' => e = .returned (.int .i64 x.2) ∧ St w w' x y z := by
  have h' := h
  obtain ⟨_, _, _, _, _, _, hx, _⟩ := h
  refine (len_any hx hL).mono ?_
  rintro e w' ⟨rfl, nq, rfl⟩
  exact ⟨rfl, h'.fr ((Fr.refl _ _).drewN nq)⟩
theorem len_y {w wr : World} {x y z : Nat × Nat} (h : St w wr x y z) (hL : y.2 ≤ 8000000000000) : Calls Try.prog 11 #[.pointer (some ⟨w.heap.size + 1, 0, none⟩)] wr fun e w' => e = .returned (.int .i64 y.2) ∧ St w w' x y z := by
  have h' := h
  obtain ⟨_, _, _, _, _, _, _, hy, _⟩ := h
  refine (len_any hy hL).mono ?_
  rintro e w' ⟨rfl, nq, rfl⟩
  exact ⟨rfl, h'.fr ((Fr.refl _ _).drewN nq)⟩
theorem len_z {w wr : World} {x y z : Nat × Nat} (h : St w wr x y z) (hL : z.2 ≤ 8000000000000) : Calls Try.prog 11 #[.pointer (some ⟨w.heap.size + 1 + 1, 0, none⟩)] wr fun e w' => e = .returned (.int .i64 z.2) ∧ St w w' x y z := by
  have h' := h
  obtain ⟨_, _, _, _, _, _, _, _, hz, _⟩ := h
  refine (len_any hz hL).mono ?_
  rintro e w' ⟨rfl, nq, rfl⟩
  exact ⟨rfl, h'.fr ((Fr.refl _ _).drewN nq)⟩
theorem add_xy {w wr : World} {x y z : Nat × Nat} (h : St w wr x y z) (hy1 : y.1 < 2 ^ y.2) (hLx : x.2 ≤ 3000000000000) (hLy : y.2 ≤ 3000000000000) :
    Calls Try.prog 26 #[.pointer (some ⟨w.heap.size, 0, none⟩), .pointer (some ⟨w.heap.size + 1, 0, none⟩)] wr fun e w' => e = .returned (.int .i64 0) ∧ St w w' (x.1 * 2 ^ y.2 + y.1, x.2 + y.2) y z := by
  obtain ⟨aox, aoy, aoz, capx, capy, capz, hx, hy, hz, sxy, sxz, syz, hb⟩ := h
  refine (add_other _ _ _ _ _ aox aoy capx capy x.1 x.2 y.1 y.2 wr hx hy sxy hy1 hLx hLy).mono ?_
  rintro e w' ⟨rfl, ao', cap', h1, h2⟩
  obtain ⟨hy', s1⟩ := h2.other hy sxy
  obtain ⟨hz', s2⟩ := h2.other hz sxz
  exact ⟨rfl, _, _, _, _, _, _, h1, hy', hz', s1, s2, syz, hb.trans (h2.below (Nat.le_refl _) (fun g hg => (Wr.rlt hx g hg).1) hb.size)⟩
theorem St.upto {w wr w' : World} {x y z : Nat × Nat} (h : St w wr x y z) (hb : Below wr.heap.size wr w') : St w w' x y z :=
  h.fr ⟨hb.os, hb.tape, hb.output, hb.size, fun k hk _ => hb.block k hk⟩
/-- The row that Bytes made of a writer that has the bits x. -/
def Row (w : World) (g : Nat) (x : Nat × Nat) : Prop := w.rowIs g 5 ((x.2 + 7) / 8) (fun i => .int .u8 (bts x.1 x.2 i : Int))
def str (x : Nat × Nat) : ByteArray := strOfNums ((List.range ((x.2 + 7) / 8)).map fun i => (bts x.1 x.2 i : Int))
theorem Row.conv {w : World} {g : Nat} {x : Nat × Nat} (h : Row w g x) : (convert 26 9 (.slice (some ⟨g, 0, none⟩) ((x.2 + 7) / 8) ((x.2 + 7) / 8))).run Try.prog w = .ok (.string (str x)) w := conv_row h
theorem Row.upto {w w' : World} {g : Nat} {x : Nat × Nat} (h : Row w g x) (hb : Below w.heap.size w w') : Row w' g x := World.rowIs.of_block h (hb.block g (World.rowIs.lt h))
theorem bytes_x {w wr : World} {x y z : Nat × Nat} (h : St w wr x y z) (hL : x.2 ≤ 7000000000000) : Calls Try.prog 12 #[.pointer (some ⟨w.heap.size, 0, none⟩)] wr fun e w' =>
    e = .returned (.slice (some ⟨wr.heap.size, 0, none⟩) ((x.2 + 7) / 8) ((x.2 + 7) / 8)) ∧ St w w' x y z ∧ Row w' wr.heap.size x ∧ Below wr.heap.size wr w' := by
  have h' := h
  obtain ⟨_, _, _, _, _, _, hx, _⟩ := h
  refine (bytes_any hx hL).mono ?_
  rintro e w' ⟨rfl, hb, hr⟩
  exact ⟨rfl, h'.upto hb, hr, hb⟩
theorem bytes_z {w wr : World} {x y z : Nat × Nat} (h : St w wr x y z) (hL : z.2 ≤ 7000000000000) : Calls Try.prog 12 #[.pointer (some ⟨w.heap.size + 1 + 1, 0, none⟩)] wr fun e w' =>
    e = .returned (.slice (some ⟨wr.heap.size, 0, none⟩) ((z.2 + 7) / 8) ((z.2 + 7) / 8)) ∧ St w w' x y z ∧ Row w' wr.heap.size z ∧ Below wr.heap.size wr w' := by
  have h' := h
  obtain ⟨_, _, _, _, _, _, _, _, hz, _⟩ := h
  refine (bytes_any hz hL).mono ?_
  rintro e w' ⟨rfl, hb, hr⟩
  exact ⟨rfl, h'.upto hb, hr, hb⟩

set_option maxHeartbeats 3200000 in
set_option maxRecDepth 100000 in
theorem adds_walk (w : World) (a a' : Option Addr) (la ca lb cb b off b' off' : Nat) (K V N K' V' N' : Nat → Int) (h : Acts w a la ca b off K V N) (h' : Acts w a' lb cb b' off' K' V' N') :
    Calls Try.prog 6 #[.slice a la ca, .slice a' lb cb] w fun e w' => e = .returned (.bool true) ∧ Below w.heap.size w w' := by
  go_enter Try.func6, Try.ntmps6
  go_wp2_with fail
  refine (few_any w a la ca b off K V N h).mono ?_
  rintro e w' ⟨x, rfl, hx, rfl⟩
  have HX := hid hx
  clear hx
  cases x with
  | false =>
    go_wp2_with fail
    refine (known_true _).mono ?_
    rintro e w' ⟨rfl, hb⟩
    go_wp2_with fail
    go_ret
    exact ⟨rfl, hb⟩
  | true =>
    have H1 := hid (HX.out rfl)
    clear HX
    go_wp2_with fail
    refine (few_any w a' lb cb b' off' K' V' N' h').mono ?_
    rintro e w' ⟨x, rfl, hx, rfl⟩
    have HX := hid hx
    clear hx
    cases x with
    | false =>
      go_wp2_with fail
      refine (known_true _).mono ?_
      rintro e w' ⟨rfl, hb⟩
      go_wp2_with fail
      go_ret
      exact ⟨rfl, hb⟩
    | true =>
      have H2 := hid (HX.out rfl)
      clear HX
      have H := hid h
      have H' := hid h'
      have hst := St.start w
      have hla : la ≤ 50 := H1.out.1
      have hlb : lb ≤ 50 := H2.out.1
      clear h h'
      go_wp2_with fail
      go_loopg [8] la (fun g i wr => ∃ k : Nat, k ≤ la ∧ g = la - k ∧ i = .int .i64 k ∧ St w wr (run V N (0, 0) k) (0, 0) (run V N (0, 0) k))
      case atStart => exact ⟨0, Nat.zero_le _, rfl, rfl, hst⟩
      case round =>
        obtain ⟨k, hk, hg, rfl, hs⟩ := hrel
        have HG := hid hg
        clear hg hst
        by_cases hlt : k < la
        · obtain rfl := H.out.addr (by omega)
          have hA := H.out.below hs.below (fun _ => H.out.lt (by omega))
          have cv := hA.v k hlt
          have cn := hA.n k hlt
          have hvb := (hA.vb k hlt).1
          have hlt2 : (k : Int) < (la : Int) := by omega
          clear hA
          go_wp2_with fail
          go_still_tail 11, (by kernel_rfl)
          have hs1 : St w wr.drew _ _ _ := hs.fr (Fr.refl _ _).drew
          have hb1 : (run V N (0, 0) k).2 ≤ 3200 := by have := run_len V N (0, 0) k; simp at this; omega
          clear cv cn hs
          change wpList _ _ _ _ _ wr.drew
          generalize wr.drew = w2 at hs1 ⊢
          go_wp2_with fail
          refine (put_x hs1 _ _ hvb (by omega)).mono ?_
          rintro e w3 ⟨err, rfl, hs3⟩
          have hA := H.out.below hs3.below (fun _ => H.out.lt (by omega))
          have cv := hA.v k hlt
          have cn := hA.n k hlt
          clear hA hs1
          go_wp2_with fail
          go_still_tail 11, (by kernel_rfl)
          have hs1 : St w w3.drew _ _ _ := hs3.fr (Fr.refl _ _).drew
          clear cv cn hs3
          change wpList _ _ _ _ _ w3.drew
          generalize w3.drew = w4 at hs1 ⊢
          go_wp2_with fail
          refine (put_z hs1 _ _ hvb (by omega)).mono ?_
          rintro e w5 ⟨err2, rfl, hs5⟩
          clear hs1
          go_wp2_with fail
          go_roundg (la - (k + 1))
          case measure => rw [HG.out]; omega
          case rel => exact ⟨k + 1, by omega, rfl, by go_num, hs5⟩
        · have hge : ¬ (k : Int) < (la : Int) := by omega
          obtain rfl : k = la := by omega
          go_wp2_with fail
          have HG2 := hid HG
          go_loopg [9] lb (fun g i wr => ∃ j : Nat, j ≤ lb ∧ g = lb - j ∧ i = .int .i64 j ∧ St w wr (run V N (0, 0) k) (run V' N' (0, 0) j) (run V' N' (run V N (0, 0) k) j))
          case atStart => exact ⟨0, Nat.zero_le _, rfl, rfl, hs⟩
          case round =>
            obtain ⟨j, hj, hg, rfl, hs2⟩ := hrel
            have HG := hid hg
            clear hg hs
            by_cases hlt3 : j < lb
            · obtain rfl := H'.out.addr (by omega)
              have hA := H'.out.below hs2.below (fun _ => H'.out.lt (by omega))
              have cv := hA.v j hlt3
              have cn := hA.n j hlt3
              have hvb := (hA.vb j hlt3).1
              have hlt2 : (j : Int) < (lb : Int) := by omega
              clear hA
              go_wp2_with fail
              go_still_tail 11, (by kernel_rfl)
              have hs3 : St w wr.drew _ _ _ := hs2.fr (Fr.refl _ _).drew
              have hb1 : (run V' N' (0, 0) j).2 ≤ 3200 := by have := run_len V' N' (0, 0) j; simp at this; omega
              have hb2 : (run V' N' (run V N (0, 0) k) j).2 ≤ 6400 := by have := run_len V' N' (run V N (0, 0) k) j; have := run_len V N (0, 0) k; simp at this; omega
              clear cv cn hs2
              change wpList _ _ _ _ _ wr.drew
              generalize wr.drew = w2 at hs3 ⊢
              go_wp2_with fail
              refine (put_y hs3 _ _ hvb (by omega)).mono ?_
              rintro e w3 ⟨err, rfl, hs4⟩
              have hA := H'.out.below hs4.below (fun _ => H'.out.lt (by omega))
              have cv := hA.v j hlt3
              have cn := hA.n j hlt3
              clear hA hs3
              go_wp2_with fail
              go_still_tail 11, (by kernel_rfl)
              have hs1 : St w w3.drew _ _ _ := hs4.fr (Fr.refl _ _).drew
              clear cv cn hs4
              change wpList _ _ _ _ _ w3.drew
              generalize w3.drew = w4 at hs1 ⊢
              go_wp2_with fail
              refine (put_z hs1 _ _ hvb (by omega)).mono ?_
              rintro e w5 ⟨err2, rfl, hs5⟩
              clear hs1
              go_wp2_with fail
              go_roundg (lb - (j + 1))
              case measure => rw [HG.out]; omega
              case rel => exact ⟨j + 1, by omega, rfl, by go_num, hs5⟩
            · have hge : ¬ (j : Int) < (lb : Int) := by omega
              obtain rfl : j = lb := by omega
              have e1 := run_app V' N' (run V N (0, 0) k) j
              have hx2 : (run V N (0, 0) k).2 ≤ 3200 := by have := run_len V N (0, 0) k; simp at this; omega
              have hy2 : (run V' N' (0, 0) j).2 ≤ 3200 := by have := run_len V' N' (0, 0) j; simp at this; omega
              have hy1 := run_lt V' N' (0, 0) (by decide) j
              rw [e1] at hs2
              clear e1 H1 H2 H H' hlt hlt3
              generalize run V N (0, 0) k = X at *
              generalize run V' N' (0, 0) j = Y at *
              have HY := hid hy1
              clear hy1
              go_wp2_with fail
              refine (len_y hs2 (by omega)).mono ?_
              rintro e w2 ⟨rfl, hs3⟩
              have hs4 : St w w2.drew _ _ _ := hs3.fr (Fr.refl _ _).drew
              clear hs2 hs3
              go_wp2_with fail
              go_region_with (first
                | (go_at_call 26; refine (add_xy ‹St w _ _ _ _› HY.out (by omega) (by omega)).mono ?_; rintro e w9 ⟨rfl, hs9⟩)
                | (go_at_call 11; (with_reducible refine (len_x ‹St w _ _ _ _› (by first | omega | (simp only []; omega))).mono ?_); rintro e w9 ⟨rfl, hs9⟩)
                | (go_at_call 11; (with_reducible refine (len_y ‹St w _ _ _ _› (by first | omega | (simp only []; omega))).mono ?_); rintro e w9 ⟨rfl, hs9⟩)
                | (go_at_call 11; (with_reducible refine (len_z ‹St w _ _ _ _› (by first | omega | (simp only []; omega))).mono ?_); rintro e w9 ⟨rfl, hs9⟩)
                | (go_at_call 12; (with_reducible refine (bytes_x ‹St w _ _ _ _› (by first | omega | (simp only []; omega))).mono ?_); rintro e w9 ⟨rfl, hs9, hr9, hb9⟩; have hc9 := hr9.conv)
                | (go_at_call 12; (with_reducible refine (bytes_z ‹St w _ _ _ _› (by first | omega | (simp only []; omega))).mono ?_); rintro e w8 ⟨rfl, hs8, hr8, hb8⟩; have hc8 := hr8.conv; have hc7 := (hr9.upto hb8).conv)
                | (go_at_call 9; refine (known_true _).mono ?_; rintro e w9 ⟨rfl, hb9⟩))
              all_goals
                go_wp2_with fail
                go_ret
                refine ⟨rfl, Below.trans (St.below ‹St w _ _ _ _›) (hb9.mono ?_)⟩
                exact (St.below ‹St w _ _ _ _›).size
end Go.Proofs.Ytpjiglnjllpjcaa.Bit
