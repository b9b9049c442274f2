/- PutAll and Put of rice: what they answer, what the writer has behind them, and that nothing else has turned; the statements' fixed calls. Conditions: a list lies in memory as its numbers; the writer has fewer than 2^42 bits. -/
import Derived.Test.YtjimamjhakainaaM04
import Derived.Test.YtjimamjhakainaaSBytes
import Derived.Laws.BytesArg
import Derived.Deep.RegionWith
namespace Go.Proofs.Ytjimamjhakainaa.Rice
open Go.RowKit Bit

/-- The codes of the first numbers of a list, behind L bits N. -/
def cods (U : Nat → Nat) (k N L : Nat) : Nat → Nat × Nat
  | 0 => (N, L)
  | j + 1 => ((cods U k N L j).1 * 2 ^ cost (U j) k + cod (U j) k, (cods U k N L j).2 + cost (U j) k)
theorem cods_le (U : Nat → Nat) (k N L : Nat) : ∀ j, L ≤ (cods U k N L j).2 ∧ (cods U k N L j).2 ≤ L + 64 * j
  | 0 => ⟨Nat.le_refl _, Nat.le_refl _⟩
  | j + 1 => by
    have h := cods_le U k N L j
    have h1 := cost_le (U j) k
    show L ≤ _ + _ ∧ _ + _ ≤ _
    omega

theorem putall_nil (v : Value) (k : Int) (w : World) : Calls Try.prog 76 #[.pointer none, v, .int .i64 k] w fun e w' => e = .returned (.int .i64 2) ∧ w = w' := by
  go_enter Try.func76, Try.ntmps76
  go_wp2_with fail
  go_ret
  exact ⟨rfl, rfl⟩
theorem putall_arg (p : Addr) (v : Value) (k : Int) (hk : ¬ okK k) (w : World) : Calls Try.prog 76 #[.pointer (some p), v, .int .i64 k] w fun e w' => e = .returned (.int .i64 1) ∧ w = w' := by
  go_enter Try.func76, Try.ntmps76
  go_wp2_with fail
  refine (isparam _ _).mono ?_
  rintro e w' ⟨rfl, rfl⟩
  rw [decide_eq_false hk]
  go_wp2_with fail
  go_ret
  exact ⟨rfl, rfl⟩
theorem putall_range (p : Addr) (a : Option Addr) (len cap b off : Nat) (U : Nat → Nat) (k : Int) (hk : okK k) (w : World) (h : Us w a len b off U) (hr : ¬ allC U len) :
    Calls Try.prog 76 #[.pointer (some p), .slice a len cap, .int .i64 k] w fun e w' => e = .returned (.int .i64 3) ∧ w = w' := by
  go_enter Try.func76, Try.ntmps76
  go_wp2_with fail
  refine (isparam _ _).mono ?_
  rintro e w' ⟨rfl, rfl⟩
  rw [decide_eq_true hk]
  go_wp2_with fail
  refine (contains_any w a len cap b off U h).mono ?_
  rintro e w' ⟨x, rfl, rfl, hx⟩
  obtain rfl : x = true := hx.2 hr
  go_wp2_with fail
  go_ret
  exact ⟨rfl, rfl⟩

def PutAllOk (w : World) (B p o : Nat) (ao : Option Addr) (L : Nat) (r : Nat × Nat) (e : Ending) (w' : World) : Prop := e = .returned (.int .i64 0) ∧ Wrote w B p o ao L r.1 r.2 w'

set_option maxHeartbeats 800000 in
theorem putall_ok (B p o : Nat) (a : Option Addr) (len cap b off : Nat) (U : Nat → Nat) (k : Nat) (hk : k ≤ 30) (ao : Option Addr) (acap N L : Nat) (w : World) (hw : WrN w B p o ao acap N L)
    (h : Us w a len b off U) (hsep : 0 < len → b ≠ p ∧ blk ao ≠ some b) (hr : allC U len) (hL : L ≤ 3000000000000) (hlen : len ≤ 1048576) :
    Calls Try.prog 76 #[.pointer (some ⟨p, o, none⟩), .slice a len cap, .int .i64 (k : Int)] w (PutAllOk w B p o ao L (cods U k N L len)) := by
  have hkk : okK (k : Int) := ⟨by omega, by omega⟩
  have hlt0 : ∀ g, blk ao = some g → g < w.heap.size ∧ g ≠ p := fun g hg => ⟨(hw.rlt g hg).2, fun e => hw.far (e ▸ hg)⟩
  have HLT := hid hlt0
  have H := hid h
  have HS := hid hsep
  have HR := hid hr
  clear h hlt0 hsep hr
  go_enter Try.func76, Try.ntmps76
  go_wp2_with fail
  refine (isparam _ _).mono ?_
  rintro e w' ⟨rfl, rfl⟩
  rw [decide_eq_true hkk]
  go_wp2_with fail
  refine (contains_any w a len cap b off U H.out).mono ?_
  rintro e w' ⟨x, rfl, rfl, hx⟩
  obtain rfl : x = false := by
    cases x with
    | false => rfl
    | true => exact absurd HR.out (hx.1 rfl)
  clear hx
  go_wp2_with fail
  go_loopg [21] len (fun g i wr => ∃ (j : Nat) (ao' : Option Addr) (cap' : Nat), j ≤ len ∧ g = len - j ∧ i = .int .i64 j ∧ WrN wr B p o ao' cap' (cods U k N L j).1 (cods U k N L j).2 ∧ Pushed w wr p ao ao' (L / 8))
  case atStart => exact ⟨0, ao, acap, Nat.zero_le _, rfl, rfl, hw, Pushed.refl _ _ _ _⟩
  case round =>
    obtain ⟨j, ao', cap', hj, hg, rfl, hw', hP⟩ := hrel
    have HG := hid hg
    have hb := cods_le U k N L j
    clear hg hw
    by_cases hlt : j < len
    · have hlt2 : (j : Int) < (len : Int) := by omega
      obtain rfl := H.out.addr (by omega)
      have hU := H.out.fr hP.fr (fun h0 e => e.elim (HS.out h0).1 (HS.out h0).2)
      have ck := hU.c j hlt
      have HC := hid (HR.out j hlt)
      have HN := hid (show (cods U k N L (j + 1)) = ((cods U k N L j).1 * 2 ^ cost (U j) k + cod (U j) k, (cods U k N L j).2 + cost (U j) k) from rfl)
      generalize cods U k N L j = r at *
      generalize hu : U j = u at *
      have HU := hid hu
      clear hu hU
      go_wp2_with fail
      refine (write_any B p o u k ao' cap' r.1 r.2 wr hw' hk HC.out (by omega)).mono ?_
      rintro e w1 ⟨rfl, ao1, cap1, hw1, hp1⟩
      have hP1 := hP.trans hp1 (by omega) HLT.out
      clear hw' hP hp1 ck
      go_wp2_with fail
      go_roundg (len - (j + 1))
      case measure => rw [HG.out]; omega
      case rel => exact ⟨j + 1, ao1, cap1, by omega, rfl, by go_num, by rw [HN.out]; exact hw1, hP1⟩
    · have hge : ¬ (j : Int) < (len : Int) := by omega
      obtain rfl : j = len := by omega
      go_wp2_with fail
      go_ret
      exact ⟨rfl, ao', cap', hw', hP⟩

/-- A list of one new number. -/
theorem us_new (w : World) (u : Nat) (hu : u < 18446744073709551616) (t : TypeId) : Us (w.alloc (.cells #[.int .u64 (u : Int)] t)) (some ⟨w.heap.size, 0, none⟩) 1 w.heap.size 0 (fun _ => u) :=
  ⟨fun _ => rfl, fun i hi => by obtain rfl : i = 0 := by omega
                                simp, fun _ _ => hu, fun _ => by simp, by decide⟩

theorem rput_nil (u k : Int) (w : World) : Calls Try.prog 109 #[.pointer none, .int .u64 u, .int .i64 k] w fun e w' => e = .returned (.int .i64 2) ∧ Below w.heap.size w w' := by
  have hb : Below w.heap.size w (w.alloc (.cells #[.int .u64 u] 42)) := (Below.refl _ _).alloc (Nat.le_refl _) _
  go_enter Try.func109, Try.ntmps109
  go_wp2_with fail
  refine (putall_nil _ _ _).mono ?_
  rintro e w' ⟨rfl, rfl⟩
  go_wp2_with fail
  go_ret
  exact ⟨rfl, hb⟩
theorem rput_arg (p : Addr) (u : Int) (k : Int) (hk : ¬ okK k) (w : World) : Calls Try.prog 109 #[.pointer (some p), .int .u64 u, .int .i64 k] w fun e w' => e = .returned (.int .i64 1) ∧ Below w.heap.size w w' := by
  have hb : Below w.heap.size w (w.alloc (.cells #[.int .u64 u] 42)) := (Below.refl _ _).alloc (Nat.le_refl _) _
  go_enter Try.func109, Try.ntmps109
  go_wp2_with fail
  refine (putall_arg _ _ _ hk _).mono ?_
  rintro e w' ⟨rfl, rfl⟩
  go_wp2_with fail
  go_ret
  exact ⟨rfl, hb⟩
theorem rput_range (p : Addr) (u : Nat) (hu : u < 18446744073709551616) (k : Int) (hk : okK k) (hc : ¬ coded u) (w : World) : Calls Try.prog 109 #[.pointer (some p), .int .u64 (u : Int), .int .i64 k] w fun e w' => e = .returned (.int .i64 3) ∧ Below w.heap.size w w' := by
  have hb : Below w.heap.size w (w.alloc (.cells #[.int .u64 (u : Int)] 42)) := (Below.refl _ _).alloc (Nat.le_refl _) _
  have HU := hid (us_new w u hu 42)
  go_enter Try.func109, Try.ntmps109
  go_wp2_with fail
  refine (putall_range p _ 1 _ _ _ _ k hk _ HU.out (fun h => hc (h 0 (by decide)))).mono ?_
  rintro e w' ⟨rfl, rfl⟩
  go_wp2_with fail
  go_ret
  exact ⟨rfl, hb⟩
theorem rput_ok (B p o : Nat) (u : Nat) (hc : coded u) (k : Nat) (hk : k ≤ 30) (ao : Option Addr) (acap N L : Nat) (w : World) (hw : WrN w B p o ao acap N L) (hL : L ≤ 3000000000000) :
    Calls Try.prog 109 #[.pointer (some ⟨p, o, none⟩), .int .u64 (u : Int), .int .i64 (k : Int)] w (PutAllOk w B p o ao L (N * 2 ^ cost u k + cod u k, L + cost u k)) := by
  have hu : u < 18446744073709551616 := by unfold coded at hc; omega
  have HU := hid (us_new w u hu 42)
  have HW := hid (Wr.alloc hw (.cells #[.int .u64 (u : Int)] 42))
  have hlt0 : ∀ g, blk ao = some g → g < w.heap.size ∧ g ≠ p := fun g hg => ⟨(hw.rlt g hg).2, fun e => hw.far (e ▸ hg)⟩
  have hpl := hw.plt
  have hP := Pushed.alloc p (fun g hg => (hlt0 g hg).1) (L / 8) (.cells #[.int .u64 (u : Int)] 42)
  have HP := hid hP
  have HLT := hid hlt0
  clear hlt0 hP
  go_enter Try.func109, Try.ntmps109
  go_wp2_with fail
  refine (putall_ok B p o _ 1 _ _ _ _ k hk ao acap N L _ HW.out HU.out (fun _ => ⟨by omega, fun e => by have := (HLT.out _ e).1; omega⟩) (fun i _ => hc) hL (by decide)).mono ?_
  rintro e w1 ⟨rfl, ao1, cap1, hw1, hp1⟩
  have hfin : Wrote w B p o ao L (N * 2 ^ cost u k + cod u k) (L + cost u k) w1 := ⟨ao1, cap1, hw1, HP.out.trans hp1 (Nat.le_refl _) HLT.out⟩
  clear hw1 hp1
  go_wp2_with fail
  go_ret
  exact ⟨rfl, hfin⟩
end Go.Proofs.Ytjimamjhakainaa.Rice
/- The statements' fixed calls of rice: they answer true, and nothing that was there has turned. No condition. -/
namespace Go.Proofs.Ytjimamjhakainaa.Rice
open Go.RowKit Bit

theorem new_writer' (w : World) (t : TypeId) (B : Nat) (hB : B ≤ w.heap.size) : WrN (w.alloc (.cells #[.slice none 0 0, .int .u64 0, .int .i64 0] t)) B w.heap.size 0 none 0 0 0 := by
  refine ⟨?_, ?_, ?_, ?_, ?_, ?_, ?_, ?_, hB⟩
  · simp
  · simp
  · simp
  · simp
  · simp
  · simp
  · exact World.ownsRow_nil _ _ _ _
  · simp [blk]

/-- What a writer's calls leave below B, where the writer and its row lie from B on. -/
theorem pushed_below {w w' : World} {p B : Nat} {ao ao' : Option Addr} {k : Nat} (h : Pushed w w' p ao ao' k) (hp : B ≤ p) (hr : ∀ g, blk ao = some g → B ≤ g) (hB : B ≤ w.heap.size) : Below B w w' :=
  ⟨h.fr.os, h.fr.tape, h.fr.output, h.fr.size, fun k hk => h.fr.block k (by omega) (by
    rintro (e | e)
    · omega
    · have := hr k e; omega)⟩

theorem conv_row {w : World} {g m : Nat} {f : Nat → Nat} (h : w.rowIs g 5 m (fun i => .int .u8 (f i : Int))) :
    (convert 41 9 (.slice (some ⟨g, 0, none⟩) m m)).run Try.prog w = .ok (.string (strOfNums ((List.range m).map fun i => (f i : Int)))) w := by
  refine run_convert_bytes_arg (P := Try.prog) w 41 5 Try.underlying41 Try.underlying5 g 0 m m _ (by simp) ?_ 9 Try.underlying9
  intro i hi
  rw [Nat.zero_add, h.cell hi]
  simp [List.getD, hi]

end Go.Proofs.Ytjimamjhakainaa.Rice
