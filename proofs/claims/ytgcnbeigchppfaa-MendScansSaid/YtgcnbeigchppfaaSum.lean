/- Sum and Next of the table, of bytes in memory, and the document's own. Conditions: fewer than 2^40 bytes. -/
import Derived.Test.YtgcnbeigchppfaaTable
namespace Go.Proofs.Ytgcnbeigchppfaa.Crc
open Go.RowKit

/-- Bytes, as they lie behind a slice. -/
structure Bytf (w : World) (a : Option Addr) (len : Nat) (f : Nat → Nat) : Prop where
  lt : ∀ i, f i < 256
  at_ : ∀ j, j < len → ∃ b off, a = some ⟨b, off, none⟩ ∧ w.cell? ⟨b, off + j, none⟩ = some (.int .u8 (f j : Int))
set_option maxRecDepth 100000 in
theorem Bytf.keep {w w' : World} {a : Option Addr} {len : Nat} {f : Nat → Nat} (h : Bytf w a len f) (e : Below w.heap.size w w') : Bytf w' a len f :=
  ⟨h.lt, fun j hj => by
    obtain ⟨b, off, ha, hc⟩ := h.at_ j hj
    exact ⟨b, off, ha, (e.cell (p := ⟨b, off + j, none⟩) (World.block_lt_of_cell? w _ hc)).trans hc⟩⟩
set_option maxRecDepth 100000 in
theorem Bytf.take {w : World} {a : Option Addr} {len : Nat} {f : Nat → Nat} (h : Bytf w a len f) (n : Nat) (hn : n ≤ len) : Bytf w a n f := ⟨h.lt, fun j hj => h.at_ j (by omega)⟩

set_option maxRecDepth 100000 in
theorem not32 {x : Nat} (h : x < 4294967296) : bits .xor .u32 IntKind.u32.max (x : Int) = ((nt x : Nat) : Int) := by
  rw [show IntKind.u32.max = ((4294967295 : Nat) : Int) from rfl, xor32 _ _ (by decide) h, Nat.xor_comm]; rfl
set_option maxRecDepth 100000 in
theorem sg32 : IntKind.u32.signed = false := rfl
set_option maxRecDepth 100000 in
theorem run_step (f : Nat → Nat) (k x : Nat) : run f (k + 1) x = ei (run f k x ^^^ f k) := rfl

set_option maxRecDepth 100000 in
theorem next_nil (s : Value) (b : Value) (w : World) : Calls Try.prog 82 #[.pointer none, s, b] w fun e w' => e = .returned (.int .u32 0) ∧ w = w' := by
  go_enter Try.func82, Try.ntmps82
  go_wp2_with fail
  go_ret
  exact ⟨rfl, rfl⟩

set_option maxRecDepth 100000 in
theorem next_any {w : World} {g : Nat} (h : Tab w g) (s : Nat) (hs : s < 4294967296) {a : Option Addr} {len cap : Nat} {f : Nat → Nat} (hb : Bytf w a len f) (hl : len ≤ 1099511627776) :
    Calls Try.prog 82 #[.pointer (some ⟨g, 0, none⟩), .int .u32 (s : Int), .slice a len cap] w fun e w' => e = .returned (.int .u32 (sm f len s : Int)) ∧ w = w' := by
  have hn := nt_lt hs
  have hsg := sg32
  have hnot := not32 hs
  go_enter Try.func82, Try.ntmps82
  go_wp2_with fail
  clear hnot
  go_loop [7, 9, 16] (fun v _ i => ∃ k : Nat, k ≤ len ∧ i = .int .i64 k ∧ v = .int .u32 (run f k (nt s) : Int)) (fun _ _ i => len - (intOf i).toNat)
  case atStart => exact ⟨0, Nat.zero_le _, rfl, rfl⟩
  case round =>
    obtain ⟨k, hk, rfl, rfl⟩ := hrel
    have hr := run_lt hb.lt k (nt s) hn
    by_cases hlt : k < len
    · obtain ⟨b, off, rfl, hc⟩ := hb.at_ k hlt
      have hf := hb.lt k
      go_wp2_with fail
      refine (pass_any h _ _ hr hf).mono ?_
      rintro e w' ⟨rfl, rfl⟩
      go_wp2_with fail
      go_round
      case rel => exact ⟨k + 1, by omega, by go_num, by rw [run_step]⟩
      case measure => simp [intOf]; omega
    · obtain rfl : k = len := by omega
      have hnot := not32 hr
      go_wp2_with fail
      go_ret
      exact ⟨rfl, rfl⟩
set_option maxRecDepth 100000 in
theorem sum_nil (b : Value) (w : World) : Calls Try.prog 73 #[.pointer none, b] w fun e w' => e = .returned (.int .u32 0) ∧ w = w' := by
  go_enter Try.func73, Try.ntmps73
  go_wp2_with fail
  refine (next_nil _ _ _).mono ?_
  rintro e w' ⟨rfl, rfl⟩
  go_wp2_with fail
  go_ret
  exact ⟨rfl, rfl⟩
set_option maxRecDepth 100000 in
theorem sum_any {w : World} {g : Nat} (h : Tab w g) {a : Option Addr} {len cap : Nat} {f : Nat → Nat} (hb : Bytf w a len f) (hl : len ≤ 1099511627776) :
    Calls Try.prog 73 #[.pointer (some ⟨g, 0, none⟩), .slice a len cap] w fun e w' => e = .returned (.int .u32 (sm f len 0 : Int)) ∧ w = w' := by
  go_enter Try.func73, Try.ntmps73
  go_wp2_with fail
  refine (next_any h 0 (by decide) hb hl).mono ?_
  rintro e w' ⟨rfl, rfl⟩
  go_wp2_with fail
  go_ret
  exact ⟨rfl, rfl⟩
set_option maxRecDepth 100000 in
theorem rnext_any {w : World} (s : Nat) (hs : s < 4294967296) {a : Option Addr} {len cap : Nat} {f : Nat → Nat} (hb : Bytf w a len f) (hl : len ≤ 1099511627776) :
    Calls Try.prog 52 #[.int .u32 (s : Int), .slice a len cap] w fun e w' => e = .returned (.int .u32 (sm f len s : Int)) ∧ w = w' := by
  have hn := nt_lt hs
  have hnot : bits .xor .u32 (s : Int) 4294967295 = ((nt s : Nat) : Int) := xor32 s 4294967295 hs (by decide)
  go_enter Try.func52, Try.ntmps52
  go_wp2_with fail
  clear hnot
  go_loop [5, 6] (fun v i => ∃ k : Nat, k ≤ len ∧ i = .int .i64 k ∧ v = .int .u32 (run f k (nt s) : Int)) (fun _ i => len - (intOf i).toNat)
  case atStart => exact ⟨0, Nat.zero_le _, rfl, rfl⟩
  case round =>
    obtain ⟨k, hk, rfl, rfl⟩ := hrel
    have hr := run_lt hb.lt k (nt s) hn
    by_cases hlt : k < len
    · obtain ⟨b, off, rfl, hc⟩ := hb.at_ k hlt
      have hf := hb.lt k
      have hxx := xor32 _ _ hr (show f k < 4294967296 by omega)
      have hxl := xor_lt hr (show f k < 4294967296 by omega)
      go_wp2_with fail
      refine (eight_any _ hxl _).mono ?_
      rintro e w' ⟨rfl, rfl⟩
      clear hxx
      go_wp2_with fail
      go_round
      case rel => exact ⟨k + 1, by omega, by go_num, by rw [run_step]⟩
      case measure => simp [intOf]; omega
    · obtain rfl : k = len := by omega
      have hnot : bits .xor .u32 (run f k (nt s) : Int) 4294967295 = ((nt (run f k (nt s)) : Nat) : Int) := xor32 _ 4294967295 hr (by decide)
      go_wp2_with fail
      go_ret
      exact ⟨rfl, rfl⟩
set_option maxRecDepth 100000 in
theorem rsum_any {w : World} {a : Option Addr} {len cap : Nat} {f : Nat → Nat} (hb : Bytf w a len f) (hl : len ≤ 1099511627776) :
    Calls Try.prog 38 #[.slice a len cap] w fun e w' => e = .returned (.int .u32 (sm f len 0 : Int)) ∧ w = w' := by
  go_enter Try.func38, Try.ntmps38
  go_wp2_with fail
  refine (rnext_any 0 (by decide) hb hl).mono ?_
  rintro e w' ⟨rfl, rfl⟩
  go_wp2_with fail
  go_ret
  exact ⟨rfl, rfl⟩

def kf (i : Nat) : Nat := if i < 9 then 49 + i else 0
set_option maxRecDepth 100000 in
theorem kf_lt (i : Nat) : kf i < 256 := by unfold kf; split <;> omega
set_option maxRecDepth 100000 in
theorem kf_sum : sm kf 9 0 = 3421780262 := by decide +kernel
set_option maxRecDepth 100000 in
theorem bytf_known (w : World) : Bytf (w.alloc (.cells #[.int .u8 49, .int .u8 50, .int .u8 51, .int .u8 52, .int .u8 53, .int .u8 54, .int .u8 55, .int .u8 56, .int .u8 57] 5)) (some ⟨w.heap.size, 0, none⟩) 9 kf := by
  refine ⟨kf_lt, fun j hj => ⟨w.heap.size, 0, rfl, ?_⟩⟩
  rw [World.cell?_alloc_at _ _ _ _ rfl]
  match j, hj with
  | 0, _ | 1, _ | 2, _ | 3, _ | 4, _ | 5, _ | 6, _ | 7, _ | 8, _ => rfl
set_option maxRecDepth 100000 in
theorem bytf_none (w : World) (f : Nat → Nat) (hf : ∀ i, f i < 256) : Bytf w none 0 f := ⟨hf, fun _ hj => absurd hj (Nat.not_lt_zero _)⟩

end Go.Proofs.Ytgcnbeigchppfaa.Crc
