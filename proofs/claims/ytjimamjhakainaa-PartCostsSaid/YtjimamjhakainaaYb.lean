/- The list of a list's Zigs, in the program and in the document; how many noughts, what the widest needs, and whether it is coded, in the document; Need of both. Conditions: those of the memory's own form alone. -/
import Derived.Test.YtjimamjhakainaaYm
namespace Go.Proofs.Ytjimamjhakainaa.Part
open Go.RowKit Bit Rice Runs

theorem Try.info42 : (Try.prog.info? 42).map (fun i => (i.zero, i.size, i.bytes)) = some (some (.int .u64 0), 1, 8) := by kernel_rfl
/-- A list of Zigs in new memory. -/
def ZsPost (w : World) (I : Nat → Int) (len : Nat) (e : Ending) (w' : World) : Prop := ∃ (lo : Option Addr) (lcap b : Nat), e = .returned (.slice lo len lcap) ∧ Us w' lo len b 0 (zs I) ∧ w.heap.size ≤ b ∧ Below w.heap.size w w'
set_option maxRecDepth 20000 in
theorem zigs_any (w : World) (a : Option Addr) (len cap b off : Nat) (I : Nat → Int) (h : Is w a len cap b off I) (hlen : len ≤ 1048576) :
    Calls Try.prog 59 #[.slice a len cap] w (ZsPost w I len) := by
  have H := hid h
  have hlt := h.lt
  have HLT := hid hlt
  have hmk : ∀ w, (Instr.makeSlice 63 (.int .i64 (len : Int)) (.int .i64 (len : Int))).run Try.prog w = .ok (.slice (some ⟨w.heap.size, 0, none⟩) len len) (w.alloc (.cells (madeCells #[.int .u64 0] len) 42)) := fun w =>
    run_make_row' (P := Try.prog) 63 42 (.int .u64 0) 8 Try.underlying63 Try.info42 rfl .i64 .i64 len (by omega) (by omega) w
  have hst : (w.alloc (.cells (madeCells #[.int .u64 0] len) 42)).rowIs w.heap.size 42 len (fun i => if i < 0 then .int .u64 (zs I i : Int) else .int .u64 0) :=
    (World.rowIs_made w (.int .u64 0) len 42).congr fun i hi => by rw [if_neg (by omega)]
  have hb0 : Below w.heap.size w (w.alloc (.cells (madeCells #[.int .u64 0] len) 42)) := (Below.refl _ _).alloc (Nat.le_refl _) _
  clear h hlt
  go_enter Try.func59, Try.ntmps59
  go_wp2_with fail
  clear hmk
  go_loopg [11] len (fun g i wr => ∃ j : Nat, j ≤ len ∧ g = len - j ∧ i = .int .i64 j ∧ Below w.heap.size w wr ∧ wr.rowIs w.heap.size 42 len (fun i => if i < j then .int .u64 (zs I i : Int) else .int .u64 0))
  case atStart => exact ⟨0, Nat.zero_le _, rfl, rfl, hb0, hst⟩
  case round =>
    obtain ⟨j, hj, hg, rfl, hb, hrow⟩ := hrel
    have HG := hid hg
    clear hg hst hb0
    by_cases hlt : j < len
    · have hlt2 : (j : Int) < (len : Int) := by omega
      obtain rfl := H.out.addr (by omega)
      have ck := (H.out.below hb HLT.out).c j hlt
      have hib := H.out.ib j hlt
      have hc := hrow.cell hlt
      have hf := hrow.frozen j
      have HI := hid hib
      clear hib
      go_wp2_with fail
      refine (zig_any (I j) HI.out wr).mono ?_
      rintro e w' ⟨rfl, rfl⟩
      go_wp2_with fail
      go_roundg (len - (j + 1))
      case measure => rw [HG.out]; omega
      case rel =>
        refine ⟨j + 1, by omega, rfl, by go_num, hb.setCell (p := ⟨w.heap.size, j, none⟩) (Nat.le_refl _) _, (hrow.set j (.int .u64 (zg (I j) : Int))).congr fun k hk => ?_⟩
        by_cases e : k = j
        · subst e; rw [if_pos rfl, if_pos (by omega)]; rfl
        · rw [if_neg e]
          by_cases e2 : k < j
          · rw [if_pos e2, if_pos (by omega)]
          · rw [if_neg e2, if_neg (by omega)]
    · have hge : ¬ (j : Int) < (len : Int) := by omega
      obtain rfl : j = len := by omega
      have hfin : ZsPost w I j (.returned (.slice (some ⟨w.heap.size, 0, none⟩) j j)) wr := ⟨_, j, w.heap.size, rfl, ⟨fun _ => rfl, fun i hi => by
        have := hrow.cell hi
        rw [if_pos hi] at this
        rw [Nat.zero_add]
        exact this, fun i hi => zg_lt (H.out.ib i hi), fun _ => hrow.lt, by omega⟩, Nat.le_refl _, hb⟩
      clear hrow hb
      go_wp2_with fail
      go_ret
      exact hfin

theorem fits_eq (u : Nat) : decide ((u : Int) < 1099511627776) = decide (coded u) := decide_eq_decide.2 (by unfold coded; omega)
set_option maxRecDepth 20000 in
theorem fits_any (x : Int) (h : -9223372036854775808 ≤ x ∧ x ≤ 9223372036854775807) (w : World) : Calls Try.prog 34 #[.int .i64 x] w fun e w' => e = .returned (.bool (decide (coded (zg x)))) ∧ w = w' := by
  have hz := rzig_any x h w
  have hc := fits_eq (zg x)
  generalize decide (coded (zg x)) = y at *
  generalize zg x = u at *
  go_enter Try.func34, Try.ntmps34
  go_wp2_with fail
  refine hz.mono ?_
  rintro e w' ⟨rfl, rfl⟩
  clear hz
  go_wp2_with fail
  go_ret
  exact ⟨rfl, rfl⟩
theorem rmay_any (w : World) (a : Option Addr) (len cap b off : Nat) (I : Nat → Int) (h : Is w a len cap b off I) :
    Calls Try.prog 11 #[.slice a len cap] w (CdPost w I len) := by
  have H := hid h
  have hl := h.hl
  have hc := h.hc
  clear h
  by_cases hlen : len ≤ 65536
  · have hl2 : ¬ (65536 : Int) < (len : Int) := by omega
    go_enter Try.func11, Try.ntmps11
    go_wp2_with fail
    go_loopg [3] len (fun g i wr => ∃ k : Nat, k ≤ len ∧ g = len - k ∧ i = .int .i64 k ∧ w = wr ∧ allZ I k)
    case atStart => exact ⟨0, Nat.zero_le _, rfl, rfl, rfl, fun j hj => absurd hj (Nat.not_lt_zero _)⟩
    case round =>
      obtain ⟨k, hk, hg, rfl, rfl, hall⟩ := hrel
      have HG := hid hg
      have HA := hid hall
      clear hg hall
      by_cases hlt : k < len
      · have hlt2 : (k : Int) < (len : Int) := by omega
        obtain rfl := H.out.addr (by omega)
        have ck := H.out.c k hlt
        go_wp2_with fail
        refine (fits_any (I k) (H.out.ib k hlt) w).mono ?_
        rintro e w' ⟨rfl, rfl⟩
        by_cases hc : coded (zg (I k))
        · rw [decide_eq_true hc]
          go_wp2_with fail
          go_roundg (len - (k + 1))
          case measure => rw [HG.out]; omega
          case rel => exact ⟨k + 1, by omega, rfl, by go_num, rfl, fun j hj => by
            by_cases e : j = k
            · rw [e]; exact hc
            · exact HA.out j (by omega)⟩
        · rw [decide_eq_false hc]
          have hfin : CdPost w I len (.returned (.bool false)) w := ⟨false, rfl, rfl, ⟨fun h => (Bool.noConfusion h), fun h => absurd (h.2 k hlt) hc⟩⟩
          go_wp2_with fail
          go_ret
          exact hfin
      · have hge : ¬ (k : Int) < (len : Int) := by omega
        obtain rfl : k = len := by omega
        have hfin : CdPost w I k (.returned (.bool true)) w := ⟨true, rfl, rfl, ⟨fun _ => ⟨hlen, HA.out⟩, fun _ => rfl⟩⟩
        go_wp2_with fail
        go_ret
        exact hfin
  · have hl2 : (65536 : Int) < (len : Int) := by omega
    have hfin : CdPost w I len (.returned (.bool false)) w := ⟨false, rfl, rfl, ⟨fun h => (Bool.noConfusion h), fun h => absurd h.1 hlen⟩⟩
    go_enter Try.func11, Try.ntmps11
    go_wp2_with fail
    go_ret
    exact hfin
theorem none_any (w : World) (a : Option Addr) (len cap b off : Nat) (I : Nat → Int) (h : Is w a len cap b off I) :
    Calls Try.prog 35 #[.slice a len cap] w fun e w' => e = .returned (.int .i64 (nz I len : Int)) ∧ w = w' := by
  have H := hid h
  have hl := h.hl
  have hc := h.hc
  clear h
  go_enter Try.func35, Try.ntmps35
  go_wp2_with fail
  go_loopg [3, 4] len (fun g c i wr => ∃ k : Nat, k ≤ len ∧ g = len - k ∧ c = .int .i64 (nz I k : Int) ∧ i = .int .i64 k ∧ w = wr)
  case atStart => exact ⟨0, Nat.zero_le _, rfl, rfl, rfl, rfl⟩
  case round =>
    obtain ⟨k, hk, hg, rfl, rfl, rfl⟩ := hrel
    have HG := hid hg
    clear hg
    by_cases hlt : k < len
    · have hlt2 : (k : Int) < (len : Int) := by omega
      obtain rfl := H.out.addr (by omega)
      have ck := H.out.c k hlt
      have HN := hid (show nz I (k + 1) = if I k = 0 then nz I k + 1 else nz I k from rfl)
      have hz := nz_le I k
      by_cases hc0 : I k = 0
      · have hb : (I k == 0) = true := by rw [hc0]; rfl
        rw [if_pos hc0] at HN
        generalize I k = x at *
        generalize nz I k = y at *
        clear hc0
        go_wp2_with fail
        go_roundg (len - (k + 1))
        case measure => rw [HG.out]; omega
        case rel => exact ⟨k + 1, by omega, rfl, by rw [HN.out]; go_num, by go_num, rfl⟩
      · have hb : (I k == 0) = false := beq_eq_false_iff_ne.2 hc0
        rw [if_neg hc0] at HN
        generalize I k = x at *
        generalize nz I k = y at *
        clear hc0
        go_wp2_with fail
        go_roundg (len - (k + 1))
        case measure => rw [HG.out]; omega
        case rel => exact ⟨k + 1, by omega, rfl, by rw [HN.out], by go_num, rfl⟩
    · have hge : ¬ (k : Int) < (len : Int) := by omega
      obtain rfl : k = len := by omega
      go_wp2_with fail
      go_ret
      exact ⟨rfl, rfl⟩
