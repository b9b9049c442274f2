/- The document's Weave. Condition: the sound lies in memory as its lists. -/
import Derived.Test.YtkdpalmdcnpnoaaWe
import Derived.Test.YtkdpalmdcnpnoaaRk
import Derived.Test.YtkdpalmdcnpnoaaSm
import Derived.Deep.Matrix
import Derived.Deep.Strs
import Derived.OpenShut
import Derived.Test.YtkdpalmdcnpnoaaByt
import Derived.Test.YtkdpalmdcnpnoaaRows
import Derived.ProofKit
import Derived.Deep.Slices
import Derived.Test.YtkdpalmdcnpnoaaW3
import Derived.Deep.RegionHeld3
import Derived.Test.YtkdpalmdcnpnoaaY1
import Derived.Test.YtkdpalmdcnpnoaaY2
namespace Go.Proofs.Ytkdpalmdcnpnoaa.Pcm
open Go.RowKit Gen

set_option maxHeartbeats 1600000 in
set_option maxRecDepth 100000 in
theorem rweave_any (w : World) (d : Dat) (h : Snd w d) : Calls Try.prog 52 #[d.v] w (WeavePost w d) := by
  have HCT := hid fun w' (hb : Below w.heap.size w w') => rcount_any w' d (h.below hb)
  have HCK := hid fun w' (hb : Below w.heap.size w w') => rcheck_any w' d (h.below hb)
  have HB0 := hid (below_new w (.cells #[.int .i64 d.f.ch, .int .i64 d.f.bits, .int .i64 d.f.rate, .slice d.a d.n d.cap] 26))
  have HX0 := hid (bx_new w d)
  have H := hid h
  clear h
  show Calls Try.prog 52 #[.agg #[.int .i64 d.f.ch, .int .i64 d.f.bits, .int .i64 d.f.rate, .slice d.a d.n d.cap]] w _
  unfold Dat.v at HCT HCK
  obtain ⟨i0, hi, hz0, hz1, hz2⟩ := info_parts Try.info3
  go_enter Try.func52, Try.ntmps52
  go_wp2_with fail
  refine (HCK.out _ HB0.out).mono ?_
  rintro e w1 ⟨rfl, hb1⟩
  have HB1 := hid (HB0.out.trans (hb1.mono HB0.out.size))
  have HX1 := hid (HX0.out.below hb1)
  clear hb1
  by_cases hc : d.chk = 0
  · have HOK := hid (chk_ok hc)
    have HC := hid hc
    have HAD := hid (H.out.addr HOK.out.2.2.2.1)
    rw [hc]
    have hn8 := HOK.out.2.2.1
    have hcnt := HOK.out.2.2.2.2.1
    have hprod : d.n * d.cnt ≤ 8 * 4294967295 := Nat.mul_le_mul hn8 hcnt
    obtain ⟨C, hC⟩ : ∃ C, C = d.n * d.cnt := ⟨_, rfl⟩
    have hCb : C ≤ 34359738360 := by omega
    have HCC := hid hC
    have HLEN : Hid ((if d.chk = 0 then d.n * d.cnt else 0) = C) := hid (by rw [if_pos hc, hC])
    have HV0 : Hid (Wv w w1 w.heap.size d none 0 0) := hid ⟨World.ownsRow_nil _ _ _ _, by simp [blk], HX1.out, HB1.out⟩
    clear hc hC hprod
    go_wp2_with fail
    go_loopg [5, 6, 7] d.cnt (fun g v i z wr => ∃ (k : Nat) (lo : Option Addr) (lcap : Nat) (zz : Value), k ≤ d.cnt ∧ g = d.cnt - k ∧ i = .int .i64 k ∧ v = .slice lo (k * d.n) lcap ∧ z = zz ∧ Wv w wr w.heap.size d lo lcap (k * d.n))
    case atStart => exact ⟨0, none, 0, _, Nat.zero_le _, rfl, rfl, by rw [Nat.zero_mul], rfl, by rw [Nat.zero_mul]; exact HV0.out⟩
    case round =>
      obtain ⟨k, lo, lcap, zz, hk, hg, rfl, rfl, rfl, hv⟩ := hrel
      have HG := hid hg
      have HV := hid hv
      clear hg hv
      obtain ⟨b0, b1, b2, b3⟩ := HV.out.bx
      go_wp2_with fail
      refine (HCT.out _ HV.out.below).mono ?_
      rintro e w3 ⟨rfl, hb3⟩
      have HV3 := hid (HV.out.upto hb3)
      clear hb3 b0 b1 b2 b3
      by_cases hlt : k < d.cnt
      · have hlt2 : (k : Int) < (d.cnt : Int) := by omega
        go_wp2_with fail
        go_loopg [5, 7] d.n (fun g v i wi => ∃ (c : Nat) (lo : Option Addr) (lcap : Nat), c ≤ d.n ∧ g = d.n - c ∧ i = .int .i64 c ∧ v = .slice lo (k * d.n + c) lcap ∧ Wv w wi w.heap.size d lo lcap (k * d.n + c))
        case atStart => exact ⟨0, _, _, Nat.zero_le _, rfl, rfl, rfl, HV3.out⟩
        case round =>
          obtain ⟨c, lo, lcap, hc, hg, rfl, rfl, hv⟩ := hrel
          have HG2 := hid hg
          have c3 := hv.bx.c3
          rw [HAD.out] at c3
          clear hg
          by_cases hcl : c < d.n
          · have hcl2 : (c : Int) < (d.n : Int) := by omega
            have hS := H.out.below hv.below
            have bk := hS.c c hcl
            obtain ⟨lb, loff, hls⟩ := hS.l c hcl
            have hlnc := HOK.out.2.2.2.2.2.1 c hcl
            rw [hlnc] at bk hls
            have HLA := hid (hls.addr (by omega))
            have bx := hls.c k hlt
            rw [HLA.out] at bk
            have HWV : Hid (d.wv (k * d.n + c) = d.X c k) := hid (by
              unfold Dat.wv
              rw [Nat.mul_comm k, Nat.mul_add_mod, Nat.mod_eq_of_lt hcl, Nat.mul_add_div (by omega), Nat.div_eq_of_lt hcl, Nat.add_zero])
            have hbound : k * d.n + c + 1 ≤ 34359738368 := by
              have : k * d.n ≤ d.cnt * d.n := Nat.mul_le_mul_right _ (by omega)
              have h2 : d.cnt * d.n = C := by rw [HCC.out, Nat.mul_comm]
              omega
            have hsz : w.heap.size ≤ (wr.alloc (.cells #[.int .i64 (d.X c k)] 3)).heap.size := by have := hv.below.size; simp; omega
            have hrow := (hv.upto (below_new wr (.cells #[.int .i64 (d.X c k)] 3))).row
            have hcell : (wr.alloc (.cells #[.int .i64 (d.X c k)] 3)).cell? ⟨wr.heap.size, 0, none⟩ = some (.int .i64 (d.X c k)) := by simp
            unfold Row at hrow
            have HVA := hid (hv.upto (below_new wr (.cells #[.int .i64 (d.X c k)] 3)))
            clear hls hS hlnc hv
            go_wp2_with (at_builtin; go_must (refine wpList_append_one rfl (.tmp 26) (.tmp 35) 55 rfl w.heap.size 3 i0 (.int .i64 0) 8 Try.underlying55 hi hz0 hz1 hz2 rfl lo (k * d.n + c) lcap (ivs d.wv (k * d.n + c)) rfl hrow ⟨wr.heap.size, 0, none⟩ 1 (.int .i64 (d.X c k)) rfl hcell rfl (by unfold maxLen; omega) (by omega) hsz ?_))
            intro gg cap' w4 hown4 hkept
            have hst : Wv w w4 w.heap.size d (some ⟨gg, 0, none⟩) cap' (k * d.n + (c + 1)) := by
              have hf : Fr (fun b => blk lo = some b) (wr.alloc (.cells #[.int .i64 (d.X c k)] 3)) w4 := (Fr.refl _ _).grown hkept.grown fun b hb _ => hb
              have hbp : w4.heap[w.heap.size]? = (wr.alloc (.cells #[.int .i64 (d.X c k)] 3)).heap[w.heap.size]? := hf.block _ HVA.out.bx.lt HVA.out.far
              have hcc : ∀ i, w4.cell? ⟨w.heap.size, i, none⟩ = (wr.alloc (.cells #[.int .i64 (d.X c k)] 3)).cell? ⟨w.heap.size, i, none⟩ := fun i => World.cell?_of_block (a := ⟨w.heap.size, i, none⟩) hbp
              refine ⟨?_, ?_, ⟨(hcc 0).trans HVA.out.bx.c0, (hcc 1).trans HVA.out.bx.c1, (hcc 2).trans HVA.out.bx.c2, (hcc 3).trans HVA.out.bx.c3⟩, HVA.out.below.grown hkept.grown HVA.out.below.size (fun b hb => (HVA.out.row.lt b hb).1)⟩
              · unfold Row
                rw [← Nat.add_assoc, ivs_succ, HWV.out]
                exact hown4
              · intro e
                have e1 : gg = w.heap.size := by simpa [blk] using e
                rcases hkept.at_ with h | h
                · exact HVA.out.far (by rw [h, e1])
                · have := HVA.out.bx.lt; omega
            have HST := hid hst
            clear hst hown4 hkept hrow hcell hsz bk bx c3
            go_wp2_with fail
            go_roundg (d.n - (c + 1))
            case measure => rw [HG2.out]; omega
            case rel => exact ⟨c + 1, _, _, by omega, rfl, by go_num, by rw [← Nat.add_assoc], HST.out⟩
          · have hce : ¬ (c : Int) < (d.n : Int) := by omega
            obtain rfl : c = d.n := by omega
            have hst : Wv w wr w.heap.size d lo lcap ((k + 1) * d.n) := by rw [Nat.add_mul, Nat.one_mul]; exact hv
            have HE : Hid (k * d.n + d.n = (k + 1) * d.n) := hid (by rw [Nat.add_mul, Nat.one_mul])
            have HST := hid hst
            clear hv hst
            go_wp2_with fail
            clear c3
            go_roundg (d.cnt - (k + 1))
            case measure => rw [HG.out]; omega
            case rel => exact ⟨k + 1, _, _, _, by omega, rfl, by go_num, by rw [HE.out], rfl, HST.out⟩
      · have hge : ¬ (k : Int) < (d.cnt : Int) := by omega
        obtain rfl : k = d.cnt := by omega
        have HCE : Hid (d.cnt * d.n = C) := hid (by rw [HCC.out, Nat.mul_comm])
        go_wp2_with fail
        go_ret2
        refine ⟨lo, lcap, d.cnt * d.n, by rw [HLEN.out, HCE.out], ?_, HV3.out.row, HV3.out.below⟩
        rw [HC.out]; rfl
  · have e0 : (d.chk != 0) = true := bne_iff_ne.2 hc
    have HLEN : Hid ((if d.chk = 0 then d.n * d.cnt else 0) = 0) := hid (if_neg hc)
    clear hc
    go_wp2_with fail
    go_ret2
    exact ⟨none, 0, 0, HLEN.out.symm, rfl, World.ownsRow_nil _ _ _ _, HB1.out⟩
end Go.Proofs.Ytkdpalmdcnpnoaa.Pcm
namespace Go.Proofs.Ytkdpalmdcnpnoaa.Pcm
open Go.ChangeShapes Go.WideShapes Go.RowKit

set_option maxRecDepth 20000 in
theorem cells26 : Try.prog.cellsOf 26 = 4 := by kernel_rfl
set_option maxRecDepth 20000 in
theorem cells23 : Try.prog.cellsOf 23 = 3 := by kernel_rfl
set_option maxRecDepth 20000 in
theorem cells24 : Try.prog.cellsOf 24 = 1 := by kernel_rfl
set_option maxRecDepth 20000 in
theorem cells42 : Try.prog.cellsOf 55 = 1 := by kernel_rfl
set_option maxRecDepth 20000 in
theorem cells3 : Try.prog.cellsOf 3 = 1 := by kernel_rfl

set_option maxRecDepth 20000 in
theorem is_open {W : World} {A : Option Addr} {L C : Nat} {Z : List Int} (hLC : L ≤ C) (hC : C ≤ maxLen) (hn : A = none → C = 0) (hc : ∀ a', A = some a' → ∀ c, c < C → W.cell? (a'.add c) = some (.int .i64 (Z.getD c 0))) : Is W A L (fun c => Z.getD c 0) := by
  have hm : maxLen ≤ 9223372036854775807 := by decide
  cases A with
  | none =>
    have := hn rfl
    exact ⟨0, 0, fun h => by omega, fun i hi => by omega, fun h => by omega, by omega⟩
  | some a =>
    obtain ⟨b, o, s⟩ := a
    have key : ∀ i, i < L → s = none ∧ W.cell? ⟨b, o + i, none⟩ = some (.int .i64 (Z.getD i 0)) := fun i hi => by
      have h0 := hc _ rfl i (by omega)
      have hs : s = none := by simpa [Addr.add] using World.cell?_spot (hc _ rfl 0 (by omega))
      subst hs
      exact ⟨rfl, by rw [add_plain] at h0; exact h0⟩
    exact ⟨b, o, fun h => by rw [(key 0 h).1], fun i hi => (key i hi).2, fun h => World.block_lt_of_cell? _ _ (key 0 h).2, by omega⟩

set_option maxRecDepth 20000 in
theorem sound_open {H : Type} {enc : TypeId × Value → H} {W : World} {b0 : Nat} {v : Value} {d : DataW H} {p : List MemPlace} (hv : Value.okWide Try.prog W .any b0 26 v) (h : DataW.Trod enc Try.prog W 0 (fun _ => true) true 26 v d p) :
    ∃ s : Dat, v = s.v ∧ Snd W s ∧ s.n ≤ s.cap ∧ ∀ i, i < s.n → s.ln i ≤ s.lc i := by
  obtain ⟨cs, rfl, hsz⟩ := okWide_struct Try.underlying26 hv
  rw [cells26] at hsz
  obtain ⟨l⟩ := cs
  match l, hsz with
  | [c0, c1, c2, c3], _ =>
  obtain ⟨fuel, hf⟩ := h
  obtain ⟨y0, y1, m, hx, _, hy0, hy1⟩ := trod_struct2 Try.underlying26 hf
  simp [Value.cells, cells23, cells24] at hy0 hy1
  obtain ⟨z0, z1, z2, m', _, _, h0, h1, h2⟩ := Deep.trod_struct3 Try.underlying23 hy0
  obtain ⟨ch, e0, _, _⟩ := DataW.trod_int Try.underlying3 h0
  obtain ⟨bits, e1, _, _⟩ := DataW.trod_int Try.underlying3 h1
  obtain ⟨rate, e2, _, _⟩ := DataW.trod_int Try.underlying3 h2
  simp [cells3] at e0 e1 e2
  subst e0 e1 e2
  rcases Deep.open_int_rows Try.underlying24 Try.underlying55 Try.underlying3 cells42 cells3 hy1 with ⟨hcs, _⟩ | ⟨a, len, cap, A, L, C, Z, hcs, _, hlc, hcm, _, hr⟩
  · simp at hcs
    subst hcs
    exact ⟨⟨⟨ch, bits, rate⟩, none, 0, 0, 0, 0, fun _ => none, fun _ => 0, fun _ => 0, fun _ _ => 0⟩, rfl, ⟨fun h => absurd h (Nat.lt_irrefl 0), fun i hi => absurd hi (Nat.not_lt_zero i), fun i hi => absurd hi (Nat.not_lt_zero i), fun h => absurd h (Nat.lt_irrefl 0), Nat.zero_le _⟩, Nat.le_refl _, fun i hi => absurd hi (Nat.not_lt_zero i)⟩
  · simp at hcs
    subst hcs
    have hm : maxLen ≤ 9223372036854775807 := by decide
    obtain ⟨b, o, sp⟩ := a
    have key : ∀ i, i < len → sp = none ∧ W.cell? ⟨b, o + i, none⟩ = some (.slice (A i) (L i) (C i)) := fun i hi => by
      have h0 := (hr i (by omega)).1
      have hs : sp = none := by simpa [Addr.add] using World.cell?_spot (hr 0 (by omega)).1
      subst hs
      exact ⟨rfl, by rw [add_plain] at h0; exact h0⟩
    exact ⟨⟨⟨ch, bits, rate⟩, some ⟨b, o, sp⟩, len, cap, b, o, A, L, C, fun i c => (Z i).getD c 0⟩, rfl,
      ⟨fun h => by rw [(key 0 h).1], fun i hi => (key i hi).2, fun i hi => is_open (hr i (Nat.lt_of_lt_of_le hi hlc)).2.1 (hr i (Nat.lt_of_lt_of_le hi hlc)).2.2.1 (hr i (Nat.lt_of_lt_of_le hi hlc)).2.2.2.2.2.1 (fun a' ha => ((hr i (Nat.lt_of_lt_of_le hi hlc)).2.2.2.2.2.2 a' ha).2), fun h => World.block_lt_of_cell? _ _ (key 0 h).2, show len ≤ _ by omega⟩,
      hlc, fun i hi => (hr i (Nat.lt_of_lt_of_le hi hlc)).2.1⟩
end Go.Proofs.Ytkdpalmdcnpnoaa.Pcm
namespace Go.Proofs.Ytkdpalmdcnpnoaa.Wv
open Go.ChangeShapes Go.WideShapes Go.ChangeAt Go.RowKit Gen

theorem cells5 : Try.prog.cellsOf 5 = 1 := by kernel_rfl
theorem open_bytes {H : Type} {enc : TypeId × Value → H} {W : World} {spare : Nat → Bool} {held : Bool} {fuel : Nat} {a : Option Addr} {len cap : Nat} {x : DataW H × List MemPlace}
    (hf : DataW.trod enc Try.prog W 0 spare held fuel 29 [.slice a len cap] = some x) : ∃ L : List Nat, L.length = len ∧ Byts W a L ∧ len ≤ cap ∧ cap ≤ 9223372036854775807 ∧ (a = none → len = 0 ∧ cap = 0) := by
  rcases Deep.open_slice Try.underlying29 hf with ⟨hcs, _⟩ | ⟨a', l, c, m, n, D, Pl, hcs, _, hlc, hcm, hm, _, hel⟩
  · simp at hcs
    obtain ⟨rfl, rfl, rfl⟩ := hcs
    exact ⟨[], rfl, Byts.nil _ _, Nat.le_refl _, by decide, fun _ => ⟨rfl, rfl⟩⟩
  · simp at hcs
    obtain ⟨rfl, rfl, rfl⟩ := hcs
    have hmx : maxLen = 9223372036854775807 := rfl
    have hlm : len ≤ m := by rw [hm]; split <;> omega
    by_cases h0 : len = 0
    · subst h0
      exact ⟨[], rfl, Byts.nil _ _, hlc, by omega, fun e => by cases e⟩
    rw [cells5] at hel
    have each : ∀ i, i < len → ∃ y : Nat, W.cell? ((a'.add (i * 1)).add 0) = some (.int .u8 (y : Int)) ∧ y < 256 := by
      intro i hi
      obtain ⟨cs', h1, h2⟩ := hel i (by omega)
      obtain ⟨_, hl3, hcell⟩ := World.cells?_some h1
      obtain ⟨k0, e0, _, w0⟩ := DataW.trod_int Try.underlying5 h2
      subst e0
      have hb := bounds_u8 w0
      refine ⟨k0.toNat, ?_, by omega⟩
      rw [hcell 0 (by omega)]
      simp; omega
    obtain ⟨b, off, spot⟩ := a'
    obtain ⟨y, hy⟩ := Deep.choose_lt each
    have hspot : spot = none := by
      have := (hy 0 (by omega)).1
      simpa [Addr.add] using World.cell?_spot this
    subst hspot
    have ea : ∀ i, ((⟨b, off, none⟩ : Addr).add (i * 1)).add 0 = ⟨b, off + i, none⟩ := fun i => by rw [Addr.add_lit, Addr.add_lit]; simp
    refine ⟨(List.range len).map y, by simp, ⟨fun z hz => ?_, fun j z hj => ⟨b, off, rfl, ?_⟩⟩, hlc, by omega, fun e => by cases e⟩
    · obtain ⟨i, hi, rfl⟩ := List.mem_map.1 hz
      exact (hy i (List.mem_range.1 hi)).2
    · rw [List.getElem?_map] at hj
      by_cases hjl : j < len
      · rw [List.getElem?_range hjl] at hj
        cases hj
        have := (hy j hjl).1; rw [ea] at this; exact this
      · rw [List.getElem?_eq_none (by simpa using Nat.le_of_not_lt hjl)] at hj
        cases hj
end Go.Proofs.Ytkdpalmdcnpnoaa.Wv
namespace Go.Proofs.Ytkdpalmdcnpnoaa.Wv
open Go.RowKit Gen Fld

/-- A WAV's bytes, of what follows its beginning. -/
def whb (l : List Nat) : List Nat := [82, 73, 70, 70] ++ le (l.length + 4) 4 ++ [87, 65, 86, 69] ++ l
theorem conv4a (w : World) : (convert 29 29 (.slice (some ⟨w.heap.size, 0, none⟩) 4 4)).run Try.prog (w.alloc (.cells #[.int .u8 82, .int .u8 73, .int .u8 70, .int .u8 70] 5)) = .ok (.slice (some ⟨w.heap.size, 0, none⟩) 4 4) (w.alloc (.cells #[.int .u8 82, .int .u8 73, .int .u8 70, .int .u8 70] 5 (4, 5))) :=
  Lib.run_convert_bytes_const (P := Try.prog) w 29 5 #[.int .u8 82, .int .u8 73, .int .u8 70, .int .u8 70] 4 4 Try.underlying29 Try.underlying5
set_option maxRecDepth 20000 in
theorem rwhole_any {w : World} {a : Option Addr} {c n : Nat} {l : List Nat} (hb : Byts w a l) (hn : l.length = n) (hnil : a = none → l.length = 0 ∧ c = 0) (hl : n ≤ 1073741824) :
    Calls Try.prog 23 #[.slice a n c] w (LW w (whb l)) := by
  obtain ⟨i0, hi, hz0, hz1, hz2⟩ := info_parts Try.info5
  have hcv := conv4a w
  have HBY := hid fun w' (h : Below w.heap.size w w') => hb.keep h
  have HNIL := hid hnil
  have hu := u64_small (n + 4) (by omega)
  rw [show ((n + 4 : Nat) : Int) = (n : Int) + 4 from rfl] at hu
  have HRB := hid fun w => (show Calls Try.prog 51 #[.int .u64 ((n : Int) + 4), .int .i64 4] w fun e w' => e = .returned (.slice (some ⟨w.heap.size, 0, none⟩) 4 4) ∧ NW w (some ⟨w.heap.size, 0, none⟩) 4 (le (n + 4) 4) w' from rb_any (n + 4) 4 (by omega) (by decide) w)
  have HN := hid hn
  have HS0 := hid (show NW w (some ⟨w.heap.size, 0, none⟩) 4 [82, 73, 70, 70] (w.alloc (.cells #[.int .u8 82, .int .u8 73, .int .u8 70, .int .u8 70] 5 (4, 5))) from ⟨lit_wr w [82, 73, 70, 70] 4 rfl (by decide) (by decide) (4, 5) (.inr (Nat.le_refl _)), bel_new w _⟩)
  have HCH := hid (show whb l = [82, 73, 70, 70] ++ le (n + 4) 4 ++ [87, 65, 86, 69] ++ l by unfold whb; rw [hn])
  clear hb hnil hn
  have HML := hid (le_len (n + 4) 4)
  obtain ⟨M, hM⟩ : ∃ M, M = le (n + 4) 4 := ⟨_, rfl⟩
  rw [← hM] at HML HRB HCH
  clear hM
  go_enter Try.func23, Try.ntmps23
  go_wp2_with fail
  generalize hW1 : w.alloc (.cells #[.int .u8 82, .int .u8 73, .int .u8 70, .int .u8 70] 5 (4, 5)) = w1 at *
  clear hW1 hcv hu
  refine (HRB.out _).mono ?_
  rintro e w2 ⟨rfl, h2⟩
  have HS2 := hid (HS0.out.keep h2.bel)
  have HB2 := hid h2.row
  have h2s := HS2.out.bel.size
  clear h2
  go_wp2_with (at_builtin; (refine (wpList_append_any w2 (by rfl) _ _ _ (by rfl) w.heap.size i0 _ Try.underlying29 hi hz0 hz1 hz2 rfl _ 4 4 [82, 73, 70, 70] rfl (by rfl) HS2.out.row _ 4 4 M HML.out (by rfl) HB2.out.byts (fun e => by cases e) (by omega) h2s ?_)))
  intro ao3 c3 w3 ho3 hg3 _
  have HN3 := hid (HS2.out.app ho3 hg3)
  have HL3 := hid (show ([82, 73, 70, 70] ++ M).length = 8 by rw [List.length_append, HML.out]; rfl)
  clear ho3 hg3 h2s HS2 HB2 HS0
  obtain ⟨L3, hL3⟩ : ∃ L3, L3 = [82, 73, 70, 70] ++ M := ⟨_, rfl⟩
  rw [← hL3] at HN3 HL3 HCH
  clear hL3
  have HN4 := hid (HN3.out.keep (bel_new w3 (.cells #[.int .u8 87, .int .u8 65, .int .u8 86, .int .u8 69] 5 (4, 5))))
  have HM4 := hid (show WR (w3.alloc (.cells #[.int .u8 87, .int .u8 65, .int .u8 86, .int .u8 69] 5 (4, 5))) w3.heap.size (some ⟨w3.heap.size, 0, none⟩) 4 [87, 65, 86, 69] from lit_wr w3 [87, 65, 86, 69] 4 rfl (by decide) (by decide) (4, 5) (.inr (Nat.le_refl _)))
  have h4s := HN4.out.bel.size
  have hcv := conv4 w3
  go_wp2_with (at_builtin; (refine (wpList_append_any (w3.alloc (.cells #[.int .u8 87, .int .u8 65, .int .u8 86, .int .u8 69] 5 (4, 5))) (by rfl) _ _ _ (by rfl) w.heap.size i0 _ Try.underlying29 hi hz0 hz1 hz2 rfl ao3 8 c3 L3 HL3.out (by rfl) HN4.out.row _ 4 4 [87, 65, 86, 69] rfl (by rfl) HM4.out.byts (fun e => by cases e) (by omega) h4s ?_)))
  intro ao5 c5 w5 ho5 hg5 _
  have HN5 := hid (HN4.out.app ho5 hg5)
  have HL5 := hid (show (L3 ++ [87, 65, 86, 69]).length = 12 by rw [List.length_append, HL3.out]; rfl)
  clear ho5 hg5 h4s HM4 HN4 HN3 hcv
  obtain ⟨L5, hL5⟩ : ∃ L5, L5 = L3 ++ [87, 65, 86, 69] := ⟨_, rfl⟩
  rw [← hL5] at HN5 HL5 HCH
  clear hL5
  have HBY5 := hid (HBY.out _ HN5.out.bel)
  have h5s := HN5.out.bel.size
  go_wp2_with (at_builtin; (refine (wpList_append_any w5 (by rfl) _ _ _ (by rfl) w.heap.size i0 _ Try.underlying29 hi hz0 hz1 hz2 rfl ao5 12 c5 L5 HL5.out (by rfl) HN5.out.row a n c l HN.out (by rfl) HBY5.out HNIL.out (by omega) h5s ?_)))
  intro ao6 c6 w6 ho6 hg6 _
  have HN6 := hid (HN5.out.app ho6 hg6)
  have HL6 := hid (show (L5 ++ l).length = 12 + n by rw [List.length_append, HL5.out, HN.out])
  clear ho6 hg6
  go_wp2_with fail
  go_ret
  rw [HCH.out]
  exact LW.of HL6.out HN6.out
end Go.Proofs.Ytkdpalmdcnpnoaa.Wv
namespace Go.Proofs.Ytkdpalmdcnpnoaa.Wv
open Go.RowKit Gen Fld Pcm

/-- The first woven samples' bytes. -/
def dtw (d : Dat) : Nat → List Nat
  | 0 => []
  | t + 1 => dtw d t ++ smp d.f.bits (d.wv t)
theorem dtw_len (d : Dat) : ∀ t, (dtw d t).length = t * wd d.f.bits
  | 0 => (Nat.zero_mul _).symm
  | t + 1 => by
    show (dtw d t ++ smp d.f.bits (d.wv t)).length = _
    rw [List.length_append, dtw_len d t, smp_len, Nat.succ_mul]
theorem dtw_in (d : Dat) (k : Nat) : ∀ j, j ≤ d.n → dtw d (k * d.n + j) = dtw d (k * d.n) ++ frp d k j
  | 0, _ => (List.append_nil _).symm
  | j + 1, hj => by
    show dtw d (k * d.n + j) ++ smp d.f.bits (d.wv (k * d.n + j)) = _ ++ (frp d k j ++ smp d.f.bits (d.X j k))
    rw [dtw_in d k j (by omega), List.append_assoc]
    have h : d.wv (k * d.n + j) = d.X j k := by
      unfold Dat.wv
      rw [Nat.mul_comm k, Nat.mul_add_mod, Nat.mod_eq_of_lt (by omega), Nat.mul_add_div (by omega), Nat.div_eq_of_lt (by omega), Nat.add_zero]
    rw [h]
theorem dtw_dta (d : Dat) : ∀ k, dtw d (k * d.n) = dta d k
  | 0 => by rw [Nat.zero_mul]; rfl
  | k + 1 => by
    rw [Nat.succ_mul, dtw_in d k d.n (Nat.le_refl _), dtw_dta d k]; rfl
theorem wv_in {d : Dat} (hk : d.chk = 0) : ∀ t, t < d.n * d.cnt → -(2 ^ (d.f.bits.toNat - 1) : Int) ≤ d.wv t ∧ d.wv t ≤ 2 ^ (d.f.bits.toNat - 1) - 1 := fun t ht => by
  obtain ⟨hr, hch, hn8, hn0, hcnt, hln, hfar⟩ := chk_ok hk
  have hi : t % d.n < d.n := Nat.mod_lt _ hn0
  have hj : t / d.n < d.cnt := Nat.div_lt_of_lt_mul ht
  unfold Dat.wv
  generalize t % d.n = i at *
  generalize t / d.n = j at *
  cases hb : beyond (2 ^ (d.f.bits.toNat - 1)) (d.X i j) with
  | true =>
    have h1 : anyB (fun j => beyond (2 ^ (d.f.bits.toNat - 1)) (d.X i j)) (d.ln i) = true := (any_iff _ _).2 ⟨j, by rw [hln i hi]; exact hj, hb⟩
    have h2 : d.far = true := (any_iff (fun i => anyB (fun j => beyond (2 ^ (d.f.bits.toNat - 1)) (d.X i j)) (d.ln i)) d.n).2 ⟨i, hi, h1⟩
    rw [hfar] at h2; cases h2
  | false =>
    unfold beyond at hb
    rw [Bool.not_eq_false', decide_eq_true_eq] at hb
    push_cast at hb
    exact hb
set_option maxRecDepth 20000 in
set_option maxHeartbeats 1000000 in
theorem rdata_any {w : World} {d : Dat} (h : Snd w d) (hk : d.chk = 0) : Calls Try.prog 22 #[d.v] w (LW w (dta d d.cnt)) := by
  obtain ⟨i0, hi, hz0, hz1, hz2⟩ := info_parts Try.info5
  obtain ⟨hr, hch, hn8, hn0, hcnt, hln, hfar⟩ := chk_ok hk
  have HFIN := hid (show dtw d (d.n * d.cnt) = dta d d.cnt by rw [Nat.mul_comm]; exact dtw_dta d d.cnt)
  have HWI := hid (wv_in hk)
  have HLEN := hid (dtw_len d)
  have hC : d.n * d.cnt ≤ 34359738360 := Nat.mul_le_mul hn8 hcnt
  obtain ⟨hr1, hr2, hr3⟩ := hr
  have hw3 := wd_le d.f.bits
  have HSM := hid fun t (ht : t < d.n * d.cnt) w => rsample_any (d.wv t) d.f.bits hr2.1 hr2.2 (HWI.out t ht).1 (HWI.out t ht).2 w
  have HSL := hid fun x => smp_len d.f.bits x
  have HNX := hid (show ∀ t, dtw d (t + 1) = dtw d t ++ smp d.f.bits (d.wv t) from fun _ => rfl)
  have HWV := hid fun w' (hb : Below w.heap.size w w') => rweave_any w' d (h.below hb)
  have hX := bx_new w d
  have HB0 := hid (bel_new w (.cells #[.int .i64 d.f.ch, .int .i64 d.f.bits, .int .i64 d.f.rate, .slice d.a d.n d.cap] 26))
  unfold Dat.v at HWV
  unfold WeavePost at HWV
  have HK := hid hk
  have HX0 := hid hX
  generalize wd d.f.bits = D at *
  show Calls Try.prog 22 #[.agg #[.int .i64 d.f.ch, .int .i64 d.f.bits, .int .i64 d.f.rate, .slice d.a d.n d.cap]] w _
  clear hr1 hr2 hr3 hch hn8 hn0 hcnt hln hfar hk HWI
  generalize hCC : d.n * d.cnt = C at *
  have HCC := hid hCC
  clear hCC
  obtain ⟨b0, b1, b2, b3⟩ := hX
  go_enter Try.func22, Try.ntmps22
  go_wp2_with fail
  generalize w.alloc (.cells #[.int .i64 d.f.ch, .int .i64 d.f.bits, .int .i64 d.f.rate, .slice d.a d.n d.cap] 26) = W0 at *
  refine (HWV.out _ HB0.out).mono ?_
  rintro e w1 ⟨lo, lcap, len, hle, rfl, hrow, hb1⟩
  rw [if_pos HK.out] at hle
  have hle2 := hle.symm
  clear hle
  subst hle2
  have HB1 := hid (HB0.out.trans (hb1.mono HB0.out.size))
  have HX1 := hid (HX0.out.below hb1)
  have HROW := hid hrow
  clear hb1 hrow b0 b1 b2 b3 HWV HX0
  rw [HK.out]
  go_wp2_with fail
  go_loopg [3, 6] C (fun gg v i wr => ∃ (t : Nat) (ao : Option Addr) (c : Nat), t ≤ C ∧ gg = C - t ∧ i = .int .i64 t ∧ v = .slice ao (dtw d t).length c ∧ Hid (NW w1 ao c (dtw d t) wr))
  case atStart => exact ⟨0, none, 0, Nat.zero_le _, rfl, rfl, rfl, hid ⟨⟨(fun _ h => by cases h), .inl ⟨rfl, rfl, rfl⟩⟩, Below.refl _ _⟩⟩
  case round =>
    obtain ⟨t, ao, c, ht, hg, rfl, rfl, HN⟩ := hrel
    have HG := hid hg
    clear hg
    by_cases hlt : t < C
    · have hlt2 : (t : Int) < (C : Int) := by omega
      have hlen := HLEN.out t
      have hlb : t * D ≤ 103079215080 := Nat.le_trans (Nat.mul_le_mul (Nat.le_trans ht hC) hw3) (by decide)
      rw [hlen]
      obtain ⟨g, hI⟩ := HROW.out.isb (by omega)
      obtain rfl := hI.addr (by omega)
      have HI := hid hI
      clear hI
      obtain ⟨m, hm⟩ : ∃ m, m = smp d.f.bits (d.wv t) := ⟨_, rfl⟩
      have HML := hid (HSL.out (d.wv t))
      have HNT := hid (HNX.out t)
      have HSMT := hid (HSM.out t hlt)
      rw [← hm] at HML HNT HSMT
      have HLT := hid hlen
      clear hlen hm
      obtain ⟨L, hL⟩ : ∃ L, L = dtw d t := ⟨_, rfl⟩
      rw [← hL] at HNT HN HLT
      clear hL
      have HCE := hid (show ∀ w', Below w1.heap.size w1 w' → w'.cell? ⟨g, t, none⟩ = some (.int .i64 (d.wv t)) ∧ w'.cell? ⟨w.heap.size, 1, none⟩ = some (.int .i64 d.f.bits) from fun w' hb => ⟨by have := (HI.out.below hb HI.out.lt).c t hlt; rwa [Nat.zero_add] at this, (HX1.out.below hb).c1⟩)
      have n0 := HN.out.keep (show Below wr.heap.size wr wr.drew from ⟨rfl, rfl, rfl, Nat.le_refl _, fun _ _ => rfl⟩)
      have s0 := HCE.out _ n0.bel
      obtain ⟨c1, b1⟩ := HCE.out _ HN.out.bel
      go_wp2_with fail
      go_region_held3 (fun w' => w'.cell? ⟨g, t, none⟩ = some (.int .i64 (d.wv t)) ∧ w'.cell? ⟨w.heap.size, 1, none⟩ = some (.int .i64 d.f.bits))
        (first | with_reducible exact s0 | with_reducible exact s1 | with_reducible exact s2 | go_keep)
        ((first
          | (go_at_call 53; (with_reducible refine (HSMT.out _).mono ?_); rintro e w5 ⟨a5, c5, rfl, h5⟩; have n1 := n0.keep h5.bel; have s1 := HCE.out _ n1.bel; have r5 := h5.nw.row)
          | (refine step_append_any (by rfl) _ _ _ (by rfl) w1.heap.size i0 _ Try.underlying29 hi hz0 hz1 hz2 rfl _ (t * D) _ L HLT.out (by rfl) n1.row _ m.length _ m rfl (by rfl) r5.byts r5.nil (by rw [HML.out]; omega) n1.bel.size ?_; intro ao3 c3 w3 ho3 hg3 _; have n3 := n1.app ho3 hg3; have s2 := HCE.out _ n3.bel)))
      have HN3 := hid n3
      rw [← HNT.out] at HN3
      have hl3 : t * D + m.length = (dtw d (t + 1)).length := by rw [HNT.out, List.length_append, HLT.out]
      clear s0 s1 s2 n0 n1 n3 h5 r5 ho3 hg3 c1 b1
      rw [hl3]
      clear hl3
      go_wp2_with fail
      go_roundg (C - (t + 1))
      case measure => rw [HG.out]; omega
      case rel => exact ⟨t + 1, ao3, c3, by omega, rfl, by go_num, rfl, HN3⟩
    · have hge : ¬ (t : Int) < (C : Int) := by omega
      obtain rfl : t = C := by omega
      have HF := hid (HN.out.mono HB1.out)
      rw [HFIN.out] at HF ⊢
      clear HN
      go_wp2_with fail
      go_ret
      exact LW.of rfl HF.out
end Go.Proofs.Ytkdpalmdcnpnoaa.Wv
namespace Go.Proofs.Ytkdpalmdcnpnoaa.Wv
open Go.RowKit Gen Fld Pcm

theorem whb_wby (d : Dat) (l1 l2 : List Nat) (h1 : l1 = fmtb d.n d.f.bits.toNat d.f.rate.toNat) (h2 : l2 = dta d d.cnt) : whb (chb [102, 109, 116, 32] l1 ++ chb [100, 97, 116, 97] l2) = wby d := by
  have e1 : l1.length = 16 := by rw [h1]; exact fmtb_len _ _ _
  have e2 : l2.length = dsz d := by rw [h2]; exact dta_len d d.cnt
  have e3 : (chb [102, 109, 116, 32] l1 ++ chb [100, 97, 116, 97] l2).length + 4 = 4 + 24 + (8 + dsz d + dsz d % 2) := by
    rw [List.length_append, chb_len, chb_len, e1, e2]
    simp only [List.length_cons, List.length_nil]
    omega
  unfold whb
  rw [e3]
  unfold chb wby hdr nsz
  rw [e1, e2, ← h1, ← h2]
  simp only [List.append_assoc]
  rfl
theorem WR.alt {w : World} {base : Nat} {ao : Option Addr} {cap : Nat} {l : List Nat} (h : WR w base ao cap l) : ∀ ad, ao = some ad → ad.block < w.heap.size := fun ad e => (h.blt ad.block (by rw [e]; rfl)).2
/-- What the document's Write leaves. -/
def RWrP (w : World) (d : Dat) (e : Ending) (w' : World) : Prop := ∃ ao cap, e = .returned (.tuple #[.slice ao (wlist d).length cap, .int .i64 d.chk]) ∧ NW w ao cap (wlist d) w'
theorem lw_at {w w' : World} {l : List Nat} {n : Nat} {e : Ending} (hn : l.length = n) (h : LW w l e w') : ∃ ao cap, e = .returned (.slice ao n cap) ∧ NW w ao cap l w' := by subst hn; exact h
set_option maxRecDepth 20000 in
set_option maxHeartbeats 2000000 in
theorem rwrite_ok {w : World} {d : Dat} (h : Snd w d) (hk : d.chk = 0) (hz : dsz d ≤ 268435456) (nb rt : Nat) (hbits : d.f.bits = (nb : Int)) (hrate : d.f.rate = (rt : Int)) :
    Calls Try.prog 11 #[.agg #[.int .i64 (d.n : Int), .int .i64 (nb : Int), .int .i64 (rt : Int), .slice d.a d.n d.cap]] w (RWrP w d) := by
  obtain ⟨i0, hi, hz0, hz1, hz2⟩ := info_parts Try.info5
  obtain ⟨hr, hch, hn8, hn0, hcnt, hln, hfar⟩ := chk_ok hk
  obtain ⟨hr1, hr2, hr3⟩ := hr
  rw [hbits] at hr2
  rw [hrate] at hr3
  have H := hid h
  have hdv : d.v = .agg #[.int .i64 (d.n : Int), .int .i64 (nb : Int), .int .i64 (rt : Int), .slice d.a d.n d.cap] := by unfold Dat.v; rw [← hch, hbits, hrate]
  have HCK := hid fun (w' : World) (hb : Below w.heap.size w w') => rcheck_any w' d (h.below hb)
  have HDA := hid fun (w' : World) (hb : Below w.heap.size w w') => rdata_any (h.below hb) hk
  rw [hdv, hk] at HCK
  rw [hdv] at HDA
  have HFM := hid fun w' => rformat_any d.n nb rt hn8 (by omega) (by omega) w'
  have HM1L := hid (fmtb_len d.n nb rt)
  have HM2L := hid (dta_len d d.cnt)
  rw [show d.cnt * (d.n * wd d.f.bits) = dsz d from rfl] at HM2L
  have HWB := hid (fun l1 l2 h1 h2 => whb_wby d l1 l2 h1 h2)
  rw [hbits, hrate, Int.toNat_natCast, Int.toNat_natCast] at HWB
  have hw0 : wcode d = 0 := by unfold wcode; rw [if_pos hk, if_neg (by omega)]
  have HWL := hid (show wlist d = wby d by unfold wlist; rw [if_pos hw0])
  clear hw0
  have HKK := hid hk
  obtain ⟨M1, hM1⟩ : ∃ M1, M1 = fmtb d.n nb rt := ⟨_, rfl⟩
  obtain ⟨M2, hM2⟩ : ∃ M2, M2 = dta d d.cnt := ⟨_, rfl⟩
  have HWF := hid (HWB.out M1 M2 hM1 hM2)
  rw [← hM1] at HM1L HFM
  rw [← hM2] at HM2L HDA
  clear hM1 hM2 HWB
  generalize dsz d = S at *
  have HC1 := hid (chb_len [102, 109, 116, 32] M1)
  have HC2 := hid (chb_len [100, 97, 116, 97] M2)
  rw [HM1L.out] at HC1
  rw [HM2L.out] at HC2
  have HL := hid (show (chb [102, 109, 116, 32] M1 ++ chb [100, 97, 116, 97] M2).length = 24 + (8 + S + S % 2) by
    rw [List.length_append, HC1.out, HC2.out]; simp only [List.length_cons, List.length_nil])
  rw [show ([102, 109, 116, 32] : List Nat).length + 4 + 16 + 16 % 2 = 24 from rfl] at HC1
  rw [show ([100, 97, 116, 97] : List Nat).length + 4 + S + S % 2 = 8 + S + S % 2 from rfl] at HC2
  have HH1 := hid fun (w : World) (a : Option Addr) (c : Nat) (hb : Byts w a M1) (hn : a = none → M1.length = 0 ∧ c = 0) (hl : ∀ ad, a = some ad → ad.block < w.heap.size) => rchunk_any (w := w) ⟨#[102, 109, 116, 32]⟩ (by decide) hb HM1L.out hn hl (by decide)
  have HH2 := hid fun (w : World) (a : Option Addr) (c : Nat) (hb : Byts w a M2) (hn : a = none → M2.length = 0 ∧ c = 0) (hl : ∀ ad, a = some ad → ad.block < w.heap.size) => rchunk_any (w := w) ⟨#[100, 97, 116, 97]⟩ (by decide) hb HM2L.out hn hl (by omega)
  rw [show sb ⟨#[102, 109, 116, 32]⟩ = [102, 109, 116, 32] from rfl] at HH1
  rw [show sb ⟨#[100, 97, 116, 97]⟩ = [100, 97, 116, 97] from rfl] at HH2
  obtain ⟨C1, hC1⟩ : ∃ C1, C1 = chb [102, 109, 116, 32] M1 := ⟨_, rfl⟩
  obtain ⟨C2, hC2⟩ : ∃ C2, C2 = chb [100, 97, 116, 97] M2 := ⟨_, rfl⟩
  rw [← hC1] at HC1 HH1 HL HWF
  rw [← hC2] at HC2 HH2 HL HWF
  clear hC1 hC2
  obtain ⟨T, hT⟩ : ∃ T, T = 8 + S + S % 2 := ⟨_, rfl⟩
  have hTb : T ≤ 268435466 := by omega
  rw [← hT] at HC2 HL
  clear hT
  have HWH := hid fun (w : World) (a : Option Addr) (c : Nat) (hb : Byts w a (C1 ++ C2)) (hn : a = none → (C1 ++ C2).length = 0 ∧ c = 0) => rwhole_any (w := w) hb HL.out hn (by omega)
  rw [HWF.out, ← HWL.out] at HWH
  have HB0 := hid (below_new w (.cells #[.int .i64 (d.n : Int), .int .i64 (nb : Int), .int .i64 (rt : Int), .slice d.a d.n d.cap] 26))
  have hcells : ∀ w', Below (w.alloc (.cells #[.int .i64 (d.n : Int), .int .i64 (nb : Int), .int .i64 (rt : Int), .slice d.a d.n d.cap] 26)).heap.size (w.alloc (.cells #[.int .i64 (d.n : Int), .int .i64 (nb : Int), .int .i64 (rt : Int), .slice d.a d.n d.cap] 26)) w' → w'.cell? ⟨w.heap.size, 0, none⟩ = some (.int .i64 (d.n : Int)) ∧ w'.cell? ⟨w.heap.size, 1, none⟩ = some (.int .i64 (nb : Int)) ∧ w'.cell? ⟨w.heap.size, 2, none⟩ = some (.int .i64 (rt : Int)) ∧ w'.cell? ⟨w.heap.size, 3, none⟩ = some (.slice d.a d.n d.cap) := fun w' hb => by
    have hlt : w.heap.size < (w.alloc (.cells #[.int .i64 (d.n : Int), .int .i64 (nb : Int), .int .i64 (rt : Int), .slice d.a d.n d.cap] 26)).heap.size := by simp
    have e := (hb.block w.heap.size hlt).trans (heap_alloc_new w _)
    refine ⟨?_, ?_, ?_, ?_⟩ <;> (unfold World.cell?; rw [e]; rfl)
  have HC := hid hcells
  clear hcells hdv hch hbits hrate hln hfar hk hr1 hr2 hr3 hcnt hn0 hn8 h
  obtain ⟨b0, b1, b2, b3⟩ := HC.out _ (Below.refl _ _)
  go_enter Try.func11, Try.ntmps11
  go_wp2_with fail
  generalize w.alloc (.cells #[.int .i64 (d.n : Int), .int .i64 (nb : Int), .int .i64 (rt : Int), .slice d.a d.n d.cap] 26) = W0 at *
  refine (HCK.out _ HB0.out).mono ?_
  rintro e w1 ⟨rfl, hb1⟩
  have HB1 := hid (HB0.out.trans (hb1.mono HB0.out.size))
  have HC1w := hid fun w' (hb : Below w1.heap.size w1 w') => HC.out w' (hb1.trans (hb.mono hb1.size))
  clear b0 b1 b2 b3 hb1 HC HCK
  obtain ⟨b0, b1, b2, b3⟩ := HC1w.out _ (Below.refl _ _)
  go_wp2_with fail
  have d0 : Below w1.heap.size w1 w1.drew := ⟨rfl, rfl, rfl, Nat.le_refl _, fun _ _ => rfl⟩
  have s0 := HC1w.out _ d0
  clear b0 b1 b2 b3
  go_region_held3 (fun w' => w'.cell? ⟨w.heap.size, 0, none⟩ = some (.int .i64 (d.n : Int)) ∧ w'.cell? ⟨w.heap.size, 1, none⟩ = some (.int .i64 (nb : Int)) ∧ w'.cell? ⟨w.heap.size, 2, none⟩ = some (.int .i64 (rt : Int)) ∧ w'.cell? ⟨w.heap.size, 3, none⟩ = some (.slice d.a d.n d.cap))
    (first | with_reducible exact s0 | with_reducible exact s1 | with_reducible exact s2 | with_reducible exact s3 | with_reducible exact s4 | with_reducible exact s5 | with_reducible exact s6 | go_keep)
    ((first
      | (go_at_call 21; (with_reducible refine (HFM.out _).mono ?_); rintro e w2 hx2; obtain ⟨a2, c2, rfl, n2⟩ := lw_at HM1L.out hx2; have d2 := d0.trans (n2.bel.mono d0.size); have s1 := HC1w.out _ d2)
      | (go_at_call 20; (with_reducible refine (HH1.out _ a2 c2 n2.row.byts n2.row.nil n2.row.alt).mono ?_); rintro e w3 hx3; obtain ⟨a3, c3, rfl, n3⟩ := lw_at HC1.out hx3; have d3 := d2.trans (n3.bel.mono d2.size); have s2 := HC1w.out _ d3)
      | (go_at_call 22; (with_reducible refine (HDA.out _ (HB1.out.trans (d3.mono HB1.out.size))).mono ?_); rintro e w4 hx4; obtain ⟨a4, c4, rfl, n4⟩ := lw_at HM2L.out hx4; have d4 := d3.trans (n4.bel.mono d3.size); have s3 := HC1w.out _ d4)
      | (go_at_call 20; (with_reducible refine (HH2.out _ a4 c4 n4.row.byts n4.row.nil n4.row.alt).mono ?_); rintro e w5 hx5; obtain ⟨a5, c5, rfl, n5⟩ := lw_at HC2.out hx5; have d5 := d4.trans (n5.bel.mono d4.size); have s4 := HC1w.out _ d5; have n6 := ((n3.mono d2).keep n4.bel).keep n5.bel)
      | (refine step_append_any (by rfl) _ _ _ (by rfl) w1.heap.size i0 _ Try.underlying29 hi hz0 hz1 hz2 rfl _ 24 _ C1 HC1.out (by rfl) n6.row _ T _ C2 HC2.out (by rfl) n5.row.byts n5.row.nil (by omega) n6.bel.size ?_; intro ao7 c7 w7 ho7 hg7 _; have n7 := n6.app ho7 hg7; have s5 := HC1w.out _ n7.bel)
      | (go_at_call 23; (with_reducible refine (HWH.out _ ao7 c7 n7.row.byts n7.row.nil).mono ?_); rintro e w8 ⟨a8, c8, rfl, n8⟩; have n9 := n8.mono n7.bel; have s6 := HC1w.out _ n9.bel)))
  have HN9 := hid (n9.mono HB1.out)
  clear s0 s1 s2 s3 s4 s5 s6 d0 d2 d3 d4 d5 n2 n3 n4 n5 n6 n7 n8 n9 hx2 hx3 hx4 hx5 ho7 hg7
  go_wp2_with fail
  go_ret2
  exact ⟨a8, c8, by rw [HKK.out]; rfl, HN9.out⟩
end Go.Proofs.Ytkdpalmdcnpnoaa.Wv
namespace Go.Proofs.Ytkdpalmdcnpnoaa.Wv
open Go.RowKit Gen Fld Pcm

set_option maxRecDepth 20000 in
theorem rwrite_any {w : World} {d : Dat} (h : Snd w d) (hz : d.chk = 0 → dsz d ≤ 268435456) : Calls Try.prog 11 #[d.v] w (RWrP w d) := by
  by_cases hk : d.chk = 0
  · obtain ⟨hr, hch, _⟩ := chk_ok hk
    have hr2 := hr.2.1
    have hr3 := hr.2.2
    have e1 : d.f.bits = ((d.f.bits.toNat : Nat) : Int) := by omega
    have e2 : d.f.rate = ((d.f.rate.toNat : Nat) : Int) := by omega
    have h9 := rwrite_ok h hk (hz hk) d.f.bits.toNat d.f.rate.toNat e1 e2
    rw [← e1, ← e2, hch] at h9
    exact h9
  · have HCK := hid fun (w' : World) (hb : Below w.heap.size w w') => rcheck_any w' d (h.below hb)
    unfold Dat.v at HCK
    have HB0 := hid (below_new w (.cells #[.int .i64 d.f.ch, .int .i64 d.f.bits, .int .i64 d.f.rate, .slice d.a d.n d.cap] 26))
    obtain ⟨b0, b1, b2, b3⟩ := bx_new w d
    have q0 : (d.chk != 0) = true := by rw [bne_iff_ne]; exact hk
    have HW := hid (show wlist d = [] by unfold wlist wcode; rw [if_neg hk, if_neg hk])
    show Calls Try.prog 11 #[.agg #[.int .i64 d.f.ch, .int .i64 d.f.bits, .int .i64 d.f.rate, .slice d.a d.n d.cap]] w _
    clear hk
    go_enter Try.func11, Try.ntmps11
    go_wp2_with fail
    generalize w.alloc (.cells #[.int .i64 d.f.ch, .int .i64 d.f.bits, .int .i64 d.f.rate, .slice d.a d.n d.cap] 26) = W0 at *
    refine (HCK.out _ HB0.out).mono ?_
    rintro e w1 ⟨rfl, hb1⟩
    have HF := hid (HB0.out.trans (hb1.mono HB0.out.size))
    clear hb1 b0 b1 b2 b3
    go_wp2_with fail
    go_ret2
    exact ⟨none, 0, by rw [HW.out]; rfl, by rw [HW.out]; exact ⟨(fun _ h => by cases h), .inl ⟨rfl, rfl, rfl⟩⟩, HF.out⟩
theorem small_sz {d : Dat} (h : d.n ≤ 9 ∧ ∀ i, i < d.n → d.ln i ≤ 400) : dsz d ≤ 268435456 := by
  have h1 : d.cnt ≤ 400 := by
    unfold Dat.cnt
    split
    · omega
    · exact h.2 0 (by omega)
  have h2 : d.n * wd d.f.bits ≤ 27 := Nat.mul_le_mul h.1 (wd_le _)
  exact Nat.le_trans (Nat.mul_le_mul h1 h2) (by decide)
theorem small_code {d : Dat} (h : dsz d ≤ 268435456) : wcode d = d.chk := by
  unfold wcode
  split
  · rename_i hk
    rw [if_neg (by omega), hk]
  · rfl
set_option maxRecDepth 20000 in
set_option maxHeartbeats 1000000 in
theorem writes_walk (w : World) (d : Dat) (h : Snd w d) (n : Int) : Calls Try.prog 3 #[d.v, .int .i64 n] w fun e w' => e = .returned (.bool true) ∧ Below w.heap.size w w' := by
  have HSM := hid fun w' (hw : Below w.heap.size w w') => small_any w' d (h.below hw) 300
  have HWR := hid fun w' (hw : Below w.heap.size w w') => write_any (h.below hw)
  have HRW := hid fun w' (hw : Below w.heap.size w w') (hz : d.chk = 0 → dsz d ≤ 268435456) => rwrite_any (h.below hw) hz
  have HKN := hid fun w' => known_true w'
  have HWA := hid fun w' => width_any n w'
  have HWB := hid fun w' => rwidth_any n w'
  unfold Dat.v at HSM HWR HRW
  have HB0 := hid (below_new w (.cells #[.int .i64 d.f.ch, .int .i64 d.f.bits, .int .i64 d.f.rate, .slice d.a d.n d.cap] 26))
  have HX0 := hid (bx_new w d)
  show Calls Try.prog 3 #[.agg #[.int .i64 d.f.ch, .int .i64 d.f.bits, .int .i64 d.f.rate, .slice d.a d.n d.cap], .int .i64 n] w _
  clear h
  obtain ⟨b0, b1, b2, b3⟩ := HX0.out
  go_enter Try.func3, Try.ntmps3
  go_wp2_with fail
  generalize w.alloc (.cells #[.int .i64 d.f.ch, .int .i64 d.f.bits, .int .i64 d.f.rate, .slice d.a d.n d.cap] 26) = W0 at *
  refine (HSM.out _ HB0.out).mono ?_
  rintro e w1 ⟨b, rfl, hsm, hb1⟩
  have HB1 := hid (HB0.out.trans (hb1.mono HB0.out.size))
  have HX1 := hid (HX0.out.below hb1)
  have HS := hid hsm
  clear hsm hb1 b0 b1 b2 b3 HSM HX0
  cases b with
  | false =>
    go_wp2_with fail
    refine (HKN.out _).mono ?_
    rintro e w2 ⟨rfl, hb2⟩
    have HF := hid (HB1.out.trans (hb2.mono HB1.out.size))
    clear hb2
    go_wp2_with fail
    go_ret
    exact ⟨rfl, HF.out⟩
  | true =>
    obtain ⟨s1, s2⟩ := HS.out rfl
    have hz := small_sz (d := d) ⟨s1, fun i hi => Nat.le_trans (s2 i hi) (by decide)⟩
    have HC := hid (small_code hz)
    have HZ := hid hz
    clear s1 s2 hz HS
    obtain ⟨b0, b1, b2, b3⟩ := HX1.out
    go_wp2_with fail
    refine (HWR.out _ HB1.out).mono ?_
    rintro e w2 ⟨ao, ca, rfl, hn2⟩
    rw [HC.out]
    have HN2 := hid hn2.nw
    have HB2 := hid (HB1.out.trans (hn2.bel.mono HB1.out.size))
    have HX2 := hid (HX1.out.below hn2.bel)
    clear hn2 b0 b1 b2 b3
    obtain ⟨b0, b1, b2, b3⟩ := HX2.out
    go_wp2_with fail
    refine (HRW.out _ HB2.out (fun _ => HZ.out)).mono ?_
    rintro e w3 ⟨bo, cb, rfl, hn3⟩
    have HB3 := hid (HB2.out.trans (hn3.bel.mono HB2.out.size))
    have c1 := (HN2.out.keep hn3.bel).row.byts.conv ca
    have c2 := hn3.row.byts.conv cb
    clear hn3 b0 b1 b2 b3 HN2
    generalize tos (wlist d) = P at *
    generalize (wlist d).length = L at *
    generalize wd n = D at *
    go_wp2_with fail
    refine (HWA.out _).mono ?_
    rintro e w4 ⟨rfl, rfl⟩
    go_wp2_with fail
    refine (HWB.out _).mono ?_
    rintro e w4 ⟨rfl, rfl⟩
    go_wp2_with fail
    refine (HKN.out _).mono ?_
    rintro e w4 ⟨rfl, hb4⟩
    have HF := hid (HB3.out.trans (hb4.mono HB3.out.size))
    clear hb4 c1 c2
    go_wp2_with fail
    go_ret
    exact ⟨rfl, HF.out⟩
end Go.Proofs.Ytkdpalmdcnpnoaa.Wv
namespace Go.Proofs.Ytkdpalmdcnpnoaa.Wv
open Go.RowKit Gen Fld Pcm

/-- Chunks as bytes. -/
def bodyL : List (List Nat × List Nat) → List Nat
  | [] => []
  | c :: t => chb c.1 c.2 ++ bodyL t
/-- Where they lie. -/
def offsL : List (List Nat × List Nat) → Nat → List Chk
  | [], _ => []
  | c :: t, p => ⟨c.1, p + 8, c.2.length⟩ :: offsL t (p + (chb c.1 c.2).length)
/-- Chunks that may be. -/
def OkL (L : List (List Nat × List Nat)) : Prop := ∀ c ∈ L, c.1.length = 4 ∧ c.2.length < 4294967296
theorem chb_parts {nm m t : List Nat} (h4 : nm.length = 4) (hm : m.length < 4294967296) : (chb nm m ++ t).take 4 = nm ∧ nsz4 (chb nm m ++ t) = m.length ∧ (chb nm m ++ t).drop (nlen (chb nm m ++ t)) = t ∧ ncode (chb nm m ++ t) = 0 ∧ nlen (chb nm m ++ t) = (chb nm m).length ∧ sub (chb nm m ++ t) 8 m.length = m := by
  have e0 : chb nm m ++ t = nm ++ (le m.length 4 ++ (m ++ (List.replicate (m.length % 2) 0 ++ t))) := by
    unfold chb; simp only [List.append_assoc]
  have e1 : nsz4 (chb nm m ++ t) = m.length := by
    unfold nsz4
    rw [e0, List.drop_left' h4, List.take_left' (le_len _ _), lev_le]
    exact Nat.mod_eq_of_lt hm
  have e2 : (chb nm m).length = 8 + m.length + m.length % 2 := by rw [chb_len, h4]
  have e3 : nlen (chb nm m ++ t) = (chb nm m).length := by unfold nlen; rw [e1, e2]
  refine ⟨?_, e1, ?_, ?_, e3, ?_⟩
  · rw [e0, List.take_left' h4]
  · rw [e3, List.drop_left]
  · unfold ncode
    rw [e3, e1, if_neg (by rw [List.length_append]; omega), if_neg]
    rintro ⟨h1, h2⟩
    apply h2
    rw [e0]
    rw [List.getElem?_append_right (by omega), h4, List.getElem?_append_right (by rw [le_len]; omega), le_len, List.getElem?_append_right (by omega), show 8 + m.length - 4 - 4 - m.length = 0 by omega, h1]
    rfl
  · unfold sub
    rw [e0, ← List.append_assoc, List.drop_left' (by rw [List.length_append, le_len, h4]), List.take_left' rfl]
theorem chb_ne (nm m t : List Nat) : chb nm m ++ t ≠ [] := by
  intro h
  have := congrArg List.length h
  rw [List.length_append, chb_len] at this
  simp at this
theorem cks_body : ∀ (L : List (List Nat × List Nat)) (f p : Nat), OkL L → (bodyL L).length ≤ f → cks f (bodyL L) p = (offsL L p).map fun c => (c, 0)
  | [], f, p, _, _ => cks_nil f p
  | c :: t, f, p, hok, hf => by
    obtain ⟨h4, hm⟩ := hok c List.mem_cons_self
    obtain ⟨a1, a2, a3, a4, a5, -⟩ := chb_parts (t := bodyL t) h4 hm
    show cks f (chb c.1 c.2 ++ bodyL t) p = _
    have hf2 : (chb c.1 c.2 ++ bodyL t).length ≤ f := hf
    rw [cks_good hf2 (chb_ne _ _ _) a4, a3, a5]
    rw [cks_body t (f - 1) (p + (chb c.1 c.2).length) (fun x hx => hok x (List.mem_cons_of_mem _ hx)) (by
      rw [List.length_append, chb_len] at hf2; omega)]
    unfold nchk
    rw [a1, a2]
    rfl
/-- What is read of chunks. -/
def rdb : List (List Nat × List Nat) → Option (List Nat) → Option (List Nat × List Nat) → Nat × Option (List Nat × List Nat)
  | [], _, none => (51, none)
  | [], _, some s => (0, some s)
  | c :: t, F, S => if (stp F S c.1 c.2).1 = 0 then rdb t (stp F S c.1 c.2).2.1 (stp F S c.1 c.2).2.2 else ((stp F S c.1 c.2).1, none)
theorem rdl_body (b : List Nat) : ∀ (L : List (List Nat × List Nat)) (p : Nat) (F : Option (List Nat)) (S : Option (List Nat × List Nat)), OkL L → b.drop p = bodyL L → rdl b (offsL L p) F S = rdb L F S
  | [], p, F, S, _, _ => by cases S <;> rfl
  | c :: t, p, F, S, hok, hb => by
    obtain ⟨h4, hm⟩ := hok c List.mem_cons_self
    obtain ⟨-, -, -, -, -, a6⟩ := chb_parts (t := bodyL t) h4 hm
    have hb2 : b.drop p = chb c.1 c.2 ++ bodyL t := hb
    have hs : sub b (p + 8) c.2.length = c.2 := by
      rw [← hb2] at a6
      unfold sub at a6 ⊢
      rw [List.drop_drop] at a6
      exact a6
    have hd : b.drop (p + (chb c.1 c.2).length) = bodyL t := by rw [← List.drop_drop, hb2, List.drop_left]
    show rdl b (⟨c.1, p + 8, c.2.length⟩ :: offsL t (p + (chb c.1 c.2).length)) F S = _
    rw [rdl_step]
    show (if (stp F S c.1 (sub b (p + 8) c.2.length)).1 = 0 then _ else _) = _
    rw [hs, rdb]
    split
    · exact rdl_body b t _ _ _ (fun x hx => hok x (List.mem_cons_of_mem _ hx)) hd
    · rfl
/-- A whole WAV of chunks. -/
def riff (X : List Nat) : List Nat := [82, 73, 70, 70] ++ (le (4 + X.length) 4 ++ ([87, 65, 86, 69] ++ X))
theorem riff_len (X : List Nat) : (riff X).length = 12 + X.length := by
  unfold riff
  simp only [List.length_append, le_len, List.length_cons, List.length_nil]
  omega
theorem riff_code {X : List Nat} (h : 4 + X.length < 4294967296) : hcode (riff X) = 0 := by
  have e4 : (riff X).drop 4 = le (4 + X.length) 4 ++ ([87, 65, 86, 69] ++ X) := rfl
  have e8 : (riff X).drop 8 = [87, 65, 86, 69] ++ X := by
    rw [show (8 : Nat) = 4 + 4 from rfl, ← List.drop_drop, e4, List.drop_left' (le_len _ _)]
  unfold hcode
  rw [if_neg, if_neg (by rw [riff_len]; omega), if_neg]
  · rw [e4, List.take_left' (le_len _ _), lev_le, riff_len, Nat.mod_eq_of_lt h]
    omega
  · rintro (h1 | h1)
    · exact h1 (by
        unfold Bgn
        rw [riff_len, List.take_of_length_le (l := [82, 73, 70, 70]) (by simp only [List.length_cons, List.length_nil]; omega)]
        rfl)
    · exact h1 (by
        rw [e8]
        unfold Bgn
        rw [List.take_of_length_le (l := [87, 65, 86, 69]) (by simp only [List.length_append, List.length_cons, List.length_nil]; omega)]
        rfl)
theorem riff_drop (X : List Nat) : (riff X).drop 12 = X := by
  rw [show (12 : Nat) = 4 + (4 + 4) from rfl, ← List.drop_drop, ← List.drop_drop]
  show ((le (4 + X.length) 4 ++ ([87, 65, 86, 69] ++ X)).drop 4).drop 4 = X
  rw [List.drop_left' (le_len _ _)]
  rfl
/-- What is read of a whole WAV of chunks. -/
theorem rdw_riff {L : List (List Nat × List Nat)} (hok : OkL L) (h : 4 + (bodyL L).length < 4294967296) : rdw (riff (bodyL L)) = rdb L none none := by
  have hc : chunks (riff (bodyL L)) = (0, offsL L 12) := by
    unfold chunks
    rw [if_pos (riff_code h), riff_drop, cks_body L _ 12 hok (by rw [riff_len]; omega), ends_good (by
      intro x hx
      obtain ⟨c, _, rfl⟩ := List.mem_map.1 hx
      rfl), List.map_map]
    have e : (Prod.fst ∘ fun c : Chk => (c, (0 : Nat))) = id := rfl
    rw [e, List.map_id]
  unfold rdw
  rw [hc, if_pos rfl]
  exact rdl_body _ L 12 none none hok (riff_drop _)
end Go.Proofs.Ytkdpalmdcnpnoaa.Wv
namespace Go.Proofs.Ytkdpalmdcnpnoaa.Wv
open Go.RowKit Gen Fld Pcm

theorem wby_riff (d : Dat) : wby d = riff (bodyL [([102, 109, 116, 32], fmtb d.n d.f.bits.toNat d.f.rate.toNat), ([100, 97, 116, 97], dta d d.cnt)]) := by
  have hl : (dta d d.cnt).length = dsz d := dta_len d d.cnt
  have hx : (bodyL [([102, 109, 116, 32], fmtb d.n d.f.bits.toNat d.f.rate.toNat), ([100, 97, 116, 97], dta d d.cnt)]).length = 24 + (8 + dsz d + dsz d % 2) := by
    unfold bodyL bodyL bodyL
    rw [List.length_append, List.length_append, chb_len, chb_len, fmtb_len, hl]
    rfl
  unfold riff
  rw [hx]
  unfold bodyL bodyL bodyL chb
  rw [fmtb_len, hl, ← Nat.add_assoc 4 24]
  unfold wby hdr nsz
  have h1 : sb ⟨#[82, 73, 70, 70]⟩ = [82, 73, 70, 70] := rfl
  have h2 : sb ⟨#[102, 109, 116, 32]⟩ = [102, 109, 116, 32] := rfl
  have h3 : sb ⟨#[100, 97, 116, 97]⟩ = [100, 97, 116, 97] := rfl
  rw [h1, h2, h3]
  simp only [List.append_assoc, List.append_nil]
  rfl
theorem sub_left {a b : List Nat} {i k : Nat} (h : i + k ≤ a.length) : sub (a ++ b) i k = sub a i k := by
  unfold sub
  rw [List.drop_append_of_le_length (by omega), List.take_append_of_le_length (by rw [List.length_drop]; omega)]
theorem sub_right (a b : List Nat) (i k : Nat) : sub (a ++ b) (a.length + i) k = sub b i k := by
  unfold sub
  rw [← List.drop_drop, List.drop_left]
theorem sub_frp (d : Dat) (k : Nat) : ∀ n j, j < n → sub (frp d k n) (j * wd d.f.bits) (wd d.f.bits) = smp d.f.bits (d.X j k)
  | n + 1, j, hj => by
    show sub (frp d k n ++ smp d.f.bits (d.X n k)) _ _ = _
    by_cases h : j < n
    · rw [sub_left (by rw [frp_len, ← Nat.succ_mul]; exact Nat.mul_le_mul_right _ h)]
      exact sub_frp d k n j h
    · obtain rfl : j = n := by omega
      have e : j * wd d.f.bits = (frp d k j).length + 0 := by rw [frp_len, Nat.add_zero]
      rw [e, sub_right]
      unfold sub
      rw [List.drop_zero, List.take_of_length_le (by rw [smp_len]; exact Nat.le_refl _)]
theorem smt_dta (d : Dat) : ∀ K k j, k < K → j < d.n → smt d.f.bits (dta d K) (d.n * k + j) = smp d.f.bits (d.X j k)
  | K + 1, k, j, hk, hj => by
    unfold smt
    show sub (dta d K ++ frp d K d.n) _ _ = _
    by_cases h : k < K
    · have h1 : (d.n * k + j) * wd d.f.bits + wd d.f.bits ≤ (dta d K).length := by
        rw [dta_len, ← Nat.succ_mul, ← Nat.mul_assoc]
        refine Nat.mul_le_mul_right _ ?_
        have h2 : d.n * (k + 1) ≤ d.n * K := Nat.mul_le_mul_left _ h
        rw [Nat.mul_succ] at h2
        rw [Nat.mul_comm K]
        omega
      rw [sub_left h1]
      exact smt_dta d K k j h hj
    · obtain rfl : k = K := by omega
      have e : (d.n * k + j) * wd d.f.bits = (dta d k).length + j * wd d.f.bits := by
        rw [dta_len, Nat.add_mul, ← Nat.mul_assoc, Nat.mul_comm k]
      rw [e, sub_right]
      exact sub_frp d k d.n j hj
end Go.Proofs.Ytkdpalmdcnpnoaa.Wv
namespace Go.Proofs.Ytkdpalmdcnpnoaa.Wv
open Go.RowKit Gen Fld Pcm

theorem sgn_ok {v : Int} {k : Nat} (h : iErr v (k : Int) = 0) : sgn (le (u64 v) k) = v := by
  unfold iErr at h
  split at h
  · omega
  · rename_i hn
    split at h
    · omega
    · rename_i hv
      unfold sgn
      rw [le_len, lev_le]
      rw [Int.toNat_natCast] at hv
      have hkk : k = 1 ∨ k = 2 ∨ k = 3 ∨ k = 4 ∨ k = 5 ∨ k = 6 ∨ k = 7 ∨ k = 8 := by omega
      unfold u64
      rcases hkk with rfl | rfl | rfl | rfl | rfl | rfl | rfl | rfl <;> simp only [Nat.reduceMul, Nat.reduceSub, Nat.reducePow, Int.reducePow] at hv ⊢ <;> split <;> omega
theorem smr_smp {n x : Int} (h8 : 8 ≤ n) (h24 : n ≤ 24) (h1 : -(2 ^ (n.toNat - 1) : Int) ≤ x) (h2 : x ≤ 2 ^ (n.toNat - 1) - 1) : smr n (smp n x) = x ∧ smk n (smp n x) = true := by
  by_cases h9 : n = 8
  · subst h9
    have hx1 : -128 ≤ x := h1
    have hx2 : x ≤ 127 := h2
    refine ⟨?_, decide_eq_true (.inl rfl)⟩
    unfold smr smp
    rw [if_pos rfl, if_pos rfl, lev_le]
    omega
  · obtain ⟨hd2, hdf, hf7⟩ := wd_fre (show 8 < n by omega) h24
    have hd3 := wd_le n
    have he := smp_err n.toNat (fre n) (wd n) x (by omega) hdf (by omega) (by omega) h1 h2
    have hs := sgn_ok he
    have hm : smp n x = le (u64 (x * 2 ^ fre n)) (wd n) := if_neg h9
    have hp : (2 : Int) ^ fre n = ((2 ^ fre n : Nat) : Int) := by push_cast; rfl
    have hp0 : ((2 ^ fre n : Nat) : Int) ≠ 0 := by
      have := Nat.pow_pos (n := fre n) (show 0 < 2 by decide)
      omega
    unfold smr smk
    rw [if_neg h9, hm, hs, hp]
    exact ⟨Int.mul_ediv_cancel _ hp0, decide_eq_true (.inr (Int.mul_emod_left _ _))⟩
theorem fmtb_get {c n r : Nat} (hc : c ≤ 8) (hn : n ≤ 24) (hr : r ≤ 1048575) : fmc (fmtb c n r) = c ∧ fmn (fmtb c n r) = n ∧ fmr (fmtb c n r) = r := by
  have e : fmtb c n r = le 1 2 ++ (le c 2 ++ (le r 4 ++ (le (r * (c * wd n)) 4 ++ (le (c * wd n) 2 ++ le n 2)))) := by
    unfold fmtb; simp only [List.append_assoc]
  unfold fmc fmn fmr sub
  rw [e]
  refine ⟨?_, ?_, ?_⟩
  · rw [List.drop_left' (le_len _ _), List.take_left' (le_len _ _), lev_le]
    exact Nat.mod_eq_of_lt (Nat.lt_of_le_of_lt hc (by decide))
  · rw [show (14 : Nat) = 2 + (2 + (4 + (4 + 2))) from rfl, ← List.drop_drop, ← List.drop_drop, ← List.drop_drop, ← List.drop_drop, List.drop_left' (le_len _ _), List.drop_left' (le_len _ _), List.drop_left' (le_len _ _), List.drop_left' (le_len _ _), List.drop_left' (le_len _ _), List.take_of_length_le (by rw [le_len]; exact Nat.le_refl _), lev_le]
    exact Nat.mod_eq_of_lt (Nat.lt_of_le_of_lt hn (by decide))
  · rw [show (4 : Nat) = 2 + 2 from rfl, ← List.drop_drop, List.drop_left' (le_len _ _), List.drop_left' (le_len _ _), List.take_left' (le_len _ _), lev_le]
    exact Nat.mod_eq_of_lt (Nat.lt_of_le_of_lt hr (by decide))
theorem fmtb_code {c n r : Nat} (hr : Fmt.right ⟨(c : Int), (n : Int), (r : Int)⟩) : fcode (fmtb c n r) = 0 ∧ fmf (fmtb c n r) = ⟨(c : Int), (n : Int), (r : Int)⟩ := by
  have hc : c ≤ 8 := by have h : (c : Int) ≤ 8 := hr.1.2; omega
  have hn : n ≤ 24 := by have h : (n : Int) ≤ 24 := hr.2.1.2; omega
  have hr2 : r ≤ 1048575 := by have h : (r : Int) ≤ 1048575 := hr.2.2.2; omega
  obtain ⟨e1, e2, e3⟩ := fmtb_get hc hn hr2
  have ef : fmf (fmtb c n r) = ⟨(c : Int), (n : Int), (r : Int)⟩ := by unfold fmf; rw [e1, e2, e3]
  refine ⟨?_, ef⟩
  unfold fcode
  rw [fmtb_len, if_neg (fun h => h rfl), ef, e1, e2, e3, if_neg]
  rintro (h | h)
  · exact h hr
  · exact h rfl
end Go.Proofs.Ytkdpalmdcnpnoaa.Wv
namespace Go.Proofs.Ytkdpalmdcnpnoaa.Wv
open Go.RowKit Gen Fld Pcm

theorem in_range {d : Dat} (hfar : d.far = false) (hln : ∀ i, i < d.n → d.ln i = d.cnt) : ∀ j k, j < d.n → k < d.cnt → -(2 ^ (d.f.bits.toNat - 1) : Int) ≤ d.X j k ∧ d.X j k ≤ 2 ^ (d.f.bits.toNat - 1) - 1 := fun i j hi hj => by
  cases hb : beyond (2 ^ (d.f.bits.toNat - 1)) (d.X i j) with
  | true =>
    have h1 : anyB (fun j => beyond (2 ^ (d.f.bits.toNat - 1)) (d.X i j)) (d.ln i) = true := (any_iff _ _).2 ⟨j, by rw [hln i hi]; exact hj, hb⟩
    have h2 : d.far = true := (any_iff (fun i => anyB (fun j => beyond (2 ^ (d.f.bits.toNat - 1)) (d.X i j)) (d.ln i)) d.n).2 ⟨i, hi, h1⟩
    rw [hfar] at h2; cases h2
  | false =>
    unfold beyond at hb
    rw [Bool.not_eq_false', decide_eq_true_eq] at hb
    push_cast at hb
    exact hb
/-- The bytes of a right sound's format. -/
def fby (d : Dat) : List Nat := fmtb d.n d.f.bits.toNat d.f.rate.toNat
theorem fby_ok {d : Dat} (hk : d.chk = 0) : fcode (fby d) = 0 ∧ fmf (fby d) = d.f ∧ fmc (fby d) = d.n ∧ (fmn (fby d) : Int) = d.f.bits := by
  obtain ⟨hr, hch, -, -, -, -, -⟩ := chk_ok hk
  have e1 : d.f.bits = (d.f.bits.toNat : Int) := by have := hr.2.1.1; omega
  have e2 : d.f.rate = (d.f.rate.toNat : Int) := by have := hr.2.2.1; omega
  have ef : d.f = ⟨(d.n : Int), (d.f.bits.toNat : Int), (d.f.rate.toNat : Int)⟩ := by
    obtain ⟨⟨c, n, r⟩, _⟩ := d
    simp only [] at e1 e2 hch ⊢
    rw [hch, ← e1, ← e2]
  have hr2 := hr
  rw [ef] at hr2
  obtain ⟨h1, h2⟩ := fmtb_code hr2
  have h3 : fmf (fby d) = d.f := h2.trans ef.symm
  refine ⟨h1, h3, ?_, congrArg Fmt.bits h3⟩
  have h4 : ((fmc (fby d) : Nat) : Int) = d.f.ch := congrArg Fmt.ch h3
  omega
theorem dta_smk {d : Dat} (hk : d.chk = 0) : dcode (fby d) (dta d d.cnt) = 0 ∧ (dta d d.cnt).length / wd d.f.bits = d.n * d.cnt ∧ ∀ k j, k < d.cnt → j < d.n → smx d.f.bits (dta d d.cnt) (d.n * k + j) = d.X j k := by
  obtain ⟨hr, hch, hn8, hn0, hcnt, hln, hfar⟩ := chk_ok hk
  obtain ⟨-, -, e1, e2⟩ := fby_ok hk
  have hb8 : 8 ≤ d.f.bits := hr.2.1.1
  have hb24 : d.f.bits ≤ 24 := hr.2.1.2
  have hw := wd_pos hb8 hb24
  have hR := in_range hfar hln
  have hlen : (dta d d.cnt).length / wd d.f.bits = d.n * d.cnt := by
    rw [dta_len, ← Nat.mul_assoc, Nat.mul_div_cancel _ (by omega), Nat.mul_comm]
  have hs : ∀ k j, k < d.cnt → j < d.n → smr d.f.bits (smt d.f.bits (dta d d.cnt) (d.n * k + j)) = d.X j k ∧ smk d.f.bits (smt d.f.bits (dta d d.cnt) (d.n * k + j)) = true := fun k j hk2 hj => by
    rw [smt_dta d d.cnt k j hk2 hj]
    obtain ⟨h1, h2⟩ := hR j k hj hk2
    exact smr_smp hb8 hb24 h1 h2
  refine ⟨?_, hlen, fun k j hk2 hj => (hs k j hk2 hj).1⟩
  unfold dcode
  rw [e1, e2, hlen, if_neg, if_neg]
  · intro h
    obtain ⟨i, hi, h2⟩ := (any_iff _ _).1 h
    have h3 := (hs (i / d.n) (i % d.n) (Nat.div_lt_of_lt_mul hi) (Nat.mod_lt _ hn0)).2
    rw [Nat.div_add_mod] at h3
    rw [h3] at h2
    cases h2
  · rw [dta_len, Nat.mul_mod_left]
    exact fun h => h rfl
theorem same_read {d e : Dat} (hk : d.chk = 0) (he : Rok (some (fby d, dta d d.cnt)) e) : same d e = true := by
  obtain ⟨hr, hch, hn8, hn0, hcnt, hln, hfar⟩ := chk_ok hk
  obtain ⟨-, ef, -, e2⟩ := fby_ok hk
  obtain ⟨-, hlen, hX⟩ := dta_smk hk
  obtain ⟨g1, g2, g3⟩ := (show PartOk (fmf (fby d)) ((dta d d.cnt).length / wd (fmn (fby d) : Int)) (smx (fmn (fby d) : Int) (dta d d.cnt)) e from he)
  rw [ef] at g1 g2
  rw [e2, hlen] at g3
  have hn : d.n = e.n := by omega
  rw [same_yes g1.symm]
  refine eqS_all hn fun i hi => ?_
  obtain ⟨b1, b2⟩ := g3 i (by omega)
  show eqI (d.X i) (e.X i) (d.ln i) (e.ln i) = true
  refine eqI_iff.2 ⟨by rw [b1, ← hn, Nat.mul_div_cancel_left _ hn0, hln i hi], fun j hj => ?_⟩
  rw [hln i hi] at hj
  rw [b2]
  show d.X i j = smx d.f.bits (dta d d.cnt) (e.n * j + i)
  rw [← hn, hX j i hj hi]
theorem dta_small {d : Dat} (hz : dsz d ≤ 268435456) : (dta d d.cnt).length ≤ 268435456 := by
  rw [dta_len]; exact hz
theorem rdw_wby {d : Dat} (hk : d.chk = 0) (hz : dsz d ≤ 268435456) : rdw (wby d) = (0, some (fby d, dta d d.cnt)) := by
  obtain ⟨hf, -, -, -⟩ := fby_ok hk
  obtain ⟨hd, -, -⟩ := dta_smk hk
  have hl := dta_small hz
  have hfl : (fby d).length = 16 := fmtb_len _ _ _
  rw [wby_riff, rdw_riff]
  · show rdb [([102, 109, 116, 32], fby d), ([100, 97, 116, 97], dta d d.cnt)] none none = _
    have h1 : stp none none [102, 109, 116, 32] (fby d) = (fcode (fby d), some (fby d), none) := rfl
    have h2 : stp (some (fby d)) none [100, 97, 116, 97] (dta d d.cnt) = (dcode (fby d) (dta d d.cnt), some (fby d), some (fby d, dta d d.cnt)) := rfl
    rw [rdb, h1, if_pos hf, rdb, h2, if_pos hd]
    rfl
  · intro c hc
    simp only [List.mem_cons, List.not_mem_nil, or_false] at hc
    rcases hc with rfl | rfl
    · exact ⟨rfl, by show (fby d).length < _; rw [hfl]; decide⟩
    · exact ⟨rfl, by show (dta d d.cnt).length < _; omega⟩
  · unfold bodyL bodyL bodyL
    rw [List.length_append, List.length_append, chb_len, chb_len]
    show 4 + ([102, 109, 116, 32].length + 4 + (fby d).length + (fby d).length % 2 + ([100, 97, 116, 97].length + 4 + (dta d d.cnt).length + (dta d d.cnt).length % 2 + 0)) < _
    rw [hfl]
    simp only [List.length_cons, List.length_nil]
    omega
end Go.Proofs.Ytkdpalmdcnpnoaa.Wv
namespace Go.Proofs.Ytkdpalmdcnpnoaa.Wv
open Go.RowKit Gen Fld Pcm

theorem WR.room {w : World} {base : Nat} {ao : Option Addr} {cap : Nat} {l : List Nat} (h : WR w base ao cap l) : l.length ≤ cap ∧ (ao = none → l.length = 0 ∧ cap = 0) := by
  rcases h.row with ⟨rfl, rfl, rfl⟩ | ⟨g, rfl, _, _, h1, _⟩
  · exact ⟨Nat.le_refl _, fun _ => ⟨rfl, rfl⟩⟩
  · exact ⟨h1, fun e => by cases e⟩
set_option maxRecDepth 20000 in
set_option maxHeartbeats 1000000 in
theorem back_walk (w : World) (d : Dat) (h : Snd w d) : Calls Try.prog 6 #[d.v] w fun e w' => e = .returned (.bool true) ∧ Below w.heap.size w w' := by
  have HSM := hid fun w' (hw : Below w.heap.size w w') => small_any w' d (h.below hw) 400
  have HWR := hid fun w' (hw : Below w.heap.size w w') => write_any (h.below hw)
  have HSD := hid h
  have HKN := hid fun w' => known_true w'
  unfold Dat.v at HSM HWR
  have HB0 := hid (below_new w (.cells #[.int .i64 d.f.ch, .int .i64 d.f.bits, .int .i64 d.f.rate, .slice d.a d.n d.cap] 26))
  have HX0 := hid (bx_new w d)
  show Calls Try.prog 6 #[.agg #[.int .i64 d.f.ch, .int .i64 d.f.bits, .int .i64 d.f.rate, .slice d.a d.n d.cap]] w _
  clear h
  obtain ⟨b0, b1, b2, b3⟩ := HX0.out
  go_enter Try.func6, Try.ntmps6
  go_wp2_with fail
  generalize w.alloc (.cells #[.int .i64 d.f.ch, .int .i64 d.f.bits, .int .i64 d.f.rate, .slice d.a d.n d.cap] 26) = W0 at *
  refine (HSM.out _ HB0.out).mono ?_
  rintro e w1 ⟨b, rfl, hsm, hb1⟩
  have HB1 := hid (HB0.out.trans (hb1.mono HB0.out.size))
  have HX1 := hid (HX0.out.below hb1)
  have HS := hid hsm
  clear hsm hb1 b0 b1 b2 b3 HSM HX0
  cases b with
  | false =>
    go_wp2_with fail
    refine (HKN.out _).mono ?_
    rintro e w2 ⟨rfl, hb2⟩
    have HF := hid (HB1.out.trans (hb2.mono HB1.out.size))
    clear hb2
    go_wp2_with fail
    go_ret
    exact ⟨rfl, HF.out⟩
  | true =>
    obtain ⟨s1, s2⟩ := HS.out rfl
    have hz := small_sz (d := d) ⟨s1, fun i hi => Nat.le_trans (s2 i hi) (by decide)⟩
    have HZ := hid hz
    clear s1 s2 hz HS
    obtain ⟨b0, b1, b2, b3⟩ := HX1.out
    go_wp2_with fail
    refine (HWR.out _ HB1.out).mono ?_
    rintro e w2 ⟨ao, ca, rfl, hn2⟩
    have HN2 := hid hn2.nw
    have HB2 := hid (HB1.out.trans (hn2.bel.mono HB1.out.size))
    have HX2 := hid (HX1.out.below hn2.bel)
    clear hn2 b0 b1 b2 b3
    by_cases hk : d.chk = 0
    · have hw0 : wcode d = 0 := (small_code HZ.out).trans hk
      have hwl : wlist d = wby d := by unfold wlist; rw [if_pos hw0]
      have hroom := HN2.out.row.room
      have hbyt := HN2.out.row.byts
      rw [hwl] at HN2 hroom hbyt ⊢
      rw [hw0]
      have hlen : (wby d).length ≤ 4294967296 := by rw [wby_len]; have := HZ.out; omega
      have HRD := hid (read_any hbyt rfl hroom.1 hroom.2 hlen)
      unfold RdP at HRD
      rw [rdw_wby hk HZ.out] at HRD
      have HK := hid hk
      clear hk hw0 hwl hroom hbyt hlen
      generalize (wby d).length = L at *
      go_wp2_with fail
      refine HRD.out.mono ?_
      rintro e w3 ⟨D, rfl, hs3, hb3, ho3⟩
      have HSM2 := hid (same_read HK.out ho3)
      have hbn := bel_new w3 (.cells #[.int .i64 D.f.ch, .int .i64 D.f.bits, .int .i64 D.f.rate, .slice D.a D.n D.cap] 26)
      have hb4 := hb3.trans (hbn.mono hb3.size)
      have HB4 := hid (HB2.out.trans (hb4.mono HB2.out.size))
      have HX4 := hid (HX2.out.below hb4)
      have HR4 := hid (Rx.new w3 (.int .i64 D.f.ch) (.int .i64 D.f.bits) (.int .i64 D.f.rate) (.slice D.a D.n D.cap) 26)
      have HSA := hid (rsame_any _ d D (HSD.out.below HB4.out) (hs3.below hbn))
      rw [HSM2.out] at HSA
      clear hs3 hb3 ho3 hbn hb4 HRD
      obtain ⟨b0, b1, b2, b3⟩ := HX4.out
      unfold Dat.v at HSA ⊢
      go_wp2_with fail
      refine HSA.out.mono ?_
      rintro e w5 ⟨rfl, hb5⟩
      have HB5 := hid (HB4.out.trans (hb5.mono HB4.out.size))
      clear hb5 b0 b1 b2 b3
      go_wp2_with fail
      refine (HKN.out _).mono ?_
      rintro e w6 ⟨rfl, hb6⟩
      have HF := hid (HB5.out.trans (hb6.mono HB5.out.size))
      clear hb6
      go_wp2_with fail
      go_ret
      exact ⟨rfl, HF.out⟩
    · have hw0 : ¬ wcode d = 0 := fun e => hk ((small_code HZ.out).symm.trans e)
      have hwl : wlist d = [] := by unfold wlist; rw [if_neg hw0]
      rw [hwl]
      have hne : (wcode d != 0) = true := bne_iff_ne.2 hw0
      clear hw0 hwl hk
      go_wp2_with fail
      refine (HKN.out _).mono ?_
      rintro e w6 ⟨rfl, hb6⟩
      have HF := hid (HB2.out.trans (hb6.mono HB2.out.size))
      clear hb6
      go_wp2_with fail
      go_ret
      exact ⟨rfl, HF.out⟩
end Go.Proofs.Ytkdpalmdcnpnoaa.Wv
namespace Go.Proofs.Ytkdpalmdcnpnoaa.Wv
open Go.RowKit Gen Fld Pcm

/-- The two chunks of a sound; with one more at a place. -/
def twoL (d : Dat) : List (List Nat × List Nat) := [([102, 109, 116, 32], fby d), ([100, 97, 116, 97], dta d d.cnt)]
def putL (d : Dat) (nm m : List Nat) : Nat → List (List Nat × List Nat)
  | 0 => (nm, m) :: twoL d
  | 1 => [([102, 109, 116, 32], fby d), (nm, m), ([100, 97, 116, 97], dta d d.cnt)]
  | _ => twoL d ++ [(nm, m)]
theorem rdb_put {d : Dat} {nm m : List Nat} (hk : d.chk = 0) (h1 : nm ≠ [102, 109, 116, 32]) (h2 : nm ≠ [100, 97, 116, 97]) (i : Nat) : rdb (putL d nm m i) none none = (0, some (fby d, dta d d.cnt)) := by
  obtain ⟨hf, -, -, -⟩ := fby_ok hk
  obtain ⟨hd, -, -⟩ := dta_smk hk
  have a1 : stp none none [102, 109, 116, 32] (fby d) = (fcode (fby d), some (fby d), none) := rfl
  have a2 : stp (some (fby d)) none [100, 97, 116, 97] (dta d d.cnt) = (dcode (fby d) (dta d d.cnt), some (fby d), some (fby d, dta d d.cnt)) := rfl
  have a3 : ∀ F S, stp F S nm m = (0, F, S) := fun F S => stp_other h1 h2
  unfold putL twoL
  split
  · rw [rdb]
    show (if (stp none none nm m).1 = 0 then rdb _ (stp none none nm m).2.1 (stp none none nm m).2.2 else _) = _
    rw [a3, if_pos rfl]
    show rdb [([102, 109, 116, 32], fby d), ([100, 97, 116, 97], dta d d.cnt)] none none = _
    rw [rdb, a1, if_pos hf, rdb, a2, if_pos hd]; rfl
  · rw [rdb, a1, if_pos hf, rdb]
    show (if (stp (some (fby d)) none nm m).1 = 0 then rdb _ (stp (some (fby d)) none nm m).2.1 (stp (some (fby d)) none nm m).2.2 else _) = _
    rw [a3, if_pos rfl]
    show rdb [([100, 97, 116, 97], dta d d.cnt)] (some (fby d)) none = _
    rw [rdb, a2, if_pos hd]; rfl
  · show rdb [([102, 109, 116, 32], fby d), ([100, 97, 116, 97], dta d d.cnt), (nm, m)] none none = _
    rw [rdb, a1, if_pos hf, rdb, a2, if_pos hd, rdb]
    show (if (stp (some (fby d)) (some (fby d, dta d d.cnt)) nm m).1 = 0 then rdb _ (stp (some (fby d)) (some (fby d, dta d d.cnt)) nm m).2.1 (stp (some (fby d)) (some (fby d, dta d d.cnt)) nm m).2.2 else _) = _
    rw [a3, if_pos rfl]; rfl
theorem put_ok {d : Dat} {nm m : List Nat} (hz : dsz d ≤ 268435456) (h4 : nm.length = 4) (hm : m.length ≤ 268435456) (i : Nat) : OkL (putL d nm m i) ∧ 4 + (bodyL (putL d nm m i)).length < 4294967296 := by
  have hl := dta_small hz
  have hfl : (fby d).length = 16 := fmtb_len _ _ _
  have hok : OkL [([102, 109, 116, 32], fby d), ([100, 97, 116, 97], dta d d.cnt), (nm, m)] := by
    intro c hc
    simp only [List.mem_cons, List.not_mem_nil, or_false] at hc
    rcases hc with rfl | rfl | rfl
    · exact ⟨rfl, by show (fby d).length < _; rw [hfl]; decide⟩
    · exact ⟨rfl, by show (dta d d.cnt).length < _; omega⟩
    · exact ⟨h4, by show m.length < _; omega⟩
  have l1 : (chb [102, 109, 116, 32] (fby d)).length = 24 := by rw [chb_len, hfl]; rfl
  have l2 : (chb [100, 97, 116, 97] (dta d d.cnt)).length ≤ 268435465 := by
    rw [chb_len]
    show 4 + 4 + (dta d d.cnt).length + (dta d d.cnt).length % 2 ≤ _
    omega
  have l3 : (chb nm m).length ≤ 268435465 := by rw [chb_len, h4]; omega
  unfold putL twoL
  split
  · refine ⟨fun c hc => hok c ?_, ?_⟩
    · simp only [List.mem_cons, List.not_mem_nil, or_false] at hc ⊢
      rcases hc with h | h | h <;> simp [h]
    · show 4 + (chb nm m ++ (chb _ (fby d) ++ (chb _ (dta d d.cnt) ++ []))).length < _
      rw [List.length_append, List.length_append, List.length_append, l1]
      simp only [List.length_nil]
      omega
  · refine ⟨fun c hc => hok c ?_, ?_⟩
    · simp only [List.mem_cons, List.not_mem_nil, or_false] at hc ⊢
      rcases hc with h | h | h <;> simp [h]
    · show 4 + (chb _ (fby d) ++ (chb nm m ++ (chb _ (dta d d.cnt) ++ []))).length < _
      rw [List.length_append, List.length_append, List.length_append, l1]
      simp only [List.length_nil]
      omega
  · refine ⟨fun c hc => hok c ?_, ?_⟩
    · exact hc
    · show 4 + (chb _ (fby d) ++ (chb _ (dta d d.cnt) ++ (chb nm m ++ []))).length < _
      rw [List.length_append, List.length_append, List.length_append, l1]
      simp only [List.length_nil]
      omega
/-- What is read of the whole. -/
theorem rdw_put {d : Dat} {nm m : List Nat} (hk : d.chk = 0) (hz : dsz d ≤ 268435456) (h1 : nm ≠ [102, 109, 116, 32]) (h2 : nm ≠ [100, 97, 116, 97]) (h4 : nm.length = 4) (hm : m.length ≤ 268435456) (i : Nat) : rdw (riff (bodyL (putL d nm m i))) = (0, some (fby d, dta d d.cnt)) := by
  obtain ⟨a, b⟩ := put_ok hz h4 hm i
  rw [rdw_riff a b]
  exact rdb_put hk h1 h2 i
end Go.Proofs.Ytkdpalmdcnpnoaa.Wv
namespace Go.Proofs.Ytkdpalmdcnpnoaa.Wv
open Go.RowKit Gen Fld Pcm

theorem whb_riff (X : List Nat) : whb X = riff X := by
  unfold whb riff
  rw [Nat.add_comm X.length 4]
  simp only [List.append_assoc]
/-- What the loop has put together ahead of round i, when the unknown chunk comes at place p. -/
def soFar (d : Dat) (nm m : List Nat) (p : Nat) : Nat → List Nat
  | 0 => []
  | i + 1 => soFar d nm m p i ++ ((if i = p then chb nm m else []) ++ (match i with | 0 => chb [102, 109, 116, 32] (fby d) | 1 => chb [100, 97, 116, 97] (dta d d.cnt) | _ => []))
theorem soFar_all (d : Dat) (nm m : List Nat) (p : Nat) (hp : p < 3) : soFar d nm m p 3 = bodyL (putL d nm m p) := by
  have hp3 : p = 0 ∨ p = 1 ∨ p = 2 := by omega
  rcases hp3 with rfl | rfl | rfl
  · show (([] ++ (chb nm m ++ chb [102, 109, 116, 32] (fby d))) ++ ([] ++ chb [100, 97, 116, 97] (dta d d.cnt))) ++ ([] ++ []) = chb nm m ++ (chb [102, 109, 116, 32] (fby d) ++ (chb [100, 97, 116, 97] (dta d d.cnt) ++ []))
    simp only [List.append_assoc, List.append_nil, List.nil_append]
  · show (([] ++ ([] ++ chb [102, 109, 116, 32] (fby d))) ++ (chb nm m ++ chb [100, 97, 116, 97] (dta d d.cnt))) ++ ([] ++ []) = chb [102, 109, 116, 32] (fby d) ++ (chb nm m ++ (chb [100, 97, 116, 97] (dta d d.cnt) ++ []))
    simp only [List.append_nil, List.nil_append]
  · show (([] ++ ([] ++ chb [102, 109, 116, 32] (fby d))) ++ ([] ++ chb [100, 97, 116, 97] (dta d d.cnt))) ++ (chb nm m ++ []) = chb [102, 109, 116, 32] (fby d) ++ (chb [100, 97, 116, 97] (dta d d.cnt) ++ (chb nm m ++ []))
    simp only [List.append_assoc, List.append_nil, List.nil_append]
theorem place_in (n : Int) : ∃ p : Nat, p < 3 ∧ ((n.tmod 3) + 3).tmod 3 = (p : Int) := by
  have h1 := Int.lt_tmod_of_pos n (show (0 : Int) < 3 by decide)
  have h2 := Int.tmod_lt_of_pos n (show (0 : Int) < 3 by decide)
  have h3 : (n.tmod 3 + 3).tmod 3 = (n.tmod 3 + 3) % 3 := Int.tmod_eq_emod_of_nonneg (by omega)
  refine ⟨((n.tmod 3 + 3) % 3).toNat, ?_, ?_⟩
  · omega
  · rw [h3]; omega
end Go.Proofs.Ytkdpalmdcnpnoaa.Wv
namespace Go.Proofs.Ytkdpalmdcnpnoaa.Wv
open Go.RowKit Gen Fld Pcm

/-- What the loop puts behind the unknown chunk in round i. -/
def soTail (d : Dat) : Nat → List Nat
  | 0 => chb [102, 109, 116, 32] (fby d)
  | 1 => chb [100, 97, 116, 97] (dta d d.cnt)
  | _ => []
theorem soFar_eq (d : Dat) (nm m : List Nat) (p : Nat) : ∀ k, soFar d nm m p (k + 1) = soFar d nm m p k ++ ((if k = p then chb nm m else []) ++ soTail d k)
  | 0 => rfl
  | 1 => rfl
  | _ + 2 => rfl
theorem soFar_with (d : Dat) (nm m : List Nat) (p k : Nat) (h : k = p) : soFar d nm m p (k + 1) = (soFar d nm m p k ++ chb nm m) ++ soTail d k := by
  rw [soFar_eq, if_pos h, List.append_assoc]
theorem soFar_less (d : Dat) (nm m : List Nat) (p k : Nat) (h : ¬ k = p) : soFar d nm m p (k + 1) = soFar d nm m p k ++ soTail d k := by
  rw [soFar_eq, if_neg h, List.nil_append]
theorem soTail_len {d : Dat} (hz : dsz d ≤ 268435456) (k : Nat) : (soTail d k).length ≤ 268435466 := by
  have l0 : (fby d).length = 16 := fmtb_len _ _ _
  have l1 : (chb [102, 109, 116, 32] (fby d)).length = 24 := by rw [chb_len, l0]; rfl
  have l3 := dta_small hz
  have l2 : (chb [100, 97, 116, 97] (dta d d.cnt)).length ≤ 268435466 := by
    rw [chb_len]
    show 4 + 4 + (dta d d.cnt).length + (dta d d.cnt).length % 2 ≤ _
    omega
  unfold soTail
  split
  · omega
  · exact l2
  · exact Nat.zero_le _
theorem soFar_len {d : Dat} {nm m : List Nat} {p : Nat} (hz : dsz d ≤ 268435456) (h4 : nm.length = 4) (hm : m.length ≤ 300) : ∀ k, (soFar d nm m p k).length ≤ k * 300000000
  | 0 => Nat.le_refl _
  | k + 1 => by
    have ih := soFar_len (p := p) hz h4 hm k
    have ht := soTail_len hz k
    by_cases h : k = p
    · rw [soFar_with d nm m p k h, List.length_append, List.length_append, chb_len, h4]
      omega
    · rw [soFar_less d nm m p k h, List.length_append]
      omega
theorem whb_len (l : List Nat) : (whb l).length = 12 + l.length := by
  unfold whb
  rw [List.length_append, List.length_append, List.length_append, le_len]
  simp only [List.length_cons, List.length_nil]
theorem sb_ne {s : ByteArray} {l : List Nat} {u : List UInt8} (h : ¬ s.toList = u) (e : (tos l).toList = u) : sb s ≠ l := fun h2 => h (by rw [← tos_sb s, h2]; exact e)
theorem tos_fmt : (tos [102, 109, 116, 32]).toList = [102, 109, 116, 32] := by decide +kernel
theorem tos_data : (tos [100, 97, 116, 97]).toList = [100, 97, 116, 97] := by decide +kernel
end Go.Proofs.Ytkdpalmdcnpnoaa.Wv
namespace Go.Proofs.Ytkdpalmdcnpnoaa.Wv
open Go.RowKit Gen Fld

set_option maxRecDepth 20000 in
theorem rchunk2_any {w : World} (s : ByteArray) (hs : s.size ≤ 16) {a : Option Addr} {c n : Nat} {l : List Nat} (hb : Byts w a l) (hn : l.length = n) (hnil : a = none → l.length = 0 ∧ c = 0) (hl : n ≤ 1073741824) :
    Calls Try.prog 20 #[.string s, .slice a n c] w (LW w (chb (sb s) l)) := by
  obtain ⟨i0, hi, hz0, hz1, hz2⟩ := info_parts Try.info5
  have hcv := fun W => conv_string W s
  have HS0 := hid (show NW w (some ⟨w.heap.size, 0, none⟩) (grownCap w s.size 0 5) (sb s) (Lib.bytesWorld w 5 s) from ⟨WR.of_string w s (by omega), below_string w s⟩)
  have HBY := hid fun w' (h : Below w.heap.size w w') => hb.keep h
  have HNIL := hid hnil
  have hu := u64_small n (by omega)
  have HRB := hid fun w => (show Calls Try.prog 51 #[.int .u64 (n : Int), .int .i64 4] w fun e w' => e = .returned (.slice (some ⟨w.heap.size, 0, none⟩) 4 4) ∧ NW w (some ⟨w.heap.size, 0, none⟩) 4 (le n 4) w' from rb_any n 4 (by omega) (by decide) w)
  have HN := hid hn
  have HSL := hid (sb_len s)
  have HCH := hid (show chb (sb s) l = sb s ++ le n 4 ++ l ++ List.replicate (n % 2) 0 by unfold chb; rw [hn])
  clear hb hnil hn
  go_enter Try.func20, Try.ntmps20
  go_wp2_with fail
  generalize hG : grownCap w s.size 0 5 = G at *
  generalize hW1 : Lib.bytesWorld w 5 s = w1 at *
  clear hG hW1 hcv
  refine (HRB.out _).mono ?_
  rintro e w2 ⟨rfl, h2⟩
  have HS2 := hid (HS0.out.keep h2.bel)
  have HB2 := hid h2.row
  have h2s := HS2.out.bel.size
  clear h2
  go_wp2_with (at_builtin; (refine (wpList_append_any w2 (by rfl) _ _ _ (by rfl) w.heap.size i0 _ Try.underlying29 hi hz0 hz1 hz2 rfl _ s.size G (sb s) HSL.out (by rfl) HS2.out.row _ 4 4 (le n 4) (le_len _ _) (by rfl) HB2.out.byts (fun e => by cases e) (by omega) h2s ?_)))
  intro ao3 c3 w3 ho3 hg3 _
  have HN3 := hid (HS2.out.app ho3 hg3)
  have HL3 := hid (show (sb s ++ le n 4).length = s.size + 4 by rw [List.length_append, le_len, HSL.out])
  have h3s := HN3.out.bel.size
  clear ho3 hg3 h2s HS2 HB2 HS0
  obtain ⟨L3, hL3⟩ : ∃ L3, L3 = sb s ++ le n 4 := ⟨_, rfl⟩
  rw [← hL3] at HN3 HL3 HCH
  clear hL3
  have HBY3 := hid (HBY.out _ HN3.out.bel)
  go_wp2_with (at_builtin; (refine (wpList_append_any w3 (by rfl) _ _ _ (by rfl) w.heap.size i0 _ Try.underlying29 hi hz0 hz1 hz2 rfl ao3 (s.size + 4) c3 L3 HL3.out (by rfl) HN3.out.row a n c l HN.out (by rfl) HBY3.out HNIL.out (by omega) h3s ?_)))
  intro ao4 c4 w4 ho4 hg4 _
  have HN4 := hid (HN3.out.app ho4 hg4)
  have HL4 := hid (show (L3 ++ l).length = s.size + 4 + n by rw [List.length_append, HL3.out, HN.out])
  clear ho4 hg4 HN3 HBY3 h3s
  obtain ⟨L4, hL4⟩ : ∃ L4, L4 = L3 ++ l := ⟨_, rfl⟩
  rw [← hL4] at HN4 HL4 HCH
  clear hL4
  by_cases hodd : n % 2 = 1
  · rw [hodd] at HCH
    have hodd2 : ((n : Int) % 2 == 1) = true := by rw [beq_iff_eq]; omega
    have HN5 := hid (HN4.out.keep (bel_new w4 (.cells #[.int .u8 0] 5)))
    have HZ5 := hid (show WR (w4.alloc (.cells #[.int .u8 0] 5)) w4.heap.size (some ⟨w4.heap.size, 0, none⟩) 1 [0] from lit_wr w4 [0] 1 rfl (by decide) (by decide) (0, 0) (.inl rfl))
    have h5s := HN5.out.bel.size
    clear hodd
    go_wp2_with (at_builtin; (refine (wpList_append_any (w4.alloc (.cells #[.int .u8 0] 5)) (by rfl) _ _ _ (by rfl) w.heap.size i0 _ Try.underlying29 hi hz0 hz1 hz2 rfl ao4 (s.size + 4 + n) c4 L4 HL4.out (by rfl) HN5.out.row _ 1 1 [0] rfl (by rfl) HZ5.out.byts (fun e => by cases e) (by omega) h5s ?_)))
    intro ao6 c6 w6 ho6 hg6 _
    have HN6 := hid (HN5.out.app ho6 hg6)
    have HL6 := hid (show (L4 ++ [0]).length = s.size + 4 + n + 1 by rw [List.length_append, HL4.out]; rfl)
    clear ho6 hg6
    go_wp2_with fail
    go_ret
    rw [HCH.out]
    exact LW.of HL6.out HN6.out
  · have h0 : n % 2 = 0 := by omega
    rw [h0] at HCH
    have hodd2 : ((n : Int) % 2 == 1) = false := by rw [beq_eq_false_iff_ne]; omega
    clear hodd h0
    go_wp2_with fail
    go_ret
    rw [HCH.out]
    show LW w (L4 ++ []) _ _
    rw [List.append_nil]
    exact LW.of HL4.out HN4.out
end Go.Proofs.Ytkdpalmdcnpnoaa.Wv
namespace Go.Proofs.Ytkdpalmdcnpnoaa.Wv
open Go.RowKit Gen Fld Pcm

/-- What is asked of WavOthers' arguments. -/
def Asks (d : Dat) (nm : ByteArray) (L : Nat) : Prop := (d.n ≤ 9 ∧ ∀ i, i < d.n → d.ln i ≤ 300) ∧ nm.size = 4 ∧ nm.toList ≠ [102, 109, 116, 32] ∧ nm.toList ≠ [100, 97, 116, 97] ∧ L ≤ 300 ∧ d.chk = 0
set_option maxRecDepth 20000 in
set_option maxHeartbeats 1000000 in
theorem others_walk (w : World) (d : Dat) (h : Snd w d) (nm : ByteArray) {a : Option Addr} {L cap : Nat} {m : List Nat} (hb : Byts w a m) (hL : m.length = L) (hc : L ≤ cap) (hnil : a = none → m.length = 0 ∧ cap = 0) (n : Int) :
    Calls Try.prog 7 #[d.v, .string nm, .slice a L cap, .int .i64 n] w fun e w' => e = .returned (.bool true) ∧ Below w.heap.size w w' := by
  have HSM := hid fun w' (hw : Below w.heap.size w w') => small_any w' d (h.below hw) 300
  have HCK := hid fun w' (hw : Below w.heap.size w w') => rcheck_any w' d (h.below hw)
  have HWD := hid fun w' => rwidth_any d.f.bits w'
  have HKN := hid fun w' => known_true w'
  unfold Dat.v at HSM HCK
  have HB0 := hid (below_new w (.cells #[.int .i64 d.f.ch, .int .i64 d.f.bits, .int .i64 d.f.rate, .slice d.a d.n d.cap] 26))
  have HX0 := hid (bx_new w d)
  have HBY := hid hb
  have HLE := hid hL
  have HCP := hid hc
  have HNL := hid hnil
  show Calls Try.prog 7 #[.agg #[.int .i64 d.f.ch, .int .i64 d.f.bits, .int .i64 d.f.rate, .slice d.a d.n d.cap], .string nm, .slice a L cap, .int .i64 n] w _
  have HSD := hid h
  clear h hb hL hc hnil
  obtain ⟨b0, b1, b2, b3⟩ := HX0.out
  go_enter Try.func7, Try.ntmps7
  go_wp2_with fail
  generalize w.alloc (.cells #[.int .i64 d.f.ch, .int .i64 d.f.bits, .int .i64 d.f.rate, .slice d.a d.n d.cap] 26) = W0 at *
  refine (HSM.out _ HB0.out).mono ?_
  rintro e w1 ⟨b, rfl, hsm, hb1⟩
  have HB1 := hid (HB0.out.trans (hb1.mono HB0.out.size))
  have HX1 := hid (HX0.out.below hb1)
  have HS := hid hsm
  clear hsm hb1 b0 b1 b2 b3 HSM HX0
  cases b with
  | false =>
    go_wp2_with fail
    refine (HKN.out _).mono ?_
    rintro e w2 ⟨rfl, hb2⟩
    have HF := hid (HB1.out.trans (hb2.mono HB1.out.size))
    clear hb2
    go_wp2_with fail
    go_ret
    exact ⟨rfl, HF.out⟩
  | true =>
    obtain ⟨b0, b1, b2, b3⟩ := HX1.out
    by_cases h4 : nm.size = 4
    · have q4 : ((nm.size : Int) != 4) = false := by rw [h4]; rfl
      by_cases hf : nm.toList = [102, 109, 116, 32]
      · have qf : (nm.toList == [102, 109, 116, 32]) = true := beq_iff_eq.2 hf
        go_wp2_with fail
        refine (HKN.out _).mono ?_
        rintro e w2 ⟨rfl, hb2⟩
        have HF := hid (HB1.out.trans (hb2.mono HB1.out.size))
        clear hb2
        go_wp2_with fail
        go_ret
        exact ⟨rfl, HF.out⟩
      · have qf : (nm.toList == [102, 109, 116, 32]) = false := beq_eq_false_iff_ne.2 hf
        by_cases hd : nm.toList = [100, 97, 116, 97]
        · have qd : (nm.toList == [100, 97, 116, 97]) = true := beq_iff_eq.2 hd
          go_wp2_with fail
          refine (HKN.out _).mono ?_
          rintro e w2 ⟨rfl, hb2⟩
          have HF := hid (HB1.out.trans (hb2.mono HB1.out.size))
          clear hb2
          go_wp2_with fail
          go_ret
          exact ⟨rfl, HF.out⟩
        · have qd : (nm.toList == [100, 97, 116, 97]) = false := beq_eq_false_iff_ne.2 hd
          by_cases h3 : 300 < L
          · have q3 : (300 : Int) < (L : Int) := by omega
            go_wp2_with fail
            refine (HKN.out _).mono ?_
            rintro e w2 ⟨rfl, hb2⟩
            have HF := hid (HB1.out.trans (hb2.mono HB1.out.size))
            clear hb2
            go_wp2_with fail
            go_ret
            exact ⟨rfl, HF.out⟩
          · have q3 : ¬ (300 : Int) < (L : Int) := by omega
            by_cases hk : d.chk = 0
            · have hr := (chk_ok hk).1
              have hw1 := wd_pos hr.2.1.1 hr.2.1.2
              have hw0 : ¬ wd d.f.bits = 0 := by omega
              have HAS := hid (show Asks d nm L from ⟨HS.out rfl, h4, hf, hd, by omega, hk⟩)
              rw [hk] at HCK
              have q3b : decide ((300 : Int) < (L : Int)) = false := decide_eq_false q3
              have hw0b : ((wd d.f.bits : Int) == 0) = false := beq_eq_false_iff_ne.2 (by omega)
              clear hf hd h3 hk hr hw1 h4 q3 hw0
              go_wp2_with fail
              refine (HWD.out _).mono ?_
              rintro e w2 ⟨rfl, rfl⟩
              go_wp2_with fail
              refine (HCK.out _ HB1.out).mono ?_
              rintro e w2 ⟨rfl, hb2⟩
              have HB2 := hid (HB1.out.trans (hb2.mono HB1.out.size))
              have HX2 := hid (HX1.out.below hb2)
              clear hb2 b0 b1 b2 b3
              obtain ⟨hask1, hask2, hask3, hask4, hask5, hask6⟩ := HAS.out
              obtain ⟨hr, hch, hn8, hn0, hcnt, hln, hfar⟩ := chk_ok hask6
              obtain ⟨nb, hbits⟩ : ∃ nb : Nat, d.f.bits = (nb : Int) := ⟨d.f.bits.toNat, by have := hr.2.1.1; omega⟩
              obtain ⟨rt, hrate⟩ : ∃ rt : Nat, d.f.rate = (rt : Int) := ⟨d.f.rate.toNat, by have := hr.2.2.1; omega⟩
              have hr2 := hr.2.1.2
              have hr3 := hr.2.2.2
              have HFM := hid fun w' => rformat_any d.n nb rt hn8 (by omega) (by omega) w'
              have hfb : fmtb d.n nb rt = fby d := by unfold fby; rw [hbits, hrate, Int.toNat_natCast, Int.toNat_natCast]
              rw [hfb, hch, ← hbits, ← hrate] at HFM
              have HDA := hid fun (w' : World) (hb : Below w.heap.size w w') => rdata_any (HSD.out.below hb) hask6
              unfold Dat.v at HDA
              have hz := small_sz (d := d) ⟨hask1.1, fun i hi => Nat.le_trans (hask1.2 i hi) (by decide)⟩
              have HZ := hid hz
              have HM1L := hid (show (fby d).length = 16 from fmtb_len _ _ _)
              have HM2L := hid (dta_len d d.cnt)
              rw [show d.cnt * (d.n * wd d.f.bits) = dsz d from rfl] at HM2L
              obtain ⟨M1, hM1⟩ : ∃ M1, M1 = fby d := ⟨_, rfl⟩
              obtain ⟨M2, hM2⟩ : ∃ M2, M2 = dta d d.cnt := ⟨_, rfl⟩
              rw [← hM1] at HM1L HFM
              rw [← hM2] at HM2L HDA
              have HME1 := hid hM1
              have HME2 := hid hM2
              have HC1 := hid (chb_len [102, 109, 116, 32] M1)
              have HC2 := hid (chb_len [100, 97, 116, 97] M2)
              rw [HM1L.out] at HC1
              rw [HM2L.out] at HC2
              rw [show ([102, 109, 116, 32] : List Nat).length + 4 + 16 + 16 % 2 = 24 from rfl] at HC1
              rw [show ([100, 97, 116, 97] : List Nat).length + 4 + dsz d + dsz d % 2 = 8 + dsz d + dsz d % 2 from rfl] at HC2
              obtain ⟨T, hT⟩ : ∃ T, T = 8 + dsz d + dsz d % 2 := ⟨_, rfl⟩
              rw [← hT] at HC2
              have HTE := hid hT
              clear hT
              have HH1 := hid fun (w : World) (a : Option Addr) (c : Nat) (hb : Byts w a M1) (hn : a = none → M1.length = 0 ∧ c = 0) (hl : ∀ ad, a = some ad → ad.block < w.heap.size) => rchunk_any (w := w) ⟨#[102, 109, 116, 32]⟩ (by decide) hb HM1L.out hn hl (by decide)
              have HH2 := hid fun (w : World) (a : Option Addr) (c : Nat) (hb : Byts w a M2) (hn : a = none → M2.length = 0 ∧ c = 0) (hl : ∀ ad, a = some ad → ad.block < w.heap.size) => rchunk_any (w := w) ⟨#[100, 97, 116, 97]⟩ (by decide) hb HM2L.out hn hl (by omega)
              rw [show sb ⟨#[102, 109, 116, 32]⟩ = [102, 109, 116, 32] from rfl] at HH1
              rw [show sb ⟨#[100, 97, 116, 97]⟩ = [100, 97, 116, 97] from rfl] at HH2
              clear hM1 hM2 hask1 hask2 hask3 hask4 hask5 hask6 hr hch hn8 hn0 hcnt hln hfar hbits hrate hr2 hr3 hfb hz
              obtain ⟨b0, b1, b2, b3⟩ := HX2.out
              have HX3 := hid fun (w' : World) (hb : Below w2.heap.size w2 w') => HX2.out.below hb
              have d0 := bel_drew w2
              obtain ⟨s00, s01, s02, s03⟩ := HX3.out _ d0
              have s0 : w2.drew.cell? ⟨w.heap.size, 0, none⟩ = some (.int .i64 d.f.ch) ∧ w2.drew.cell? ⟨w.heap.size, 1, none⟩ = some (.int .i64 d.f.bits) ∧ w2.drew.cell? ⟨w.heap.size, 2, none⟩ = some (.int .i64 d.f.rate) ∧ w2.drew.cell? ⟨w.heap.size, 3, none⟩ = some (.slice d.a d.n d.cap) := ⟨s00, s01, s02, s03⟩
              have HS0 := hid fun (w' : World) (hb : Below w2.heap.size w2 w') => (show w'.cell? ⟨w.heap.size, 0, none⟩ = some (.int .i64 d.f.ch) ∧ w'.cell? ⟨w.heap.size, 1, none⟩ = some (.int .i64 d.f.bits) ∧ w'.cell? ⟨w.heap.size, 2, none⟩ = some (.int .i64 d.f.rate) ∧ w'.cell? ⟨w.heap.size, 3, none⟩ = some (.slice d.a d.n d.cap) from ⟨(HX3.out _ hb).c0, (HX3.out _ hb).c1, (HX3.out _ hb).c2, (HX3.out _ hb).c3⟩)
              clear s00 s01 s02 s03
              go_wp2_with fail
              clear b0 b1 b2 b3 hw0b q3b qd qf q4
              go_region_held3 (fun w' => w'.cell? ⟨w.heap.size, 0, none⟩ = some (.int .i64 d.f.ch) ∧ w'.cell? ⟨w.heap.size, 1, none⟩ = some (.int .i64 d.f.bits) ∧ w'.cell? ⟨w.heap.size, 2, none⟩ = some (.int .i64 d.f.rate) ∧ w'.cell? ⟨w.heap.size, 3, none⟩ = some (.slice d.a d.n d.cap))
                (first | with_reducible exact s0 | with_reducible exact s1 | with_reducible exact s2 | with_reducible exact s3 | with_reducible exact s4 | with_reducible exact s5 | go_keep)
                ((first
                  | (go_at_call 21; (with_reducible refine (HFM.out _).mono ?_); rintro e w3 hx2; obtain ⟨a2, c2, rfl, n2⟩ := lw_at HM1L.out hx2; have d2 := d0.trans (n2.bel.mono d0.size); have s1 := HS0.out _ d2)
                  | (go_at_call 20; (with_reducible refine (HH1.out _ a2 c2 n2.row.byts n2.row.nil n2.row.alt).mono ?_); rintro e w4 hx3; obtain ⟨a3, c3, rfl, n3⟩ := lw_at HC1.out hx3; have d3 := d2.trans (n3.bel.mono d2.size); have s2 := HS0.out _ d3)
                  | (go_at_call 22; (with_reducible refine (HDA.out _ (HB2.out.trans (d3.mono HB2.out.size))).mono ?_); rintro e w5 hx4; obtain ⟨a4, c4, rfl, n4⟩ := lw_at HM2L.out hx4; have d4 := d3.trans (n4.bel.mono d3.size); have s3 := HS0.out _ d4)
                  | (go_at_call 20; (with_reducible refine (HH2.out _ a4 c4 n4.row.byts n4.row.nil n4.row.alt).mono ?_); rintro e w6 hx5; obtain ⟨a5, c5, rfl, n5⟩ := lw_at HC2.out hx5; have d5 := d4.trans (n5.bel.mono d4.size); have s4 := HS0.out _ d5; have s5 := HS0.out _ (d5.trans ((bel_new w6 (.cells #[.slice a3 24 c3, .slice a5 T c5] 29)).mono d5.size)); have n6 := ((n3.mono d2).keep n4.bel).keep n5.bel)))
              have hbn := bel_new w6 (.cells #[.slice a3 24 c3, .slice a5 T c5] 29)
              have h7 := d5.trans (hbn.mono d5.size)
              have HN3 := hid (n6.keep hbn)
              have HN5 := hid (n5.keep hbn)
              have HX7 := hid (HX3.out _ h7)
              have HB7 := hid (HB2.out.trans (h7.mono HB2.out.size))
              have hr7 : (w6.alloc (.cells #[.slice a3 24 c3, .slice a5 T c5] 29)).cell? ⟨w6.heap.size, 0, none⟩ = some (.slice a3 24 c3) ∧ (w6.alloc (.cells #[.slice a3 24 c3, .slice a5 T c5] 29)).cell? ⟨w6.heap.size, 1, none⟩ = some (.slice a5 T c5) := by
                constructor <;> (unfold World.cell?; rw [heap_alloc_new]; rfl)
              have hg7 : w6.heap.size < (w6.alloc (.cells #[.slice a3 24 c3, .slice a5 T c5] 29)).heap.size := by simp
              have HG7 := hid hg7
              clear hg7
              have HR7 := hid hr7
              clear s0 s1 s2 s3 s4 s5 d0 d2 d3 d4 d5 n2 n3 n4 n5 n6 hx2 hx3 hx4 hx5 hbn h7 hr7
              generalize w6.alloc (.cells #[.slice a3 24 c3, .slice a5 T c5] 29) = W7 at *
              generalize w6.heap.size = g7 at *
              have HCL : Hid (∀ k, k < 2 → ∃ (ak : Option Addr) (nk ck : Nat) (Mk : List Nat), nk ≤ 268435466 ∧ Hid (Mk.length = nk) ∧ Hid (soTail d k = Mk) ∧ Hid (∀ w', Below W7.heap.size W7 w' → w'.cell? ⟨g7, k, none⟩ = some (.slice ak nk ck) ∧ Byts w' ak Mk ∧ (ak = none → Mk.length = 0 ∧ ck = 0))) := hid fun k hk => by
                have hk2 : k = 0 ∨ k = 1 := by omega
                rcases hk2 with rfl | rfl
                · exact ⟨a3, 24, c3, _, by decide, HC1, hid (by rw [HME1.out]; rfl), hid fun w' hb => ⟨by rw [World.cell?_of_block (a := ⟨g7, 0, none⟩) (hb.block g7 HG7.out)]; exact HR7.out.1, HN3.out.row.byts.keep hb, HN3.out.row.nil⟩⟩
                · exact ⟨a5, T, c5, _, by rw [HTE.out]; have := HZ.out; omega, HC2, hid (by rw [HME2.out]; rfl), hid fun w' hb => ⟨by rw [World.cell?_of_block (a := ⟨g7, 1, none⟩) (hb.block g7 HG7.out)]; exact HR7.out.2, HN5.out.row.byts.keep hb, HN5.out.row.nil⟩⟩
              obtain ⟨hask1, hask2, hask3, hask4, hask5, hask6⟩ := HAS.out
              have HNM := hid (show (sb nm).length = 4 by rw [sb_len]; exact hask2)
              have HFB := hid (fun p k => soFar_len (d := d) (nm := sb nm) (m := m) (p := p) HZ.out HNM.out (by rw [HLE.out]; exact hask5) k)
              have HLL := hid hask5
              have HCHK := hid hask6
              have HRDW := hid (fun i => rdw_put hask6 HZ.out (sb_ne hask3 tos_fmt) (sb_ne hask4 tos_data) HNM.out (show m.length ≤ 268435456 by rw [HLE.out]; omega) i)
              have HCM := hid (chb_len (sb nm) m)
              rw [HNM.out, HLE.out] at HCM
              have HRC := hid (fun (w : World) (a : Option Addr) (c : Nat) (hb : Byts w a m) (hn : a = none → m.length = 0 ∧ c = 0) => rchunk2_any (w := w) nm (by omega) hb HLE.out hn (by omega))
              obtain ⟨i0, hi, hz0, hz1, hz2⟩ := info_parts Try.info5
              clear hask1 hask2 hask3 hask4 hask5 hask6
              obtain ⟨pl, hpl, hpe⟩ := place_in n
              have h1 := Int.lt_tmod_of_pos n (show (0 : Int) < 3 by decide)
              have h2 := Int.tmod_lt_of_pos n (show (0 : Int) < 3 by decide)
              go_upto_region 6 with fail
              clear h1 h2 hpe
              go_wp2_with fail
              go_loopg [10, 11] 3 (fun gg v i wr => ∃ (k : Nat) (lo : Option Addr) (ln lcap : Nat), k ≤ 3 ∧ gg = 3 - k ∧ v = .slice lo ln lcap ∧ i = .int .i64 (k : Int) ∧ Hid ((soFar d (sb nm) m pl k).length = ln) ∧ Hid (NW W7 lo lcap (soFar d (sb nm) m pl k) wr))
              case atStart => exact ⟨0, none, 0, 0, by decide, rfl, rfl, rfl, hid rfl, hid ⟨⟨(fun _ h => by cases h), .inl ⟨rfl, rfl, rfl⟩⟩, Below.refl _ _⟩⟩

              case round =>
                obtain ⟨k, lo, ln, lcap, hk3, hg, rfl, rfl, HLN, HN⟩ := hrel
                have HG := hid hg
                clear hg
                have HBD := hid (HFB.out pl k)
                have hln : ln ≤ k * 300000000 := by have h1 := HBD.out; rw [HLN.out] at h1; exact h1
                obtain ⟨X, hX⟩ : ∃ X, X = soFar d (sb nm) m pl k := ⟨_, rfl⟩
                have HX := hid hX
                clear hX
                rw [← HX.out] at HLN HN
                by_cases hk2 : k ≤ 2
                · have hk2i : (k : Int) ≤ 2 := by omega
                  by_cases hkp : k = pl
                  · have qp : ((k : Int) == (pl : Int)) = true := by rw [beq_iff_eq]; omega
                    have HE := hid (soFar_with d (sb nm) m pl k hkp)
                    rw [← HX.out] at HE
                    have HHC := hid (HRC.out _ a cap (HBY.out.keep (HB7.out.trans (HN.out.bel.mono HB7.out.size))) HNL.out)
                    clear hkp
                    go_wp2_with fail
                    refine (HHC.out).mono ?_
                    rintro e x2 hx
                    obtain ⟨a8, c8, rfl, n8⟩ := lw_at HCM.out hx
                    have HS8 := hid (HN.out.keep n8.bel)
                    have HB8 := hid n8.row
                    have h8s := HS8.out.bel.size
                    have HLL2 := HLL.out
                    clear hx n8
                    go_wp2_with (at_builtin; (refine (wpList_append_any x2 (by rfl) _ _ _ (by rfl) W7.heap.size i0 _ Try.underlying29 hi hz0 hz1 hz2 rfl lo ln lcap X HLN.out (by rfl) HS8.out.row a8 _ c8 (chb (sb nm) m) HCM.out (by rfl) HB8.out.byts HB8.out.nil (by omega) h8s ?_)))
                    intro ao7 c7 w7 ho7 hg7 _
                    have HN7 := hid (HS8.out.app ho7 hg7)
                    have HL7 := hid (show (X ++ chb (sb nm) m).length = ln + (4 + 4 + L + L % 2) by rw [List.length_append, HLN.out, HCM.out])
                    have hln7 : ln + (4 + 4 + L + L % 2) ≤ 900001000 := by omega
                    clear ho7 hg7 h8s HS8 HB8 HLL2
                    obtain ⟨X7, hX7⟩ : ∃ X7, X7 = X ++ chb (sb nm) m := ⟨_, rfl⟩
                    rw [← hX7] at HN7 HL7 HE
                    clear hX7
                    generalize ln + (4 + 4 + L + L % 2) = ln7 at *

                    by_cases hk1 : k < 2
                    · have hk1i : (k : Int) < 2 := by omega
                      obtain ⟨ak, nk, ck, Mk, hnk, HMK, HTK, HWK⟩ := HCL.out k hk1
                      have HE2 := hid (show soFar d (sb nm) m pl (k + 1) = X7 ++ Mk by rw [HE.out, HTK.out])
                      obtain ⟨c1, hb1, hn1⟩ := HWK.out _ HN7.out.bel
                      have HB1x := hid hb1
                      have HN1x := hid hn1
                      clear hb1 hn1 hk1
                      have hsz := HN7.out.bel.size
                      go_wp2_with (at_builtin; (refine (wpList_append_any _ (by rfl) _ _ _ (by rfl) W7.heap.size i0 _ Try.underlying29 hi hz0 hz1 hz2 rfl ao7 ln7 c7 X7 HL7.out (by rfl) HN7.out.row ak nk ck Mk HMK.out (by rfl) HB1x.out HN1x.out (by omega) hsz ?_)))
                      intro ao9 c9 w9 ho9 hg9 _
                      have HN9 := hid (HN7.out.app ho9 hg9)
                      rw [← HE2.out] at HN9
                      have hl9 : ln7 + nk = (soFar d (sb nm) m pl (k + 1)).length := by rw [HE2.out, List.length_append, HL7.out, HMK.out]
                      have HL9 := hid hl9.symm
                      clear ho9 hg9 c1 hsz hl9
                      go_wp2_with fail
                      go_roundg (3 - (k + 1))
                      case measure => rw [HG.out]; omega
                      case rel => exact ⟨k + 1, ao9, ln7 + nk, c9, by omega, rfl, rfl, by go_num, HL9, HN9⟩
                    · have hk1i : ¬ (k : Int) < 2 := by omega
                      obtain rfl : k = 2 := by omega
                      have HN9 := hid (show NW W7 ao7 c7 (soFar d (sb nm) m pl (2 + 1)) _ by rw [HE.out, show soTail d 2 = [] from rfl, List.append_nil]; exact HN7.out)
                      have HL9 := hid (show (soFar d (sb nm) m pl (2 + 1)).length = ln7 by rw [HE.out, show soTail d 2 = [] from rfl, List.append_nil]; exact HL7.out)
                      clear hk1
                      go_wp2_with fail
                      go_roundg 0
                      case measure => rw [HG.out]; omega
                      case rel => exact ⟨3, ao7, ln7, c7, by omega, rfl, rfl, by go_num, HL9, HN9⟩

                  · have qp : ((k : Int) == (pl : Int)) = false := by rw [beq_eq_false_iff_ne]; omega
                    have HE := hid (soFar_less d (sb nm) m pl k hkp)
                    rw [← HX.out] at HE
                    clear hkp

                    by_cases hk1 : k < 2
                    · have hk1i : (k : Int) < 2 := by omega
                      obtain ⟨ak, nk, ck, Mk, hnk, HMK, HTK, HWK⟩ := HCL.out k hk1
                      have HE2 := hid (show soFar d (sb nm) m pl (k + 1) = X ++ Mk by rw [HE.out, HTK.out])
                      obtain ⟨c1, hb1, hn1⟩ := HWK.out _ HN.out.bel
                      have HB1x := hid hb1
                      have HN1x := hid hn1
                      clear hb1 hn1 hk1
                      have hsz := HN.out.bel.size
                      go_wp2_with (at_builtin; (refine (wpList_append_any _ (by rfl) _ _ _ (by rfl) W7.heap.size i0 _ Try.underlying29 hi hz0 hz1 hz2 rfl lo ln lcap X HLN.out (by rfl) HN.out.row ak nk ck Mk HMK.out (by rfl) HB1x.out HN1x.out (by omega) hsz ?_)))
                      intro ao9 c9 w9 ho9 hg9 _
                      have HN9 := hid (HN.out.app ho9 hg9)
                      rw [← HE2.out] at HN9
                      have hl9 : ln + nk = (soFar d (sb nm) m pl (k + 1)).length := by rw [HE2.out, List.length_append, HLN.out, HMK.out]
                      have HL9 := hid hl9.symm
                      clear ho9 hg9 c1 hsz hl9
                      go_wp2_with fail
                      go_roundg (3 - (k + 1))
                      case measure => rw [HG.out]; omega
                      case rel => exact ⟨k + 1, ao9, ln + nk, c9, by omega, rfl, rfl, by go_num, HL9, HN9⟩
                    · have hk1i : ¬ (k : Int) < 2 := by omega
                      obtain rfl : k = 2 := by omega
                      have HN9 := hid (show NW W7 lo lcap (soFar d (sb nm) m pl (2 + 1)) _ by rw [HE.out, show soTail d 2 = [] from rfl, List.append_nil]; exact HN.out)
                      have HL9 := hid (show (soFar d (sb nm) m pl (2 + 1)).length = ln by rw [HE.out, show soTail d 2 = [] from rfl, List.append_nil]; exact HLN.out)
                      clear hk1
                      go_wp2_with fail
                      go_roundg 0
                      case measure => rw [HG.out]; omega
                      case rel => exact ⟨3, lo, ln, lcap, by omega, rfl, rfl, by go_num, HL9, HN9⟩

                · have hk2i : ¬ (k : Int) ≤ 2 := by omega
                  obtain rfl : k = 3 := by omega
                  have HXB := hid (show X = bodyL (putL d (sb nm) m pl) by rw [HX.out]; exact soFar_all d (sb nm) m pl hpl)
                  have HWH := hid (rwhole_any (w := wr) HN.out.row.byts HLN.out HN.out.row.nil (by omega))
                  have HWL := hid (whb_len X)
                  have hWR := HRDW.out pl
                  rw [← HXB.out, ← whb_riff] at hWR
                  have HWR := hid hWR
                  rw [HLN.out] at HWL
                  have HSB := hid (HB7.out.trans (HN.out.bel.mono HB7.out.size))
                  have HXR := hid (HX7.out.below HN.out.bel)
                  clear hWR hk2 hpl
                  generalize whb X = R at *
                  obtain ⟨b0, b1, b2, b3⟩ := HXR.out
                  go_wp2_with fail
                  refine (HWH.out).mono ?_
                  rintro e x1 hx
                  obtain ⟨a8, c8, rfl, n8⟩ := lw_at HWL.out hx
                  have hroom := n8.row.room
                  rw [HWL.out] at hroom
                  have HRD := hid (read_any n8.row.byts HWL.out hroom.1 (fun e => by rw [HWL.out]; exact hroom.2 e) (by omega))
                  unfold RdP at HRD
                  rw [HWR.out] at HRD
                  have HB8 := hid (HSB.out.trans (n8.bel.mono HSB.out.size))
                  have HX8 := hid (HXR.out.below n8.bel)
                  clear hx n8 hroom b0 b1 b2 b3
                  obtain ⟨b0, b1, b2, b3⟩ := HX8.out
                  go_wp2_with fail
                  refine HRD.out.mono ?_
                  rintro e x3 ⟨D, rfl, hs3, hb3, ho3⟩
                  have HSM2 := hid (same_read HCHK.out ho3)
                  have hbn := bel_new x3 (.cells #[.int .i64 D.f.ch, .int .i64 D.f.bits, .int .i64 D.f.rate, .slice D.a D.n D.cap] 26)
                  have hb4 := hb3.trans (hbn.mono hb3.size)
                  have HB4 := hid (HB8.out.trans (hb4.mono HB8.out.size))
                  have HX4 := hid (HX8.out.below hb4)
                  have HR4 := hid (Rx.new x3 (.int .i64 D.f.ch) (.int .i64 D.f.bits) (.int .i64 D.f.rate) (.slice D.a D.n D.cap) 26)
                  have HSA := hid (rsame_any _ d D (HSD.out.below HB4.out) (hs3.below hbn))
                  rw [HSM2.out] at HSA
                  clear hs3 hb3 ho3 hbn hb4 HRD b0 b1 b2 b3
                  obtain ⟨b0, b1, b2, b3⟩ := HX4.out
                  unfold Dat.v at HSA ⊢
                  go_wp2_with fail
                  refine HSA.out.mono ?_
                  rintro e w5 ⟨rfl, hb5⟩
                  have HB5 := hid (HB4.out.trans (hb5.mono HB4.out.size))
                  clear hb5 b0 b1 b2 b3
                  go_wp2_with fail
                  refine (HKN.out _).mono ?_
                  rintro e w6 ⟨rfl, hb6⟩
                  have HF := hid (HB5.out.trans (hb6.mono HB5.out.size))
                  clear hb6
                  go_wp2_with fail
                  go_ret
                  exact ⟨rfl, HF.out⟩
            · have hkz : (d.chk != 0) = true := bne_iff_ne.2 hk
              by_cases hw0 : wd d.f.bits = 0
              · go_wp2_with fail
                refine (HWD.out _).mono ?_
                rintro e w2 ⟨rfl, rfl⟩
                go_wp2_with fail
                refine (HKN.out _).mono ?_
                rintro e w2 ⟨rfl, hb2⟩
                have HF := hid (HB1.out.trans (hb2.mono HB1.out.size))
                clear hb2
                go_wp2_with fail
                go_ret
                exact ⟨rfl, HF.out⟩
              · go_wp2_with fail
                refine (HWD.out _).mono ?_
                rintro e w2 ⟨rfl, rfl⟩
                go_wp2_with fail
                refine (HCK.out _ HB1.out).mono ?_
                rintro e w2 ⟨rfl, hb3⟩
                have HB2 := hid (HB1.out.trans (hb3.mono HB1.out.size))
                clear hb3 b0 b1 b2 b3
                go_wp2_with fail
                refine (HKN.out _).mono ?_
                rintro e w3 ⟨rfl, hb2⟩
                have HF := hid (HB2.out.trans (hb2.mono HB2.out.size))
                clear hb2
                go_wp2_with fail
                go_ret
                exact ⟨rfl, HF.out⟩
    · have q4 : ((nm.size : Int) != 4) = true := by rw [bne_iff_ne]; omega
      go_wp2_with fail
      refine (HKN.out _).mono ?_
      rintro e w2 ⟨rfl, hb2⟩
      have HF := hid (HB1.out.trans (hb2.mono HB1.out.size))
      clear hb2
      go_wp2_with fail
      go_ret
      exact ⟨rfl, HF.out⟩
end Go.Proofs.Ytkdpalmdcnpnoaa.Wv
