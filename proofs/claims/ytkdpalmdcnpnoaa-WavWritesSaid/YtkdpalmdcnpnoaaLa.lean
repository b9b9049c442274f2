/- The document's Weave. Condition: the sound lies in memory as its lists. -/
import Derived.Test.YtkdpalmdcnpnoaaWe
import Derived.Test.YtkdpalmdcnpnoaaRk
namespace Go.Proofs.Ytkdpalmdcnpnoaa.Pcm
open Go.RowKit Gen

set_option maxHeartbeats 1600000 in
set_option maxRecDepth 100000 in
theorem rweave_any (w : World) (d : Dat) (h : Snd w d) : Calls Try.prog 52 #[d.v] w (WeavePost w d) := by
  have HCT := hid fun w' (hb : Below w.heap.size w w') => rcount_any w' d (h.below hb)
  have HCK := hid fun w' (hb : Below w.heap.size w w') => rcheck_any w' d (h.below hb)
  have HB0 := hid (below_new w (.cells #[.int .i64 d.f.ch, .int .i64 d.f.bits, .int .i64 d.f.rate, .slice d.a d.n d.cap] 26))
  have HX0 := hid (bx_new w d)
  have H := hid h
  clear h
  show Calls Try.prog 52 #[.agg #[.int .i64 d.f.ch, .int .i64 d.f.bits, .int .i64 d.f.rate, .slice d.a d.n d.cap]] w _
  unfold Dat.v at HCT HCK
  obtain ⟨i0, hi, hz0, hz1, hz2⟩ := info_parts Try.info3
  go_enter Try.func52, Try.ntmps52
  go_wp2_with fail
  refine (HCK.out _ HB0.out).mono ?_
  rintro e w1 ⟨rfl, hb1⟩
  have HB1 := hid (HB0.out.trans (hb1.mono HB0.out.size))
  have HX1 := hid (HX0.out.below hb1)
  clear hb1
  by_cases hc : d.chk = 0
  · have HOK := hid (chk_ok hc)
    have HC := hid hc
    have HAD := hid (H.out.addr HOK.out.2.2.2.1)
    rw [hc]
    have hn8 := HOK.out.2.2.1
    have hcnt := HOK.out.2.2.2.2.1
    have hprod : d.n * d.cnt ≤ 8 * 4294967295 := Nat.mul_le_mul hn8 hcnt
    obtain ⟨C, hC⟩ : ∃ C, C = d.n * d.cnt := ⟨_, rfl⟩
    have hCb : C ≤ 34359738360 := by omega
    have HCC := hid hC
    have HLEN : Hid ((if d.chk = 0 then d.n * d.cnt else 0) = C) := hid (by rw [if_pos hc, hC])
    have HV0 : Hid (Wv w w1 w.heap.size d none 0 0) := hid ⟨World.ownsRow_nil _ _ _ _, by simp [blk], HX1.out, HB1.out⟩
    clear hc hC hprod
    go_wp2_with fail
    go_loopg [5, 6, 7] d.cnt (fun g v i z wr => ∃ (k : Nat) (lo : Option Addr) (lcap : Nat) (zz : Value), k ≤ d.cnt ∧ g = d.cnt - k ∧ i = .int .i64 k ∧ v = .slice lo (k * d.n) lcap ∧ z = zz ∧ Wv w wr w.heap.size d lo lcap (k * d.n))
    case atStart => exact ⟨0, none, 0, _, Nat.zero_le _, rfl, rfl, by rw [Nat.zero_mul], rfl, by rw [Nat.zero_mul]; exact HV0.out⟩
    case round =>
      obtain ⟨k, lo, lcap, zz, hk, hg, rfl, rfl, rfl, hv⟩ := hrel
      have HG := hid hg
      have HV := hid hv
      clear hg hv
      obtain ⟨b0, b1, b2, b3⟩ := HV.out.bx
      go_wp2_with fail
      refine (HCT.out _ HV.out.below).mono ?_
      rintro e w3 ⟨rfl, hb3⟩
      have HV3 := hid (HV.out.upto hb3)
      clear hb3 b0 b1 b2 b3
      by_cases hlt : k < d.cnt
      · have hlt2 : (k : Int) < (d.cnt : Int) := by omega
        go_wp2_with fail
        go_loopg [5, 7] d.n (fun g v i wi => ∃ (c : Nat) (lo : Option Addr) (lcap : Nat), c ≤ d.n ∧ g = d.n - c ∧ i = .int .i64 c ∧ v = .slice lo (k * d.n + c) lcap ∧ Wv w wi w.heap.size d lo lcap (k * d.n + c))
        case atStart => exact ⟨0, _, _, Nat.zero_le _, rfl, rfl, rfl, HV3.out⟩
        case round =>
          obtain ⟨c, lo, lcap, hc, hg, rfl, rfl, hv⟩ := hrel
          have HG2 := hid hg
          have c3 := hv.bx.c3
          rw [HAD.out] at c3
          clear hg
          by_cases hcl : c < d.n
          · have hcl2 : (c : Int) < (d.n : Int) := by omega
            have hS := H.out.below hv.below
            have bk := hS.c c hcl
            obtain ⟨lb, loff, hls⟩ := hS.l c hcl
            have hlnc := HOK.out.2.2.2.2.2.1 c hcl
            rw [hlnc] at bk hls
            have HLA := hid (hls.addr (by omega))
            have bx := hls.c k hlt
            rw [HLA.out] at bk
            have HWV : Hid (d.wv (k * d.n + c) = d.X c k) := hid (by
              unfold Dat.wv
              rw [Nat.mul_comm k, Nat.mul_add_mod, Nat.mod_eq_of_lt hcl, Nat.mul_add_div (by omega), Nat.div_eq_of_lt hcl, Nat.add_zero])
            have hbound : k * d.n + c + 1 ≤ 34359738368 := by
              have : k * d.n ≤ d.cnt * d.n := Nat.mul_le_mul_right _ (by omega)
              have h2 : d.cnt * d.n = C := by rw [HCC.out, Nat.mul_comm]
              omega
            have hsz : w.heap.size ≤ (wr.alloc (.cells #[.int .i64 (d.X c k)] 3)).heap.size := by have := hv.below.size; simp; omega
            have hrow := (hv.upto (below_new wr (.cells #[.int .i64 (d.X c k)] 3))).row
            have hcell : (wr.alloc (.cells #[.int .i64 (d.X c k)] 3)).cell? ⟨wr.heap.size, 0, none⟩ = some (.int .i64 (d.X c k)) := by simp
            unfold Row at hrow
            have HVA := hid (hv.upto (below_new wr (.cells #[.int .i64 (d.X c k)] 3)))
            clear hls hS hlnc hv
            go_wp2_with (at_builtin; go_must (refine wpList_append_one rfl (.tmp 26) (.tmp 35) 55 rfl w.heap.size 3 i0 (.int .i64 0) 8 Try.underlying55 hi hz0 hz1 hz2 rfl lo (k * d.n + c) lcap (ivs d.wv (k * d.n + c)) rfl hrow ⟨wr.heap.size, 0, none⟩ 1 (.int .i64 (d.X c k)) rfl hcell rfl (by unfold maxLen; omega) (by omega) hsz ?_))
            intro gg cap' w4 hown4 hkept
            have hst : Wv w w4 w.heap.size d (some ⟨gg, 0, none⟩) cap' (k * d.n + (c + 1)) := by
              have hf : Fr (fun b => blk lo = some b) (wr.alloc (.cells #[.int .i64 (d.X c k)] 3)) w4 := (Fr.refl _ _).grown hkept.grown fun b hb _ => hb
              have hbp : w4.heap[w.heap.size]? = (wr.alloc (.cells #[.int .i64 (d.X c k)] 3)).heap[w.heap.size]? := hf.block _ HVA.out.bx.lt HVA.out.far
              have hcc : ∀ i, w4.cell? ⟨w.heap.size, i, none⟩ = (wr.alloc (.cells #[.int .i64 (d.X c k)] 3)).cell? ⟨w.heap.size, i, none⟩ := fun i => World.cell?_of_block (a := ⟨w.heap.size, i, none⟩) hbp
              refine ⟨?_, ?_, ⟨(hcc 0).trans HVA.out.bx.c0, (hcc 1).trans HVA.out.bx.c1, (hcc 2).trans HVA.out.bx.c2, (hcc 3).trans HVA.out.bx.c3⟩, HVA.out.below.grown hkept.grown HVA.out.below.size (fun b hb => (HVA.out.row.lt b hb).1)⟩
              · unfold Row
                rw [← Nat.add_assoc, ivs_succ, HWV.out]
                exact hown4
              · intro e
                have e1 : gg = w.heap.size := by simpa [blk] using e
                rcases hkept.at_ with h | h
                · exact HVA.out.far (by rw [h, e1])
                · have := HVA.out.bx.lt; omega
            have HST := hid hst
            clear hst hown4 hkept hrow hcell hsz bk bx c3
            go_wp2_with fail
            go_roundg (d.n - (c + 1))
            case measure => rw [HG2.out]; omega
            case rel => exact ⟨c + 1, _, _, by omega, rfl, by go_num, by rw [← Nat.add_assoc], HST.out⟩
          · have hce : ¬ (c : Int) < (d.n : Int) := by omega
            obtain rfl : c = d.n := by omega
            have hst : Wv w wr w.heap.size d lo lcap ((k + 1) * d.n) := by rw [Nat.add_mul, Nat.one_mul]; exact hv
            have HE : Hid (k * d.n + d.n = (k + 1) * d.n) := hid (by rw [Nat.add_mul, Nat.one_mul])
            have HST := hid hst
            clear hv hst
            go_wp2_with fail
            clear c3
            go_roundg (d.cnt - (k + 1))
            case measure => rw [HG.out]; omega
            case rel => exact ⟨k + 1, _, _, _, by omega, rfl, by go_num, by rw [HE.out], rfl, HST.out⟩
      · have hge : ¬ (k : Int) < (d.cnt : Int) := by omega
        obtain rfl : k = d.cnt := by omega
        have HCE : Hid (d.cnt * d.n = C) := hid (by rw [HCC.out, Nat.mul_comm])
        go_wp2_with fail
        go_ret2
        refine ⟨lo, lcap, d.cnt * d.n, by rw [HLEN.out, HCE.out], ?_, HV3.out.row, HV3.out.below⟩
        rw [HC.out]; rfl
  · have e0 : (d.chk != 0) = true := bne_iff_ne.2 hc
    have HLEN : Hid ((if d.chk = 0 then d.n * d.cnt else 0) = 0) := hid (if_neg hc)
    clear hc
    go_wp2_with fail
    go_ret2
    exact ⟨none, 0, 0, HLEN.out.symm, rfl, World.ownsRow_nil _ _ _ _, HB1.out⟩
end Go.Proofs.Ytkdpalmdcnpnoaa.Pcm
