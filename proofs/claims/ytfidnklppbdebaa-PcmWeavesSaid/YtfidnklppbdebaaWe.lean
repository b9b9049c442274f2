/- Ints of the document, and Weave of pcm: all samples, frame by frame. Conditions: sound lies in memory as its lists. -/
import Derived.Test.YtfidnklppbdebaaRk
import Derived.Laws.MakeOwn
namespace Go.Proofs.Ytfidnklppbdebaa.Pcm
open Go.RowKit Gen

theorem Try.info3 : (Try.prog.info? 3).map (fun i => (i.zero, i.size, i.bytes)) = some (some (.int .i64 0), 1, 8) := by kernel_rfl

/-- Two lists that have the same numbers are the same. -/
theorem ints_any (w : World) (a a' : Option Addr) (len cap cap' b off b' off' : Nat) (U V : Nat → Int) (h : Isb w a len b off U) (h' : Isb w a' len b' off' V) (he : ∀ i, i < len → U i = V i) :
    Calls Try.prog 27 #[.slice a len cap, .slice a' len cap'] w fun e w' => e = .returned (.bool true) ∧ Fr (fun _ => False) w w' := by
  have H := hid h
  have H' := hid h'
  have HE := hid he
  have hl := h.hl
  clear h h' he
  go_enter Try.func27, Try.ntmps27
  go_wp2_with fail
  go_loopg [5] len (fun g i wr => ∃ j : Nat, j ≤ len ∧ g = len - j ∧ i = .int .i64 j ∧ Fr (fun _ => False) w wr)
  case atStart => exact ⟨0, Nat.zero_le _, rfl, rfl, Fr.refl _ _⟩
  case round =>
    obtain ⟨j, hj, hg, rfl, hf⟩ := hrel
    have HG := hid hg
    clear hg
    by_cases hlt : j < len
    · have hlt2 : (j : Int) < (len : Int) := by omega
      obtain rfl := H.out.addr (by omega)
      obtain rfl := H'.out.addr (by omega)
      have ck := (H.out.fr hf).c j hlt
      have ck' := (H'.out.fr hf).c j hlt
      rw [← HE.out j hlt] at ck'
      generalize U j = x at *
      go_wp2_with fail
      go_quiet (fail)
      have hf2 : Fr (fun _ => False) w (wr.drewN nq) := ⟨hf.os, hf.tape, hf.output, hf.size, hf.block⟩
      clear ck ck' hf
      go_wp2_with fail
      go_roundg (len - (j + 1))
      case measure => rw [HG.out]; omega
      case rel => exact ⟨j + 1, by omega, rfl, by go_num, hf2⟩
    · have hge : ¬ (j : Int) < (len : Int) := by omega
      obtain rfl : j = len := by omega
      go_wp2_with fail
      go_ret
      exact ⟨rfl, hf⟩

/-- Numbers of a function, as cells. -/
def ivs (f : Nat → Int) (len : Nat) : List Value := (List.range len).map fun t => .int .i64 (f t)
theorem ivs_succ (f : Nat → Int) (len : Nat) : ivs f (len + 1) = ivs f len ++ [.int .i64 (f len)] := by unfold ivs; rw [List.range_succ, List.map_append]; rfl
theorem ivs_len (f : Nat → Int) (len : Nat) : (ivs f len).length = len := by simp [ivs]
def Row (w : World) (B : Nat) (lo : Option Addr) (lcap : Nat) (f : Nat → Int) (len : Nat) : Prop := w.ownsRow B 3 1 (.slice lo len lcap) len (ivs f len)
theorem Row.isb {w : World} {B : Nat} {lo : Option Addr} {lcap len : Nat} {f : Nat → Int} (h : Row w B lo lcap f len) (hl : len ≤ 9223372036854775807) : ∃ b, Isb w lo len b 0 f := by
  rcases ownsRow_at h with ⟨_, h1, _, _⟩ | ⟨g, rfl⟩
  · exact ⟨0, fun h0 => by omega, fun i hi => by omega, fun h0 => by omega, hl⟩
  · refine ⟨g, fun _ => rfl, fun i hi => ?_, fun _ => (World.ownsRow.lt h g (by rw [ownBlock_slice]; rfl)).2, hl⟩
    rw [Nat.zero_add]
    exact ownsRow_cell h i _ (by simp [ivs, hi])
theorem Row.lt {w : World} {B : Nat} {lo : Option Addr} {lcap len : Nat} {f : Nat → Int} (h : Row w B lo lcap f len) : ∀ g, blk lo = some g → B ≤ g ∧ g < w.heap.size := fun g hg => World.ownsRow.lt h g (by rw [ownBlock_slice]; exact hg)
theorem rowblock {w w' : World} {base : Nat} {e : TypeId} {size : Nat} {ao : Option Addr} {n cap : Nat} {xs : List Value} (h : w.ownsRow base e size (.slice ao n cap) n xs)
    (hb : ∀ g, blk ao = some g → w'.heap[g]? = w.heap[g]?) : w'.ownsRow base e size (.slice ao n cap) n xs := by
  obtain ⟨hl, h⟩ := h
  rcases h with h | ⟨g, c, cur, hv, q1, q2, q3⟩
  · exact ⟨hl, .inl h⟩
  · refine ⟨hl, .inr ⟨g, c, cur, hv, q1, ?_, q3⟩⟩
    cases hv
    rw [hb g rfl]; exact q2
theorem Row.upto {w w' : World} {B : Nat} {lo : Option Addr} {lcap len : Nat} {f : Nat → Int} (h : Row w B lo lcap f len) (hb : Below w.heap.size w w') : Row w' B lo lcap f len := rowblock h fun g hg => hb.block g (h.lt g hg).2

/-- The samples, woven. -/
def Dat.wv (d : Dat) (t : Nat) : Int := d.X (t % d.n) (t / d.n)
def WeavePost (w : World) (d : Dat) (e : Ending) (w' : World) : Prop := ∃ (lo : Option Addr) (lcap len : Nat), len = (if d.chk = 0 then d.n * d.cnt else 0) ∧ e = .returned (.tuple #[.slice lo len lcap, .int .i64 d.chk]) ∧ Row w' w.heap.size lo lcap d.wv len ∧ Below w.heap.size w w'

/-- What right sound is like. -/
theorem chk_ok {d : Dat} (h : d.chk = 0) : d.f.right ∧ (d.n : Int) = d.f.ch ∧ d.n ≤ 8 ∧ 0 < d.n ∧ d.cnt ≤ 4294967295 ∧ (∀ i, i < d.n → d.ln i = d.cnt) ∧ d.far = false := by
  unfold Dat.chk at h
  by_cases hr : d.f.right
  · rw [if_neg (fun h => h hr)] at h
    by_cases hu : (d.n : Int) ≠ d.f.ch ∨ 4294967295 < d.cnt ∨ d.unlike = true
    · rw [if_pos hu] at h; cases h
    · rw [if_neg hu] at h
      have h1 : (d.n : Int) = d.f.ch := by
        rcases Int.lt_trichotomy (d.n : Int) d.f.ch with e | e | e
        · exact absurd (.inl (by omega)) hu
        · exact e
        · exact absurd (.inl (by omega)) hu
      have h2 : ¬ 4294967295 < d.cnt := fun e => hu (.inr (.inl e))
      have h3 : ∀ i, i < d.n → d.ln i = d.cnt := fun i hi => by
        by_cases e : d.ln i = d.cnt
        · exact e
        · exact absurd (.inr (.inr ((any_iff _ _).2 ⟨i, hi, bne_iff_ne.2 (by omega)⟩))) hu
      refine ⟨hr, h1, by have := hr.1; omega, by have := hr.1; omega, by omega, h3, ?_⟩
      cases hf : d.far with
      | false => rfl
      | true => rw [hf] at h; cases h
  · rw [if_pos hr] at h; cases h

/-- The row of the samples, and what stands beside it. -/
structure Wv (w wr : World) (p : Nat) (d : Dat) (lo : Option Addr) (lcap t : Nat) : Prop where
  row : Row wr w.heap.size lo lcap d.wv t
  far : blk lo ≠ some p
  bx : Bx wr p d
  below : Below w.heap.size w wr
theorem Wv.upto {w wr w' : World} {p : Nat} {d : Dat} {lo : Option Addr} {lcap t : Nat} (h : Wv w wr p d lo lcap t) (hb : Below wr.heap.size wr w') : Wv w w' p d lo lcap t :=
  ⟨h.row.upto hb, h.far, h.bx.below hb, h.below.trans (hb.mono h.below.size)⟩

set_option maxHeartbeats 1600000 in
set_option maxRecDepth 100000 in
theorem weave_any (w : World) (d : Dat) (h : Snd w d) : Calls Try.prog 23 #[d.v] w (WeavePost w d) := by
  have HCT := hid fun w' (hb : Below w.heap.size w w') => count_any w' d (h.below hb)
  have HCK := hid fun w' (hb : Below w.heap.size w w') => check_any w' d (h.below hb)
  have HB0 := hid (below_new w (.cells #[.int .i64 d.f.ch, .int .i64 d.f.bits, .int .i64 d.f.rate, .slice d.a d.n d.cap] 26))
  have HX0 := hid (bx_new w d)
  have H := hid h
  clear h
  show Calls Try.prog 23 #[.agg #[.int .i64 d.f.ch, .int .i64 d.f.bits, .int .i64 d.f.rate, .slice d.a d.n d.cap]] w _
  unfold Dat.v at HCT HCK
  obtain ⟨i0, hi, hz0, hz1, hz2⟩ := info_parts Try.info3
  go_enter Try.func23, Try.ntmps23
  go_wp2_with fail
  refine (HCK.out _ HB0.out).mono ?_
  rintro e w1 ⟨rfl, hb1⟩
  have HB1 := hid (HB0.out.trans (hb1.mono HB0.out.size))
  have HX1 := hid (HX0.out.below hb1)
  clear hb1
  by_cases hc : d.chk = 0
  · have HOK := hid (chk_ok hc)
    have HC := hid hc
    have HAD := hid (H.out.addr HOK.out.2.2.2.1)
    rw [HAD.out]
    rw [hc]
    obtain ⟨b0, b1, b2, b3⟩ := HX1.out
    have hchn : d.f.ch = (d.n : Int) := HOK.out.2.1.symm
    have hn8 := HOK.out.2.2.1
    have hcnt := HOK.out.2.2.2.2.1
    have hprod : d.n * d.cnt ≤ 8 * 4294967295 := Nat.mul_le_mul hn8 hcnt
    have hmul : (d.n : Int) * (d.cnt : Int) = ((d.n * d.cnt : Nat) : Int) := by push_cast; rfl
    obtain ⟨C, hC⟩ : ∃ C, C = d.n * d.cnt := ⟨_, rfl⟩
    have hCb : C ≤ 34359738360 := by omega
    have hmk : ∀ W : World, (Instr.makeSlice 42 (.int .i64 0) (.int .i64 (C : Int))).run Try.prog W = .ok (.slice (some ⟨W.heap.size, 0, none⟩) 0 C) (W.alloc (.cells (madeCells #[.int .i64 0] C) 3)) := fun W => by
      have hm := run_make (P := Try.prog) W 42 3 i0 (.int .i64 0) Try.underlying42 hi hz0 .i64 .i64 0 (C : Int) (by decide) (by omega) (by rw [hz2]; omega) (by omega)
      rw [hz1, Int.toNat_natCast, Nat.mul_one] at hm
      exact hm
    have hwr : IntKind.i64.wrap ((d.n : Int) * (d.cnt : Int)) = (C : Int) := by rw [hmul, ← hC]; exact IntWalk.i64_in _ (by omega)
    have hwr2 : wrap64 ((d.n : Int) * (d.cnt : Int)) = (C : Int) := by rw [hmul, ← hC]; exact w64 _ (by omega) (by omega)
    have HCC := hid hC
    have HLEN : Hid ((if d.chk = 0 then d.n * d.cnt else 0) = C) := hid (by rw [if_pos hc, hC])
    clear hc hC hmul hprod
    rw [hchn, HAD.out] at HCT
    rw [hchn] at b0
    rw [HAD.out] at b3
    go_wp2_with fail
    have hd : Below w1.heap.size w1 w1.drew := ⟨rfl, rfl, rfl, Nat.le_refl _, fun _ _ => rfl⟩
    have hx2 := HX1.out.below hd
    rw [show Bx w1.drew w.heap.size d ↔ Bx w1.drew w.heap.size d from Iff.rfl] at hx2
    have s0 : w1.drew.cell? ⟨w.heap.size, 0, none⟩ = some (.int .i64 (d.n : Int)) ∧ w1.drew.cell? ⟨w.heap.size, 1, none⟩ = some (.int .i64 d.f.bits) ∧ w1.drew.cell? ⟨w.heap.size, 2, none⟩ = some (.int .i64 d.f.rate) ∧ w1.drew.cell? ⟨w.heap.size, 3, none⟩ = some (.slice (some ⟨d.b, d.off, none⟩) d.n d.cap) :=
      ⟨by rw [← hchn]; exact hx2.c0, hx2.c1, hx2.c2, by rw [← HAD.out]; exact hx2.c3⟩
    have HB2 := hid (HB1.out.trans (hd.mono HB1.out.size))
    go_cut [5] (fun v wx => ∃ (g lcap : Nat), v = .slice (some ⟨g, 0, none⟩) 0 lcap ∧ Wv w wx w.heap.size d (some ⟨g, 0, none⟩) lcap 0)
    case first =>
      clear b0 b1 b2 b3
      go_region_held3 (fun w' => w'.cell? ⟨w.heap.size, 0, none⟩ = some (.int .i64 (d.n : Int)) ∧ w'.cell? ⟨w.heap.size, 1, none⟩ = some (.int .i64 d.f.bits) ∧ w'.cell? ⟨w.heap.size, 2, none⟩ = some (.int .i64 d.f.rate) ∧ w'.cell? ⟨w.heap.size, 3, none⟩ = some (.slice (some ⟨d.b, d.off, none⟩) d.n d.cap))
        (first | exact s0 | exact s1 | go_keep)
        ((first
          | (go_at_call 14; (with_reducible refine (HCT.out _ HB2.out).mono ?_); rintro e w3 ⟨rfl, hb3⟩; have hx3 := hx2.below hb3; have s1 : w3.cell? ⟨w.heap.size, 0, none⟩ = some (.int .i64 (d.n : Int)) ∧ w3.cell? ⟨w.heap.size, 1, none⟩ = some (.int .i64 d.f.bits) ∧ w3.cell? ⟨w.heap.size, 2, none⟩ = some (.int .i64 d.f.rate) ∧ w3.cell? ⟨w.heap.size, 3, none⟩ = some (.slice (some ⟨d.b, d.off, none⟩) d.n d.cap) := ⟨by rw [← hchn]; exact hx3.c0, hx3.c1, hx3.c2, by rw [← HAD.out]; exact hx3.c3⟩)))
      all_goals
        have hb3w := HB2.out.trans (hb3.mono HB2.out.size)
        have hfin : Wv w (w3.alloc (.cells (madeCells #[.int .i64 0] C) 3)) w.heap.size d (some ⟨w3.heap.size, 0, none⟩) C 0 :=
          ⟨World.ownsRow_made w3 _ C hb3w.size (by unfold maxLen; omega) (by rw [size_madeCells, Nat.mul_one]), by have := hx3.lt; simp [blk]; omega, hx3.below (below_new _ _), hb3w.trans ((below_new _ _).mono hb3w.size)⟩
        clear hb3 hx3 hb3w s0 s1
        go_wp2_with fail
        go_meet
        exact ⟨_, _, rfl, hfin⟩
    case rest =>
      obtain ⟨g0, lcap0, rfl, hv0⟩ := hcut
      clear b0 b1 b2 b3 hmk hwr hwr2 hd hx2 s0 HB2
      obtain ⟨b0, b1, b2, b3⟩ := hv0.bx
      rw [hchn] at b0
      rw [HAD.out] at b3
      go_wp2_with fail
      refine (HCT.out _ hv0.below).mono ?_
      rintro e w3 ⟨rfl, hb3⟩
      have hv3 := hv0.upto hb3
      clear hv0 hb3 b0 b1 b2 b3
      go_wp2_with fail
      go_loopg [5, 23] d.cnt (fun g v i wr => ∃ (k : Nat) (lo : Option Addr) (lcap : Nat), k ≤ d.cnt ∧ g = d.cnt - k ∧ i = .int .i64 k ∧ v = .slice lo (k * d.n) lcap ∧ Wv w wr w.heap.size d lo lcap (k * d.n))
      case atStart => exact ⟨0, _, _, Nat.zero_le _, rfl, rfl, by rw [Nat.zero_mul], by rw [Nat.zero_mul]; exact hv3⟩
      case round =>
        obtain ⟨k, lo, lcap, hk, hg, rfl, rfl, hv⟩ := hrel
        have HG := hid hg
        have HV := hid hv
        clear hg hv hv3
        by_cases hlt : k < d.cnt
        · have hlt2 : (k : Int) < (d.cnt : Int) := by omega
          obtain ⟨b0, b1, b2, b3⟩ := HV.out.bx
          rw [HAD.out] at b3
          go_wp2_with fail
          clear b0 b1 b2 b3
          go_loopg [5, 29] d.n (fun g v i wi => ∃ (c : Nat) (lo : Option Addr) (lcap : Nat), c ≤ d.n ∧ g = d.n - c ∧ i = .int .i64 c ∧ v = .slice lo (k * d.n + c) lcap ∧ Wv w wi w.heap.size d lo lcap (k * d.n + c))
          case atStart => exact ⟨0, _, _, Nat.zero_le _, rfl, rfl, rfl, HV.out⟩
          case round =>
            obtain ⟨c, lo, lcap, hc, hg, rfl, rfl, hv⟩ := hrel
            have HG2 := hid hg
            clear hg
            by_cases hcl : c < d.n
            · have hcl2 : (c : Int) < (d.n : Int) := by omega
              have hS := H.out.below hv.below
              have bk := hS.c c hcl
              obtain ⟨lb, loff, hls⟩ := hS.l c hcl
              have hlnc := HOK.out.2.2.2.2.2.1 c hcl
              rw [hlnc] at bk hls
              have HLA := hid (hls.addr (by omega))
              have bx := hls.c k hlt
              rw [HLA.out] at bk
              have HWV : Hid (d.wv (k * d.n + c) = d.X c k) := hid (by
                unfold Dat.wv
                rw [Nat.mul_comm k, Nat.mul_add_mod, Nat.mod_eq_of_lt hcl, Nat.mul_add_div (by omega), Nat.div_eq_of_lt hcl, Nat.add_zero])
              have hbound : k * d.n + c + 1 ≤ 34359738368 := by
                have : k * d.n ≤ d.cnt * d.n := Nat.mul_le_mul_right _ (by omega)
                have h2 : d.cnt * d.n = C := by rw [HCC.out, Nat.mul_comm]
                omega
              have hsz : w.heap.size ≤ (wr.alloc (.cells #[.int .i64 (d.X c k)] 3)).heap.size := by have := hv.below.size; simp; omega
              have hrow := (hv.upto (below_new wr (.cells #[.int .i64 (d.X c k)] 3))).row
              have hcell : (wr.alloc (.cells #[.int .i64 (d.X c k)] 3)).cell? ⟨wr.heap.size, 0, none⟩ = some (.int .i64 (d.X c k)) := by simp
              unfold Row at hrow
              have HVA := hid (hv.upto (below_new wr (.cells #[.int .i64 (d.X c k)] 3)))
              clear hls hS hlnc hv
              go_wp2_with (at_builtin; go_must (refine wpList_append_one rfl (.tmp 33) (.tmp 38) 42 rfl w.heap.size 3 i0 (.int .i64 0) 8 Try.underlying42 hi hz0 hz1 hz2 rfl lo (k * d.n + c) lcap (ivs d.wv (k * d.n + c)) rfl hrow ⟨wr.heap.size, 0, none⟩ 1 (.int .i64 (d.X c k)) rfl hcell rfl (by unfold maxLen; omega) (by omega) hsz ?_))
              intro gg cap' w4 hown4 hkept
              have hst : Wv w w4 w.heap.size d (some ⟨gg, 0, none⟩) cap' (k * d.n + (c + 1)) := by
                have hf : Fr (fun b => blk lo = some b) (wr.alloc (.cells #[.int .i64 (d.X c k)] 3)) w4 := (Fr.refl _ _).grown hkept.grown fun b hb _ => hb
                have hbp : w4.heap[w.heap.size]? = (wr.alloc (.cells #[.int .i64 (d.X c k)] 3)).heap[w.heap.size]? := hf.block _ HVA.out.bx.lt HVA.out.far
                have hcc : ∀ i, w4.cell? ⟨w.heap.size, i, none⟩ = (wr.alloc (.cells #[.int .i64 (d.X c k)] 3)).cell? ⟨w.heap.size, i, none⟩ := fun i => World.cell?_of_block (a := ⟨w.heap.size, i, none⟩) hbp
                refine ⟨?_, ?_, ⟨(hcc 0).trans HVA.out.bx.c0, (hcc 1).trans HVA.out.bx.c1, (hcc 2).trans HVA.out.bx.c2, (hcc 3).trans HVA.out.bx.c3⟩, HVA.out.below.grown hkept.grown HVA.out.below.size (fun b hb => (HVA.out.row.lt b hb).1)⟩
                · unfold Row
                  rw [← Nat.add_assoc, ivs_succ, HWV.out]
                  exact hown4
                · intro e
                  have e1 : gg = w.heap.size := by simpa [blk] using e
                  rcases hkept.at_ with h | h
                  · exact HVA.out.far (by rw [h, e1])
                  · have := HVA.out.bx.lt; omega
              clear hown4 hkept hrow hcell hsz bk bx
              go_wp2_with fail
              go_roundg (d.n - (c + 1))
              case measure => rw [HG2.out]; omega
              case rel => exact ⟨c + 1, _, _, by omega, rfl, by go_num, by rw [← Nat.add_assoc], hst⟩
            · have hce : ¬ (c : Int) < (d.n : Int) := by omega
              obtain rfl : c = d.n := by omega
              have hst : Wv w wr w.heap.size d lo lcap ((k + 1) * d.n) := by rw [Nat.add_mul, Nat.one_mul]; exact hv
              have HE : Hid (k * d.n + d.n = (k + 1) * d.n) := hid (by rw [Nat.add_mul, Nat.one_mul])
              clear hv
              go_wp2_with fail
              go_roundg (d.cnt - (k + 1))
              case measure => rw [HG.out]; omega
              case rel => exact ⟨k + 1, _, _, by omega, rfl, by go_num, by rw [HE.out], hst⟩
        · have hge : ¬ (k : Int) < (d.cnt : Int) := by omega
          obtain rfl : k = d.cnt := by omega
          have HCE : Hid (d.cnt * d.n = C) := hid (by rw [HCC.out, Nat.mul_comm])
          go_wp2_with fail
          go_ret2
          refine ⟨lo, lcap, d.cnt * d.n, by rw [HLEN.out, HCE.out], ?_, HV.out.row, HV.out.below⟩
          rw [HC.out]; rfl
  · have hne : (d.chk != 0) = true := bne_iff_ne.2 hc
    have HLEN : Hid ((if d.chk = 0 then d.n * d.cnt else 0) = 0) := hid (if_neg hc)
    clear hc
    go_wp2_with fail
    go_ret2
    exact ⟨none, 0, 0, HLEN.out.symm, rfl, World.ownsRow_nil _ _ _ _, HB1.out⟩
end Go.Proofs.Ytfidnklppbdebaa.Pcm
