/- ShapePlays' walk. Conditions: the calls lie in memory. -/
import Derived.Test.YtpgdllphnmimlaaHl
namespace Go.Proofs.Ytpgdllphnmimlaa.Shape
open Go.RowKit Gen

/-- The shaper at q, and the misses of the document's. -/
structure Pl (w wr : World) (B q k : Nat) (L : List Int) (t : Int) (lo : Option Addr) (cap : Nat) : Prop where
  s : Shp wr q k (mL L) t
  l : Il wr B lo cap L
  low : lowM (mL L)
  tb : -1099511627776 ≤ t ∧ t ≤ 1099511627776
  bel : Below w.heap.size w wr
  qB : q < B
  qw : w.heap.size ≤ q
  Bs : B ≤ wr.heap.size
theorem Pl.below {w wr w2 : World} {B q k : Nat} {L : List Int} {t : Int} {lo : Option Addr} {cap : Nat} (h : Pl w wr B q k L t lo cap) (hb : Below wr.heap.size wr w2) : Pl w w2 B q k L t lo cap :=
  ⟨h.s.below hb, h.l.below hb, h.low, h.tb, h.bel.trans (hb.mono h.bel.size), h.qB, h.qw, Nat.le_trans h.Bs hb.size⟩
theorem Pl.aim {w wr w2 : World} {B q k : Nat} {L : List Int} {t T : Int} {lo : Option Addr} {cap : Nat} (h : Pl w wr B q k L t lo cap) (hs : Shp w2 q k (mL L) T) (hT : -1099511627776 ≤ T ∧ T ≤ 1099511627776) (hf : Fr (fun b => b = q) wr w2) : Pl w w2 B q k L T lo cap :=
  ⟨hs, h.l.fr hf h.qB, h.low, hT, bel_fr h.bel hf h.qw, h.qB, h.qw, Nat.le_trans h.Bs hf.size⟩
/-- Noted by the shaper, and not yet by the document. -/
structure Pn (w wr : World) (B q k : Nat) (L : List Int) (u t : Int) (lo : Option Addr) (cap : Nat) : Prop where
  s : Shp wr q k (mL (L ++ [u])) t
  l : Il wr B lo cap L
  low : lowM (mL (L ++ [u]))
  tb : -1099511627776 ≤ t ∧ t ≤ 1099511627776
  bel : Below w.heap.size w wr
  qB : q < B
  qw : w.heap.size ≤ q
  Bs : B ≤ wr.heap.size
theorem Pl.note {w wr w2 : World} {B q k : Nat} {L : List Int} {t u : Int} {lo : Option Addr} {cap : Nat} (h : Pl w wr B q k L t lo cap) (hs : Shp w2 q k (nx (mL L) u) t) (hu : -67108864 ≤ u ∧ u ≤ 67108864) (hf : Fr (fun b => b = q) wr w2) : Pn w w2 B q k L u t lo cap :=
  ⟨by rw [mL_app]; exact hs, h.l.fr hf h.qB, by rw [mL_app]; exact low_nx h.low hu, h.tb, bel_fr h.bel hf h.qw, h.qB, h.qw, Nat.le_trans h.Bs hf.size⟩
theorem Pn.alloc {w wr : World} {B q k : Nat} {L : List Int} {u t : Int} {lo : Option Addr} {cap : Nat} (h : Pn w wr B q k L u t lo cap) (o : Obj) : Pn w (wr.alloc o) B q k L u t lo cap :=
  have hb := below_new wr o
  ⟨h.s.below hb, h.l.below hb, h.low, h.tb, h.bel.trans (hb.mono h.bel.size), h.qB, h.qw, Nat.le_trans h.Bs hb.size⟩
theorem Pn.app {w wr w4 : World} {B q k : Nat} {L : List Int} {u t : Int} {lo : Option Addr} {cap gg cap' : Nat} (h : Pn w wr B q k L u t lo cap)
    (hown : w4.ownsRow B 3 1 (.slice (some ⟨gg, 0, none⟩) (L.length + 1) cap') (L.length + 1) (il L ++ [.int .i64 u])) (hk : Kept wr w4 (blk lo) L.length gg) :
    Pl w w4 B q k (L ++ [u]) t (some ⟨gg, 0, none⟩) cap' := by
  have hlt : ∀ g, blk lo = some g → B ≤ g := fun g hg => (h.l.lt hg).1
  have hq : wr.heap[q]? = w4.heap[q]? := (hk.grown.block q h.s.lt (fun e => by have := hlt q e.symm; have := h.qB; omega)).symm
  refine ⟨⟨hq.symm.trans h.s.row⟩, ?_, h.low, h.tb, h.bel.grown hk.grown h.bel.size fun g hg => by have := hlt g hg; have := h.qB; have := h.qw; omega, h.qB, h.qw, Nat.le_trans h.Bs hk.grown.size⟩
  unfold Il
  rw [List.length_append, il_app]
  exact hown
/-- What stands in the loop. -/
def PlRel (w : World) (B q k : Nat) (j : Nat) (v t : Value) (wr : World) : Prop := ∃ (L : List Int) (T : Int) (lo : Option Addr) (cap : Nat), v = .slice lo L.length cap ∧ t = .int .i64 T ∧ L.length ≤ j ∧ Pl w wr B q k L T lo cap
theorem rt_list {w wr : World} {B q k : Nat} {L : List Int} {t : Int} {lo : Option Addr} {cap : Nat} (hk : k ≤ 3) (h : Pl w wr B q k L t lo cap) (hl : L.length ≤ 9223372036854775807) (x : Int) :
    Calls Try.prog 14 #[.int .i64 (k : Int), .slice lo L.length cap, .int .i64 x] wr (RtPost wr (tg k (mL L) x)) := by
  obtain ⟨b, hi, _⟩ := h.l.isb hl
  have := rtarget_any wr k hk lo L.length cap b 0 (gd L) hi (by rw [ms_mL]; exact h.low) x
  rw [ms_mL] at this
  exact this
set_option maxHeartbeats 3200000 in
theorem plays_walk (w : World) (x : Int) (a : Option Addr) (len cap b off : Nat) (K N : Nat → Int) (h : Asks w a len cap b off K N) :
    Calls Try.prog 4 #[.int .i64 x, .slice a len cap] w fun e w' => e = .returned (.bool true) ∧ Below w.heap.size w w' := by
  by_cases hx : 0 ≤ x ∧ x < 4
  · obtain ⟨k, rfl⟩ := Int.eq_ofNat_of_zero_le hx.1
    have hk : k ≤ 3 := by omega
    have HK := hid hk
    have H := hid h
    clear hx hk h
    by_cases hlen : 200 < len
    · have hl : (200 : Int) < (len : Int) := by omega
      go_enter Try.func4, Try.ntmps4
      go_wp2_with fail
      refine (new_any k HK.out w).mono ?_
      rintro e w1 ⟨q, rfl, hs1, hq, hb1⟩
      have HB1 := hid hb1
      clear hs1 hb1 hq
      go_wp2_with fail
      refine (known_true _).mono ?_
      rintro e w' ⟨rfl, hfin⟩
      have HF := hid (HB1.out.trans (hfin.mono HB1.out.size))
      clear hfin
      go_wp2_with fail
      go_ret
      exact ⟨rfl, HF.out⟩
    · have hl : ¬ (200 : Int) < (len : Int) := by omega
      obtain ⟨i0, hi, hz0, hz1, hz2⟩ := info_parts Try.info3
      go_enter Try.func4, Try.ntmps4
      go_wp2_with fail
      refine (new_any k HK.out w).mono ?_
      rintro e w1 ⟨q, rfl, hs1, hq, hb1⟩
      have hp : PlRel w w1.heap.size q k 0 (.slice none 0 0) (.int .i64 0) w1 := ⟨[], 0, none, 0, rfl, rfl, Nat.le_refl _, ⟨by rw [mL_nil]; exact hs1, Il.nil _ _, by rw [mL_nil]; exact low0, by decide, hb1, hs1.lt, hq, Nat.le_refl _⟩⟩
      have HP := hid hp
      clear hs1 hb1 hq hp
      go_wp2_with fail
      generalize w1.heap.size = B at *
      go_loopg [7, 8, 9] len (fun g v t i wr => ∃ j : Nat, j ≤ len ∧ g = len - j ∧ i = .int .i64 j ∧ PlRel w B q k j v t wr)
      case atStart => exact ⟨0, Nat.zero_le _, rfl, rfl, HP.out⟩
      case round =>
        obtain ⟨j, hj, hg, rfl, L, T, lo, lcap, rfl, rfl, hlj, hpl⟩ := hrel
        have HG := hid hg
        have HPL := hid hpl
        have HLJ := hid hlj
        clear hg hpl hlj HP
        by_cases hlt : j < len
        · have hlt2 : (j : Int) < (len : Int) := by omega
          obtain rfl := H.out.addr (by omega)
          have HAW := hid (H.out.below HPL.out.bel H.out.lt)
          have ck := HAW.out.k j hlt
          have cn := HAW.out.n j hlt
          have CN2 := hid fun (w2 : World) (h : Asks w2 (some ⟨b, off, none⟩) len cap b off K N) => h.n j hlt
          by_cases h0 : K j = 0
          · rw [h0] at ck
            generalize N j = y at *
            clear h0
            go_wp2_with fail
            refine (rt_list HK.out HPL.out (by have := HLJ.out; omega) y).mono ?_
            rintro e w2 ⟨rfl, hb2⟩
            have HP2 := hid (HPL.out.below hb2)
            have HA2 := hid (HAW.out.below hb2 HAW.out.lt)
            clear ck cn hb2
            have ck := HA2.out.k j hlt
            have cn := CN2.out w2 HA2.out
            have HTG := hid (tg_in k HK.out HP2.out.low y)
            have HTA := hid (target_any HP2.out.s HK.out HP2.out.low y)
            unfold TgPost at HTA
            generalize tg k (mL L) y = T2 at *
            go_wp2_with fail
            refine HTA.out.mono ?_
            rintro e w3 ⟨rfl, hs3, hf3⟩
            have HP3 := hid (HP2.out.aim hs3 HTG.out hf3)
            clear hs3 hf3 ck cn
            go_wp2_with fail
            go_roundg (len - (j + 1))
            case measure => rw [HG.out]; omega
            case rel => exact ⟨j + 1, by omega, rfl, by go_num, L, T2, lo, lcap, rfl, rfl, by have := HLJ.out; omega, HP3.out⟩
          · have e0 : (K j == 0) = false := beq_eq_false_iff_ne.2 h0
            by_cases h1 : K j = 1
            · rw [h1] at ck
              generalize N j = y at *
              clear h0 h1 e0
              go_wp2_with fail
              refine (note_any HPL.out.s HPL.out.tb y).mono ?_
              rintro e w2 ⟨rfl, hs2, hf2⟩
              have HPN := hid (HPL.out.note hs2 (mis_in y T) hf2)
              have HA2 := hid (H.out.below HPN.out.bel H.out.lt)
              have HTB := hid HPL.out.tb
              clear ck cn hs2 hf2
              have cn := CN2.out w2 HA2.out
              go_wp2_with fail
              refine (rmiss_any y T HTB.out _).mono ?_
              rintro e w3 ⟨rfl, rfl⟩
              generalize mis y T = u at *
              have HPA := hid (HPN.out.alloc (.cells #[.int .i64 u] 3))
              have hcell : (w2.alloc (.cells #[.int .i64 u] 3)).cell? ⟨w2.heap.size, 0, none⟩ = some (.int .i64 u) := by simp
              have hown : (w2.alloc (.cells #[.int .i64 u] 3)).ownsRow B 3 1 (.slice lo L.length lcap) L.length (il L) := HPA.out.l
              have hBs := HPA.out.Bs
              have hlj := HLJ.out
              clear cn
              go_wp2_with (at_builtin; go_must (refine wpList_append_one rfl (.tmp 62) (.tmp 70) 26 rfl B 3 i0 (.int .i64 0) 8 Try.underlying26 hi hz0 hz1 hz2 rfl lo L.length lcap (il L) rfl hown ⟨w2.heap.size, 0, none⟩ 1 (.int .i64 u) rfl hcell rfl (by unfold maxLen; omega) (by omega) hBs ?_))
              intro gg cap' w4 hown4 hkept
              have HP4 := hid (HPA.out.app hown4 hkept)
              clear hown4 hkept hcell hown hBs
              go_wp2_with fail
              go_roundg (len - (j + 1))
              case measure => rw [HG.out]; omega
              case rel => exact ⟨j + 1, by omega, rfl, by go_num, L ++ [u], T, _, cap', by rw [List.length_append]; rfl, rfl, by rw [List.length_append]; show L.length + 1 ≤ j + 1; omega, HP4.out⟩
            · have e1 : (K j == 1) = false := beq_eq_false_iff_ne.2 h1
              generalize N j = y at *
              generalize K j = kj at *
              clear h0 h1
              go_wp2_with fail
              go_roundg (len - (j + 1))
              case measure => rw [HG.out]; omega
              case rel => exact ⟨j + 1, by omega, rfl, by go_num, L, T, lo, lcap, rfl, rfl, by have := HLJ.out; omega, HPL.out⟩
        · have hge : ¬ (j : Int) < (len : Int) := by omega
          go_wp2_with fail
          refine (known_true _).mono ?_
          rintro e w' ⟨rfl, hfin⟩
          have HF := hid (HPL.out.bel.trans (hfin.mono HPL.out.bel.size))
          clear hfin
          go_wp2_with fail
          go_ret
          exact ⟨rfl, HF.out⟩
  · have HX := hid hx
    clear hx h
    by_cases hlen : 200 < len
    · have hl : (200 : Int) < (len : Int) := by omega
      go_enter Try.func4, Try.ntmps4
      go_wp2_with fail
      refine (new_bad x HX.out w).mono ?_
      rintro e w1 ⟨rfl, rfl⟩
      go_wp2_with fail
      refine (known_true _).mono ?_
      rintro e w' ⟨rfl, hfin⟩
      go_wp2_with fail
      go_ret
      exact ⟨rfl, hfin⟩
    · have hl : ¬ (200 : Int) < (len : Int) := by omega
      go_enter Try.func4, Try.ntmps4
      go_wp2_with fail
      refine (new_bad x HX.out w).mono ?_
      rintro e w1 ⟨rfl, rfl⟩
      go_wp2_with fail
      refine (known_true _).mono ?_
      rintro e w' ⟨rfl, hfin⟩
      go_wp2_with fail
      go_ret
      exact ⟨rfl, hfin⟩
end Go.Proofs.Ytpgdllphnmimlaa.Shape
