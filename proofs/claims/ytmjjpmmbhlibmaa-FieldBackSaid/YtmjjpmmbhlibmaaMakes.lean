/- The walk of FieldMakes: whatever is laid, a maker has the bytes that the document says, or the first error. Conditions: none beyond the form's own. -/
import Derived.Test.YtmjjpmmbhlibmaaDo
namespace Go.Proofs.Ytmjjpmmbhlibmaa.Fld
open Go.RowKit Gen

/-- A maker's state behind k calls. -/
def stf (K : Nat → Int) (V : Nat → Nat) (N : Nat → Int) (S : Nat → ByteArray) : Nat → Nat × List Nat
  | 0 => (0, [])
  | k + 1 => put (stf K V N S k) (actE (K k) (V k) (N k) (S k)) (actM (K k) (V k) (N k) (S k))
theorem uErr_n {v : Nat} {n : Int} (h : uErr v n = 0) : n.toNat ≤ 8 := by
  unfold uErr at h
  split at h
  · omega
  · omega
theorem iErr_n {v n : Int} (h : iErr v n = 0) : n.toNat ≤ 8 := by
  unfold iErr at h
  split at h
  · omega
  · omega
theorem act_len (K : Int) (V : Nat) (N : Int) (S : ByteArray) (hs : S.size ≤ 300) (h : actE K V N S = 0) : (actM K V N S).length ≤ 308 := by
  unfold actE at h
  unfold actM
  split at h
  · rename_i h0; rw [if_pos h0, le_len]; have := uErr_n h; omega
  · rename_i h0
    rw [if_neg h0]
    split at h
    · rename_i h1; rw [if_pos h1, le_len]; have := iErr_n h; omega
    · rename_i h1
      rw [if_neg h1]
      split at h
      · rename_i h2; rw [if_pos h2, sb_len]; omega
      · rename_i h2
        rw [if_neg h2]
        split at h
        · rename_i h3; rw [if_pos h3, List.length_append, le_len, sb_len]; have := uErr_n h; omega
        · rename_i h3; rw [if_neg h3]; simp
theorem stf_len (K : Nat → Int) (V : Nat → Nat) (N : Nat → Int) (S : Nat → ByteArray) (len : Nat) (hs : ∀ j, j < len → (S j).size ≤ 300) (k : Nat) (hk : k ≤ len) : (stf K V N S k).2.length ≤ 308 * k := by
  induction k with
  | zero => simp [stf]
  | succ k ih =>
    have h1 := ih (by omega)
    rw [stf]
    unfold put
    split
    · split
      · rename_i he
        rw [List.length_append]
        have := act_len (K k) (V k) (N k) (S k) (hs k (by omega)) he
        show _ + _ ≤ _
        omega
      · simp
    · simp
theorem stf_step (s : Nat × List Nat) (e : Nat) (m : List Nat) : (s.1 = 0 → (put s e m).1 = e) ∧ (s.1 ≠ 0 → (put s e m).1 = s.1) ∧ ((put s e m).1 = 0 → s.1 = 0 ∧ e = 0 ∧ (put s e m).2 = s.2 ++ m) := by
  unfold put
  refine ⟨fun h => ?_, fun h => ?_, fun h => ?_⟩
  · rw [if_pos h]; split
    · omega
    · rfl
  · rw [if_neg h]
  · by_cases h0 : s.1 = 0
    · rw [if_pos h0] at h ⊢
      by_cases he : e = 0
      · rw [if_pos he]; exact ⟨h0, he, rfl⟩
      · rw [if_neg he] at h; exact absurd h he
    · rw [if_neg h0] at h; exact absurd h h0

/-- Behind k rounds: the maker, and the law's own bytes. -/
structure Mst (w wr : World) (s : Nat × List Nat) (ao : Option Addr) (cap : Nat) (lo : Option Addr) (lcap : Nat) (lb : List Nat) : Prop where
  mkr : MkA wr w.heap.size w.heap.size ao cap s.1 s.2
  own : wr.ownsRow w.heap.size 5 1 (.slice lo lb.length lcap) lb.length (bl lb)
  same : s.1 = 0 → lb = s.2
  len : lb.length ≤ 20000
  lt : ∀ b ∈ lb, b < 256
  ne : blk lo ≠ some w.heap.size
  dis : ∀ g, blk lo = some g → blk ao ≠ some g
  bel : Below w.heap.size w wr

/-- A maker's call leaves the law's bytes. -/
theorem Mst.call {w wr w1 : World} {s s' : Nat × List Nat} {ao ao1 lo : Option Addr} {cap cap1 lcap : Nat} {lb : List Nat} (h : Mst w wr s ao cap lo lcap lb) (hm : MkA w1 w.heap.size w.heap.size ao1 cap1 s'.1 s'.2) (hP : Psh wr w1 w.heap.size ao ao1) (hs : s'.1 = 0 → lb = s'.2) :
    Mst w w1 s' ao1 cap1 lo lcap lb := by
  have hlo : ∀ g, blk lo = some g → g < wr.heap.size := fun g hg => (h.own.lt g (by rw [ownBlock_slice]; exact hg)).2
  refine ⟨hm, ownsRow_block h.own fun g hg => hP.fr.block g (hlo g hg) ?_, hs, h.len, h.lt, h.ne, fun g hg e => ?_, h.bel.trans (hP.below (Nat.le_refl _) (fun g hg => (h.mkr.rlt g hg).1) h.bel.size)⟩
  · rintro (e | e)
    · exact h.ne (by rw [hg, e])
    · exact h.dis g hg e
  · rcases hP.at_ with e1 | e1
    · exact h.dis g hg (e1 ▸ e)
    · have := e1 g e; have := hlo g hg; omega
/-- An append to the law's bytes leaves the maker. -/
theorem Mst.app {w w1 w2 : World} {s : Nat × List Nat} {ao lo lo2 : Option Addr} {cap lcap lcap2 : Nat} {lb lb2 : List Nat} (h : Mst w w1 s ao cap lo lcap lb) (ho : w2.ownsRow w.heap.size 5 1 (.slice lo2 lb2.length lcap2) lb2.length (bl lb2)) (hg : w1.grownBy w2 (blk lo))
    (hat : blk lo2 = blk lo ∨ ∀ g, blk lo2 = some g → w1.heap.size ≤ g) (hs : s.1 = 0 → lb2 = s.2) (hlen : lb2.length ≤ 20000) (hlt : ∀ b ∈ lb2, b < 256) : Mst w w2 s ao cap lo2 lcap2 lb2 := by
  refine ⟨h.mkr.keep (X := fun b => blk lo = some b) ((Fr.refl _ _).grown hg (fun b e _ => e)) (fun e => h.ne e) (fun g hg e => h.dis g e hg), ho, hs, hlen, hlt, fun e => ?_, fun g hgl e => ?_, h.bel.trans ⟨hg.os, hg.tape, hg.output, hg.size, fun j hj => hg.block j (by have := h.bel.size; omega) (fun e => ?_)⟩⟩
  · rcases hat with e1 | e1
    · exact h.ne (e1 ▸ e)
    · have := e1 _ e; have := h.mkr.plt; omega
  · rcases hat with e1 | e1
    · exact h.dis g (e1 ▸ hgl) e
    · have := e1 g hgl; have := (h.mkr.rlt g e).2; omega
  · have := (h.own.lt j (by rw [ownBlock_slice]; exact e.symm)).1; omega
theorem Mst.below {w w1 w2 : World} {s : Nat × List Nat} {ao lo : Option Addr} {cap lcap : Nat} {lb : List Nat} (h : Mst w w1 s ao cap lo lcap lb) (hb : Below w1.heap.size w1 w2) : Mst w w2 s ao cap lo lcap lb :=
  h.call (h.mkr.below hb) (Psh.new hb _ _) h.same

set_option maxHeartbeats 4000000 in
set_option maxRecDepth 100000 in
theorem makes_yes {w : World} {a : Option Addr} {len : Nat} {K : Nat → Int} {V : Nat → Nat} {N : Nat → Int} {S : Nat → ByteArray} (h : Acts w a len K V N S) (cap : Nat) (hl : len ≤ 50) (hs : ∀ j, j < len → (S j).size ≤ 300) :
    Calls Try.prog 3 #[.slice a len cap] w fun e w' => e = .returned (.bool true) ∧ Below w.heap.size w w' := by
  obtain ⟨i0, hi, hz0, hz1, hz2⟩ := info_parts Try.info5
  have hst : Mst w (w.alloc (.cells #[.int .i64 0, .slice none 0 0] 31)) (stf K V N S 0) none 0 none 0 [] :=
    ⟨new_maker w, World.ownsRow_nil _ _ _ _, fun _ => rfl, by simp, (fun _ hb => by cases hb), by simp [blk], (fun g hg => by simp [blk] at hg), (Below.refl _ _).alloc (Nat.le_refl _) _⟩
  have HST := hid hst
  have HA := hid h
  have HS := hid hs
  clear hst h hs
  go_enter Try.func3, Try.ntmps3
  go_wp2_with fail
  refine (few_yes HA.out cap hl HS.out).mono ?_
  rintro e w1 ⟨rfl, rfl⟩
  go_wp2_with fail
  go_loopw [4, 5, 6, 7, 8, 9, 10] (fun b f i _ _ _ _ wr => ∃ (k : Nat) (ao : Option Addr) (mcap : Nat) (lo : Option Addr) (lcap : Nat) (lb : List Nat), k ≤ len ∧ i = .int .i64 k ∧ f = .int .i64 ((stf K V N S k).1 : Int) ∧ b = .slice lo lb.length lcap ∧ Mst w wr (stf K V N S k) ao mcap lo lcap lb) (fun _ _ i _ _ _ _ _ => len - (intOf i).toNat)
  case atStart => exact ⟨0, none, 0, none, 0, [], Nat.zero_le _, rfl, rfl, rfl, HST.out⟩
  case round =>
    obtain ⟨k, ao, mcap, lo, lcap, lb, hk, rfl, rfl, rfl, hm⟩ := hrel
    have HM := hid hm
    clear hm HST
    by_cases hlt : k < len
    · obtain ⟨b, off, rfl, h0, h1, h2, h3⟩ := (HA.out.keep HM.out.bel).at_ k hlt
      have hlt1 : (k : Int) < (len : Int) := by omega
      have hsl := stf_len K V N S len HS.out k (by omega)
      have hsz := HS.out k hlt
      have hv := HA.out.vlt k
      have hE := stf_step (stf K V N S k) (actE (K k) (V k) (N k) (S k)) (actM (K k) (V k) (N k) (S k))
      have HE := hid hE
      have HSL := hid (stf_len K V N S len HS.out (k + 1) (by omega))
      clear hE
      go_wp2_with fail
      refine (do_any HM.out.mkr HM.out.bel.size (K k) (V k) (N k) (S k) hv (by omega) (by omega)).mono ?_
      rintro e w1 ⟨xo, xc, rfl, hbx, hnx, ao1, cap1, hm1, hP1⟩
      have hst1 : stf K V N S (k + 1) = put (stf K V N S k) (actE (K k) (V k) (N k) (S k)) (actM (K k) (V k) (N k) (S k)) := rfl
      rw [show (((stf K V N S k).1, (stf K V N S k).2) : Nat × List Nat) = stf K V N S k from rfl, ← hst1] at hm1
      rw [← hst1] at HE
      have HX := hid (And.intro hbx hnx)
      have HM1 := hid (And.intro hm1 hP1)
      clear hbx hnx hm1 hP1 h0 h1 h2 h3 hst1 hsl hv
      by_cases hF : (stf K V N S k).1 = 0
      · have ht : (((stf K V N S k).1 : Int) == 0) = true := by rw [hF]; rfl
        have hF2 := HE.out.1 hF
        have hxl : (ifOk (actE (K k) (V k) (N k) (S k)) (actM (K k) (V k) (N k) (S k))).length ≤ 308 := by
          unfold ifOk
          split
          · rename_i he; exact act_len _ _ _ _ hsz he
          · simp
        have hsame : (stf K V N S (k + 1)).1 = 0 → lb ++ ifOk (actE (K k) (V k) (N k) (S k)) (actM (K k) (V k) (N k) (S k)) = (stf K V N S (k + 1)).2 := fun h => by
          obtain ⟨h1, h2, h3⟩ := HE.out.2.2 h
          rw [h3, HM.out.same h1]
          unfold ifOk
          rw [if_pos h2]
        have hlbl : lb.length ≤ 308 * k := by rw [HM.out.same hF]; exact stf_len K V N S len HS.out k (by omega)
        have HF := hid (And.intro hF (And.intro hF2 hsame))
        clear hF hF2 hsame
        generalize hex : ifOk (actE (K k) (V k) (N k) (S k)) (actM (K k) (V k) (N k) (S k)) = x at *
        have HEX := hid hex
        clear hex
        rw [← HF.out.2.1]
        have hlo : ∀ g, blk lo = some g → g < wr.heap.size := fun g hg => (HM.out.own.lt g (by rw [ownBlock_slice]; exact hg)).2
        have hown1 : w1.ownsRow w.heap.size 5 1 (.slice lo lb.length lcap) lb.length (bl lb) := ownsRow_block HM.out.own fun g hg => HM1.out.2.fr.block g (hlo g hg) (by
          rintro (e | e)
          · exact HM.out.ne (by rw [hg, e])
          · exact HM.out.dis g hg e)
        have HO1 := hid hown1
        have HBz := hid (Nat.le_trans HM.out.bel.size HM1.out.2.fr.size)
        clear hlo hown1
        go_wp2_with (at_builtin; (refine (wpList_append_list w1 (by rfl) (.tmp 35) (.tmp 36) _ (by rfl) w.heap.size 5 i0 _ 1 Try.underlying29 hi hz0 hz1 hz2 rfl lo lb.length lcap (bl lb) (by rfl) HO1.out xo x.length xc (bl x) (by rfl) (bl_len _) HX.out.2 HX.out.1.cells (bl_one _) (by unfold maxLen; omega) (by omega) HBz.out ?_)))
        intro lo2 lcap2 w2 hown2 hg2 hat2
        have hM2 : Mst w w2 (stf K V N S (k + 1)) ao1 cap1 lo2 lcap2 (lb ++ x) := by
          have hc1 : MkA w1 w.heap.size w.heap.size ao1 cap1 (stf K V N S (k + 1)).1 (stf K V N S (k + 1)).2 := HM1.out.1
          have hdis1 : ∀ g, blk lo = some g → blk ao1 ≠ some g := fun g hgl e => by
            rcases HM1.out.2.at_ with e1 | e1
            · exact HM.out.dis g hgl (e1 ▸ e)
            · have := e1 g e
              have := (HM.out.own.lt g (by rw [ownBlock_slice]; exact hgl)).2
              omega
          refine ⟨hc1.keep (X := fun b => blk lo = some b) ((Fr.refl _ _).grown hg2 (fun b e _ => e)) (fun e => HM.out.ne e) (fun g hgg e => hdis1 g e hgg), by rw [List.length_append, bl_app]; exact hown2, HF.out.2.2, by rw [List.length_append]; omega, ?_, fun e => ?_, fun g hgl e => ?_, ?_⟩
          · intro b hb
            rcases List.mem_append.1 hb with hb | hb
            · exact HM.out.lt b hb
            · exact HX.out.1.lt b hb
          · rcases hat2 with e1 | e1
            · exact HM.out.ne (e1 ▸ e)
            · have := e1 _ e; have := hc1.plt; omega
          · rcases hat2 with e1 | e1
            · exact hdis1 g (e1 ▸ hgl) e
            · have := e1 g hgl; have := (hc1.rlt g e).2; omega
          · have hb1 : Below w.heap.size w w1 := HM.out.bel.trans (HM1.out.2.below (Nat.le_refl _) (fun g hg => (HM.out.mkr.rlt g hg).1) HM.out.bel.size)
            exact hb1.trans ⟨hg2.os, hg2.tape, hg2.output, hg2.size, fun j hj => hg2.block j (by have := hb1.size; omega) (fun e => by
              have := (HM.out.own.lt j (by rw [ownBlock_slice]; exact e.symm)).1; omega)⟩
        have M2 := hid hM2
        rw [show lb.length + x.length = (lb ++ x).length from (List.length_append ..).symm]
        clear hown2 hg2 hat2 hM2 HO1 HBz HX HM1 HEX hxl hlbl ht
        generalize lb ++ x = lb2 at *
        by_cases hF1 : (stf K V N S (k + 1)).1 = 0
        · have hm2 : MkA w2 w.heap.size w.heap.size ao1 cap1 0 (stf K V N S (k + 1)).2 := by have := M2.out.mkr; rw [hF1] at this; exact this
          have heq := M2.out.same hF1
          have hl2 := M2.out.len
          rw [heq] at hl2
          have HFF := hid hF1
          rw [hF1]
          go_wp2_with fail
          refine (mbytes_ok hm2 (by omega)).mono ?_
          rintro e w3 ⟨yo, yc, rfl, hyown, hyb⟩
          have M3 := hid (M2.out.below hyb)
          have hy := Byts.of_row (by rw [← heq]; exact M2.out.lt) hyown
          have hcy := hy.conv yc
          have hcb := (Byts.of_row M3.out.lt M3.out.own).conv lcap2
          have hbq : (tos (stf K V N S (k + 1)).2).toList = (tos lb2).toList := by rw [heq]
          have hlq : (((stf K V N S (k + 1)).2.length : Int) != (lb2.length : Int)) = false := by rw [heq]; simp
          have HM3 := hid (show MkA w3 w.heap.size w.heap.size ao1 cap1 0 (stf K V N S (k + 1)).2 from by have := M3.out.mkr; rw [HFF.out] at this; exact this)
          clear hyown hyb hy hm2 hl2 heq hF1
          go_wp2_with fail
          refine (mlen_any HM3.out).mono ?_
          rintro e w4 ⟨rfl, rfl⟩
          clear hcy hcb hbq
          go_wp2_with fail
          go_roundw
          case rel => exact ⟨k + 1, ao1, cap1, lo2, lcap2, lb2, by omega, by go_num, by rw [HFF.out]; rfl, rfl, M3.out⟩
          case measure => simp [intOf]; omega
        · have ht1 : (((stf K V N S (k + 1)).1 : Int) == 0) = false := by rw [beq_eq_false_iff_ne]; omega
          have ht2 : (((stf K V N S (k + 1)).1 : Int) != 0) = true := by rw [bne_iff_ne]; omega
          have HFF := hid hF1
          clear hF1
          go_wp2_with fail
          refine (mbytes_err M2.out.mkr HFF.out).mono ?_
          rintro e w3 ⟨rfl, nq, rfl⟩
          have M3 := hid (M2.out.below (show Below w2.heap.size w2 (w2.drewN nq) from ⟨rfl, rfl, rfl, Nat.le_refl _, fun _ _ => rfl⟩))
          have HL0 := hid (M3.out.mkr.err HFF.out)
          generalize w2.drewN nq = w3 at M3 ⊢
          go_wp2_with fail
          refine (mlen_any M3.out.mkr).mono ?_
          rintro e w4 ⟨rfl, rfl⟩
          rw [HL0.out]
          go_wp2_with fail
          go_roundw
          case rel => exact ⟨k + 1, ao1, cap1, lo2, lcap2, lb2, by omega, by go_num, rfl, rfl, M3.out⟩
          case measure => simp [intOf]; omega
      · have ht : (((stf K V N S k).1 : Int) == 0) = false := by rw [beq_eq_false_iff_ne]; omega
        have hF2 := HE.out.2.1 hF
        have hF3 : (stf K V N S (k + 1)).1 ≠ 0 := by rw [hF2]; exact hF
        have M2 := hid (HM.out.call HM1.out.1 HM1.out.2 (fun e => absurd e hF3))
        have HF := hid (And.intro hF (And.intro hF2 hF3))
        have ht1 : (((stf K V N S k).1 : Int) != 0) = true := by rw [bne_iff_ne]; omega
        clear hF hF2 hF3 HX HM1
        go_wp2_with fail
        refine (mbytes_err M2.out.mkr HF.out.2.2).mono ?_
        rintro e w3 ⟨rfl, nq, rfl⟩
        rw [HF.out.2.1]
        have M3 := hid (M2.out.below (show Below w1.heap.size w1 (w1.drewN nq) from ⟨rfl, rfl, rfl, Nat.le_refl _, fun _ _ => rfl⟩))
        have HL0 := hid (M3.out.mkr.err HF.out.2.2)
        generalize w1.drewN nq = w3 at M3 ⊢
        go_wp2_with fail
        refine (mlen_any M3.out.mkr).mono ?_
        rintro e w4 ⟨rfl, rfl⟩
        rw [HL0.out]
        go_wp2_with fail
        go_roundw
        case rel => exact ⟨k + 1, ao1, cap1, lo, lcap, lb, by omega, by go_num, by rw [HF.out.2.1], rfl, M3.out⟩
        case measure => simp [intOf]; omega
    · obtain rfl : k = len := by omega
      go_wp2_with fail
      refine (known_true _).mono ?_
      rintro e w3 ⟨rfl, hb3⟩
      have HB3 := hid (HM.out.bel.trans (hb3.mono HM.out.bel.size))
      clear hb3
      go_wp2_with fail
      go_ret
      exact ⟨rfl, HB3.out⟩

theorem makes_walk {w : World} {a : Option Addr} {len : Nat} {K : Nat → Int} {V : Nat → Nat} {N : Nat → Int} {S : Nat → ByteArray} (h : Acts w a len K V N S) (cap : Nat) (hm : len ≤ 9223372036854775807) :
    Calls Try.prog 3 #[.slice a len cap] w fun e w' => e = .returned (.bool true) ∧ Below w.heap.size w w' := by
  by_cases hg : len ≤ 50 ∧ ∀ j, j < len → (S j).size ≤ 300
  · exact makes_yes h cap hg.1 hg.2
  · have HG := hid hg
    clear hg
    go_enter Try.func3, Try.ntmps3
    go_wp2_with fail
    refine (few_no h cap hm HG.out).mono ?_
    rintro e w1 ⟨rfl, rfl⟩
    go_wp2_with fail
    refine (known_true _).mono ?_
    rintro e w3 ⟨rfl, hb3⟩
    have HB3 := hid hb3
    clear hb3
    go_wp2_with fail
    go_ret
    exact ⟨rfl, HB3.out⟩
end Go.Proofs.Ytmjjpmmbhlibmaa.Fld
