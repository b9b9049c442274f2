/- The walk of FieldBack: what is laid is taken, field by field, and nothing is left. Conditions: none beyond the form's own. -/
import Derived.Test.YtmjjpmmbhlibmaaBackM
import Derived.Deep.RegionWith
namespace Go.Proofs.Ytmjjpmmbhlibmaa.Fld
open Go.RowKit Gen

/-- The first loop: all is laid. -/
def Lst (w wr : World) (s : Nat × List Nat) : Prop := ∃ ao cap, MkA wr w.heap.size w.heap.size ao cap s.1 s.2 ∧ Below w.heap.size w wr

set_option maxHeartbeats 16000000 in
set_option maxRecDepth 100000 in
theorem back_yes {w : World} {a : Option Addr} {len : Nat} {K : Nat → Int} {V : Nat → Nat} {N : Nat → Int} {S : Nat → ByteArray} (h : Acts w a len K V N S) (cap : Nat) (hl : len ≤ 50) (hs : ∀ j, j < len → (S j).size ≤ 300) :
    Calls Try.prog 5 #[.slice a len cap] w fun e w' => e = .returned (.bool true) ∧ Below w.heap.size w w' := by
  have hst : Lst w (w.alloc (.cells #[.int .i64 0, .slice none 0 0] 31)) (stf K V N S 0) := ⟨none, 0, new_maker w, (Below.refl _ _).alloc (Nat.le_refl _) _⟩
  have HST := hid hst
  have HA := hid h
  have HS := hid hs
  clear hst h hs
  go_enter Try.func5, Try.ntmps5
  go_wp2_with fail
  refine (few_yes HA.out cap hl HS.out).mono ?_
  rintro e w1 ⟨rfl, rfl⟩
  go_wp2_with fail
  go_loopw [4] (fun i wr => ∃ k : Nat, k ≤ len ∧ i = .int .i64 k ∧ Lst w wr (stf K V N S k)) (fun i _ => len - (intOf i).toNat)
  case atStart => exact ⟨0, Nat.zero_le _, rfl, HST.out⟩
  case round =>
    obtain ⟨k, hk, rfl, ao, mcap, hm, hb⟩ := hrel
    have HM := hid (And.intro hm hb)
    clear hm hb HST
    by_cases hlt : k < len
    · obtain ⟨b, off, rfl, h0, h1, h2, h3⟩ := (HA.out.keep HM.out.2).at_ k hlt
      have hlt1 : (k : Int) < (len : Int) := by omega
      have hsl := stf_len K V N S len HS.out k (by omega)
      have hsz := HS.out k hlt
      have hv := HA.out.vlt k
      go_wp2_with fail
      refine (do_any HM.out.1 HM.out.2.size (K k) (V k) (N k) (S k) hv (by omega) (by omega)).mono ?_
      rintro e w1 ⟨xo, xc, rfl, _, _, ao1, cap1, hm1, hP1⟩
      have hL : Lst w w1 (stf K V N S (k + 1)) := ⟨ao1, cap1, hm1, HM.out.2.trans (hP1.below (Nat.le_refl _) (fun g hg => (HM.out.1.rlt g hg).1) HM.out.2.size)⟩
      have HL := hid hL
      clear hL hm1 hP1 h0 h1 h2 h3 hsl hsz hv
      go_wp2_with fail
      go_roundw
      case rel => exact ⟨k + 1, by omega, by go_num, HL.out⟩
      case measure => simp [intOf]; omega
    · have hkl : k = len := by omega
      subst hkl
      have hsl := stf_len K V N S k HS.out k (Nat.le_refl _)
      by_cases hF : (stf K V N S k).1 = 0
      · have hm : MkA wr w.heap.size w.heap.size ao mcap 0 (stf K V N S k).2 := by have := HM.out.1; rw [hF] at this; exact this
        have HF := hid hF
        clear hF
        go_wp2_with fail
        refine (mbytes_ok hm (by omega)).mono ?_
        rintro e w1 ⟨ao4, cap4, rfl, hown4, hb4⟩
        have hby := Byts.of_row hm.lt hown4
        have HBY := hid hby
        have HN4 := hid (own_none hown4)
        have HB1 := hid (HM.out.2.trans (hb4.mono HM.out.2.size))
        clear hown4 hby hb4 hm HM
        go_wp2_with fail
        refine (take_any HBY.out HN4.out (by omega)).mono ?_
        rintro e w2 ⟨q, rfl, hq, ht, hb2⟩
        have HT := hid (show TkS w2 q (tkf K V N S k 0) from by
          have e : tkf K V N S k 0 = ⟨0, (stf K V N S k).2, 0⟩ := rfl
          rw [e]; exact ht)
        have HQ := hid (Nat.le_trans HB1.out.size hq)
        have HB2 := hid (HB1.out.trans (hb2.mono HB1.out.size))
        clear ht hq hb2 HBY HN4 HB1
        obtain ⟨wo, rfl⟩ : ∃ wo : World, wo = wr := ⟨_, rfl⟩
        go_wp2_with fail
        go_loopw [8, 9] (fun i _ wq => ∃ j : Nat, j ≤ k ∧ i = .int .i64 j ∧ TkS wq q (tkf K V N S k j) ∧ Below w.heap.size w wq) (fun i _ _ => k - (intOf i).toNat)
        case atStart => exact ⟨0, Nat.zero_le _, rfl, HT.out, HB2.out⟩
        case round =>
          obtain ⟨j, hj, rfl, ht, hb⟩ := hrel
          have HT1 := hid ht
          have HB1 := hid hb
          clear ht hb HT HB2
          by_cases hlt2 : j < k
          · obtain ⟨b, off, rfl, h0, h1, h2, h3⟩ := (HA.out.keep HB1.out).at_ j hlt2
            have hlt3 : (j : Int) < (k : Int) := by omega
            have hbl : b < w.heap.size := by
              obtain ⟨b', off', e1, c0, _⟩ := HA.out.at_ j hlt2
              cases e1
              exact World.block_lt_of_cell? w _ c0
            have HAT : RowKit.Hid (∀ w9, Fr (fun b => b = q) wr.drew w9 → ∀ i, w9.cell? ⟨b, i, none⟩ = wr.cell? ⟨b, i, none⟩) := hid fun w9 hf i => (hf.cell (p := ⟨b, i, none⟩) (by have := HB1.out.size; show b < wr.heap.size; omega) (by have := HQ.out; show ¬ b = q; omega))
            have HB9 : RowKit.Hid (∀ w9, Fr (fun b => b = q) wr.drew w9 → Below w.heap.size w w9) := hid fun w9 hf => HB1.out.trans ⟨hf.os, hf.tape, hf.output, hf.size, fun i hi => hf.block i (by have := HB1.out.size; show i < wr.heap.size; omega) (by have := HQ.out; omega)⟩
            have HT2 := hid (HT1.out.below (w' := wr.drew) ⟨rfl, rfl, rfl, Nat.le_refl _, fun _ _ => rfl⟩)
            by_cases hk0 : K j = 0
            · have hback := back_u hlt2 HF.out hk0
              have HBK := hid hback
              rw [hk0] at h0
              have hv : ((lev (nx (tkf K V N S k j) (N j) true).1 : Int) == (V j : Int)) = true := by rw [hback.2]; simp
              clear hback hk0
              go_wp2_with fail
              go_region_with (first
                | (go_at_call 19; (with_reducible refine (tku_any HT2.out (N j)).mono ?_); rintro e w9 ⟨rfl, ht9, hf9⟩; have e1 := (HAT.out w9 hf9 (off + j * 4 + 1)).trans h1))
              all_goals
                have HL := hid (And.intro (show TkS w9 q (tkf K V N S k (j + 1)) by rw [← HBK.out.1]; exact ht9) (HB9.out w9 hf9))
                clear ht9 hf9 HT2 HAT HB9 HBK
                go_wp2_with fail
                go_roundw
                case rel => exact ⟨j + 1, by omega, by go_num, HL.out.1, HL.out.2⟩
                case measure => simp [intOf]; omega
            by_cases hk1 : K j = 1
            · have hback := back_i hlt2 HF.out hk1
              have HBK := hid hback
              rw [hk1] at h0
              have hv : (sgn (nx (tkf K V N S k j) (N j) true).1 == wrap64 (V j : Int)) = true := by rw [hback.2]; simp
              clear hback hk1
              go_wp2_with fail
              go_region_with (first
                | (go_at_call 20; (with_reducible refine (tki_any HT2.out (N j)).mono ?_); rintro e w9 ⟨rfl, ht9, hf9⟩; have e1 := (HAT.out w9 hf9 (off + j * 4 + 1)).trans h1))
              all_goals
                have HL := hid (And.intro (show TkS w9 q (tkf K V N S k (j + 1)) by rw [← HBK.out.1]; exact ht9) (HB9.out w9 hf9))
                clear ht9 hf9 HT2 HAT HB9 HBK
                go_wp2_with fail
                go_roundw
                case rel => exact ⟨j + 1, by omega, by go_num, HL.out.1, HL.out.2⟩
                case measure => simp [intOf]; omega
            by_cases hk2 : K j = 2
            · have hback := back_b hlt2 HF.out hk2
              have HBK := hid hback
              rw [hk2] at h0
              have hcv := fun W => conv_string W (S j)
              clear hback hk2
              have hbs := byts_of_string wr (S j)
              have hbl2 := below_string wr (S j)
              have HT3 := hid (HT1.out.below hbl2)
              have HB3 := hid (HB1.out.trans (hbl2.mono HB1.out.size))
              have hqlt := HT1.out.lt
              have HBS := hid hbs
              clear hbs hbl2 HT2 HAT HB9
              go_wp2_with fail
              generalize Lib.bytesWorld wr 5 (S j) = W1 at *
              rw [← sb_len (S j)]
              refine (is_any HT3.out HBS.out (fun b' off' e => by cases e; omega)).mono ?_
              rintro e w9 ⟨rfl, ht9, hf9⟩
              have HL := hid (And.intro (show TkS w9 q (tkf K V N S k (j + 1)) by rw [← HBK.out.1]; exact ht9) (show Below w.heap.size w w9 from HB3.out.trans ⟨hf9.os, hf9.tape, hf9.output, hf9.size, fun i hi => hf9.block i (by have := HB3.out.size; omega) (by have := HQ.out; omega)⟩))
              rw [HBK.out.2]
              clear ht9 hf9 HT3 HB3 HBS HBK
              go_wp2_with fail
              go_roundw
              case rel => exact ⟨j + 1, by omega, by go_num, HL.out.1, HL.out.2⟩
              case measure => simp [intOf]; omega
            by_cases hk3 : K j = 3
            · have hback := back_t hlt2 HF.out hk3
              have HBK := hid hback
              rw [hk3] at h0
              have hv : ((tos (tx (tkf K V N S k j) (N j)).1).toList == (S j).toList) = true := by rw [hback.2]; simp
              have hv2 : (tos (tx (tkf K V N S k j) (N j)).1).toList = (S j).toList := by rw [hback.2]
              clear hback hk3
              go_wp2_with fail
              go_region_with (first
                | (go_at_call 22; (with_reducible refine (ttext_any HT2.out (N j)).mono ?_); rintro e w9 ⟨rfl, ht9, hf9⟩; have e1 := (HAT.out w9 hf9 (off + j * 4 + 3)).trans h3))
              all_goals
                have HL := hid (And.intro (show TkS w9 q (tkf K V N S k (j + 1)) by rw [← HBK.out.1]; exact ht9) (HB9.out w9 hf9))
                clear ht9 hf9 HT2 HAT HB9 HBK
                go_wp2_with fail
                go_roundw
                case rel => exact ⟨j + 1, by omega, by go_num, HL.out.1, HL.out.2⟩
                case measure => simp [intOf]; omega
            · have t0 : (K j == 0) = false := by rw [beq_eq_false_iff_ne]; exact hk0
              have t1 : (K j == 1) = false := by rw [beq_eq_false_iff_ne]; exact hk1
              have t2 : (K j == 2) = false := by rw [beq_eq_false_iff_ne]; exact hk2
              have t3 : (K j == 3) = false := by rw [beq_eq_false_iff_ne]; exact hk3
              have HL := hid (And.intro (show TkS wr q (tkf K V N S k (j + 1)) by rw [back_x hlt2 HF.out hk0 hk1 hk2 hk3]; exact HT1.out) HB1.out)
              clear hk0 hk1 hk2 hk3 HT2 HAT HB9
              go_wp2_with fail
              go_roundw
              case rel => exact ⟨j + 1, by omega, by go_num, HL.out.1, HL.out.2⟩
              case measure => simp [intOf]; omega
          · have hjk : j = k := by omega
            subst hjk
            have hend : (tkf K V N S j j).l = [] := by
              show (stf K V N S j).2.drop (stf K V N S j).2.length = []
              exact List.drop_length
            have hend2 : (tkf K V N S j j).pos = (stf K V N S j).2.length := rfl
            have HE := hid (And.intro hend hend2)
            clear hend hend2
            go_wp2_with fail
            refine (terr_any HT1.out).mono ?_
            rintro e w4 ⟨rfl, rfl⟩
            rw [show (tkf K V N S j j).F = 0 from rfl]
            go_wp2_with fail
            refine (tleft_any HT1.out).mono ?_
            rintro e w4 ⟨rfl, rfl⟩
            rw [HE.out.1]
            go_wp2_with fail
            refine (tat_any HT1.out).mono ?_
            rintro e w4 ⟨rfl, rfl⟩
            rw [HE.out.2]
            go_wp2_with fail
            refine (known_true _).mono ?_
            rintro e w5 ⟨rfl, hb5⟩
            have HB5 := hid (HB1.out.trans (hb5.mono HB1.out.size))
            clear hb5 HB1
            go_wp2_with fail
            go_ret
            exact ⟨rfl, HB5.out⟩
      · have HF := hid hF
        have ht : (((stf K V N S k).1 : Int) != 0) = true := by rw [bne_iff_ne]; omega
        clear hF
        go_wp2_with fail
        refine (mbytes_err HM.out.1 HF.out).mono ?_
        rintro e w1 ⟨rfl, nq, rfl⟩
        have HB1 := hid (HM.out.2.trans (show Below w.heap.size wr (wr.drewN nq) from ⟨rfl, rfl, rfl, Nat.le_refl _, fun _ _ => rfl⟩))
        generalize wr.drewN nq = w1 at HB1 ⊢
        go_wp2_with fail
        refine (known_true _).mono ?_
        rintro e w3 ⟨rfl, hb3⟩
        have HB3 := hid (HB1.out.trans (hb3.mono HB1.out.size))
        clear hb3 HB1
        go_wp2_with fail
        go_ret
        exact ⟨rfl, HB3.out⟩

theorem back_walk {w : World} {a : Option Addr} {len : Nat} {K : Nat → Int} {V : Nat → Nat} {N : Nat → Int} {S : Nat → ByteArray} (h : Acts w a len K V N S) (cap : Nat) (hm : len ≤ 9223372036854775807) :
    Calls Try.prog 5 #[.slice a len cap] w fun e w' => e = .returned (.bool true) ∧ Below w.heap.size w w' := by
  by_cases hg : len ≤ 50 ∧ ∀ j, j < len → (S j).size ≤ 300
  · exact back_yes h cap hg.1 hg.2
  · have HG := hid hg
    clear hg
    go_enter Try.func5, Try.ntmps5
    go_wp2_with fail
    refine (few_no h cap hm HG.out).mono ?_
    rintro e w1 ⟨rfl, rfl⟩
    go_wp2_with fail
    refine (known_true _).mono ?_
    rintro e w3 ⟨rfl, hb3⟩
    have HB3 := hid hb3
    clear hb3
    go_wp2_with fail
    go_ret
    exact ⟨rfl, HB3.out⟩
end Go.Proofs.Ytmjjpmmbhlibmaa.Fld
