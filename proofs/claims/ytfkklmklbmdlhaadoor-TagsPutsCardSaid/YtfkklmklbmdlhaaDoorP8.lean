/- Put of the document: the bytes of tags. Conditions: nothing is wrong with the tags. -/
import Derived.Test.YtfkklmklbmdlhaaDoorP7
import Derived.Test.YtfkklmklbmdlhaaDoorRef3
namespace Go.Proofs.YtfkklmklbmdlhaaDoor.Tg
open Go.RowKit Gen Fld
open Crc hiding hid

theorem le_one (v : Nat) (h : v < 256) : le v 1 = [v] := by
  show [] ++ [v / 2 ^ (8 * 0) % 256] = [v]
  rw [Nat.mul_zero, Nat.pow_zero, Nat.div_one, Nat.mod_eq_of_lt h]; rfl
theorem u8_small (n : Nat) (h : n < 256) : IntKind.u8.wrap (n : Int) = n := by
  simp only [IntKind.wrap, IntKind.bits, IntKind.signed]; simp; omega
theorem NL.below {w wr w' : World} {ao : Option Addr} {cap : Nat} {l : List Nat} (h : NL w ao cap l wr) (hb : Below wr.heap.size wr w') : NL w ao cap l w' :=
  ⟨ownsRow_block h.own fun g hg => hb.block g ((h.own.lt g (by rw [ownBlock_slice]; exact hg)).2), h.bel.trans (hb.mono h.bel.size), h.lt⟩
theorem NL.app {w w5 w7 : World} {ao ao7 : Option Addr} {cap c7 : Nat} {l m : List Nat} (h : NL w ao cap l w5) (hm : ∀ b ∈ m, b < 256)
    (ho : w7.ownsRow w.heap.size 5 1 (.slice ao7 (l.length + m.length) c7) (l.length + m.length) (bl l ++ bl m)) (hg : w5.grownBy w7 (blk ao)) : NL w ao7 c7 (l ++ m) w7 := by
  rw [← bl_app, ← List.length_append] at ho
  exact ⟨ho, h.bel.trans ⟨hg.os, hg.tape, hg.output, hg.size, fun k hk => hg.block k (Nat.lt_of_lt_of_le hk h.bel.size) (fun e => by have := h.own.lt k (by rw [ownBlock_slice]; exact e.symm); omega)⟩, fun b hb => (List.mem_append.1 hb).elim (h.lt b) (hm b)⟩
theorem byts_grown {w5 w7 : World} {ao bo : Option Addr} {m : List Nat} (h : Byts w5 bo m) (hg : w5.grownBy w7 (blk ao)) (hx : ∀ b, blk ao = some b → blk bo ≠ some b) (hl : ∀ b, blk bo = some b → b < w5.heap.size) : Byts w7 bo m :=
  ⟨h.lt, fun j x hj => by
    obtain ⟨b, off, e, hc⟩ := h.at_ j x hj
    refine ⟨b, off, e, ?_⟩
    rw [World.cell?_of_block (a := ⟨b, off + j, none⟩) (hg.block b (hl b (by rw [e]; rfl)) (fun e2 => hx b e2.symm (by rw [e]; rfl)))]; exact hc⟩
def LP (w : World) (l : List Nat) (e : Ending) (w' : World) : Prop := ∃ ao cap, e = .returned (.slice ao l.length cap) ∧ NL w ao cap l w'
theorem rtx_key (t : Tag) (h : Ft t) (w : World) : Calls Tryd.prog 52 #[.string t.k, .int .i64 1] w (RefP w 0 (le t.k.size 1 ++ sb t.k)) := by
  have h1 := rtext_any t.k 1 (by have := h.1; omega) w
  rw [uerr_one _ h.1] at h1
  exact h1
theorem rtx_val (t : Tag) (h : Ft t) (w : World) : Calls Tryd.prog 52 #[.string t.v, .int .i64 2] w (RefP w 0 (le t.v.size 2 ++ sb t.v)) := by
  have h1 := rtext_any t.v 2 (by have := h.2; omega) w
  rw [uerr_two _ h.2] at h1
  exact h1
theorem bl_head (n : Nat) (h : n < 256) : bl ([84, 71] ++ le n 1) = [.int .u8 84, .int .u8 71, .int .u8 (n : Int)] := by rw [le_one n h]; rfl

set_option maxRecDepth 20000 in
set_option maxHeartbeats 4000000 in
theorem rput_any {w : World} {a : Option Addr} {len b off : Nat} {T : Nat → Tag} (h : Tb w a len b off T) (hk : (chk T len).2 = 0) {cap : Nat} :
    Calls Tryd.prog 26 #[.slice a len cap] w (LP w (pby (lst T len))) := by
  obtain ⟨i0, hi, hz0, hz1, hz2⟩ := info_parts Tryd.info5
  have hln := chk_few hk
  have HFT := hid fun i hi => bad_ft (chk_zero (T := T) (n := len) hk i hi)
  have HTL := hid (tbs_lst_le hk)
  have HLL := hid (lst_len T len)
  have H := hid h
  have HPB := hid (show ∀ e w', LP w (pby (lst T len)) e w' = ∃ ao cap, e = .returned (.slice ao (bod (lst T len) ++ le (cs (bod (lst T len))) 4).length cap) ∧ NL w ao cap (bod (lst T len) ++ le (cs (bod (lst T len))) 4) w' from fun _ _ => rfl)
  have HBO := hid (show [84, 71] ++ le len 1 ++ tbs (lst T len) = bod (lst T len) by unfold bod; rw [lst_len])
  have HN0 := hid (show NL w (some ⟨w.heap.size, 0, none⟩) 3 ([84, 71] ++ le len 1 ++ tbs (lst T 0)) (w.alloc (.cells #[.int .u8 84, .int .u8 71, .int .u8 (len : Int)] 5)) by
    show NL w _ 3 ([84, 71] ++ le len 1 ++ []) _
    rw [List.append_nil]
    refine ⟨?_, bel_new _ _, fun b hb => ?_⟩
    · have hl3 : ([84, 71] ++ le len 1).length = 3 := by rw [List.length_append, le_len]; rfl
      rw [hl3, bl_head len (by omega)]
      exact World.ownsRow_lit w _ 3 (Nat.le_refl _) (by unfold maxLen; omega) rfl
    · rcases List.mem_append.1 hb with hb | hb
      · simp at hb; omega
      · exact le_lt _ _ b hb)
  have HL0 := hid (show ([84, 71] ++ le len 1 ++ tbs (lst T 0)).length = 3 by show ([84, 71] ++ le len 1 ++ []).length = 3; rw [List.append_nil, List.length_append, le_len]; rfl)
  have HLK := hid (show ∀ k, k ≤ len → ([84, 71] ++ le len 1 ++ tbs (lst T k)).length ≤ 5000000 from fun k hk => by
    have := HTL.out k hk
    simp only [List.length_append, le_len, List.length_cons, List.length_nil]
    omega)
  have HSU := hid (show ∀ k, [84, 71] ++ le len 1 ++ tbs (lst T (k + 1)) = [84, 71] ++ le len 1 ++ tbs (lst T k) ++ (le (T k).k.size 1 ++ sb (T k).k) ++ (le (T k).v.size 2 ++ sb (T k).v) from fun k => by
    rw [lst_succ, tbs_app]
    show _ ++ (_ ++ (tby (T k) ++ [])) = _
    rw [List.append_nil]
    unfold tby
    simp only [List.append_assoc])
  have uk := u8_small len (by omega)
  clear h hk HTL
  generalize hLf : (fun k => [84, 71] ++ le len 1 ++ tbs (lst T k)) = L
  have HLf := hid (fun k => congrFun hLf k)
  go_enter Tryd.func26, Tryd.ntmps26
  go_wp2_with fail
  clear uk
  generalize w.alloc (.cells #[.int .u8 84, .int .u8 71, .int .u8 (len : Int)] 5) = W at *
  go_loopg [3, 4] len (fun gg v i wr => ∃ (k : Nat) (ao : Option Addr) (c : Nat), k ≤ len ∧ gg = len - k ∧ i = .int .i64 k ∧ v = .slice ao (L k).length c ∧ Hid (NL w ao c (L k) wr))
  case atStart => exact ⟨0, some ⟨w.heap.size, 0, none⟩, 3, Nat.zero_le _, rfl, rfl, by rw [← HLf.out 0, HL0.out], hid (by rw [← HLf.out 0]; exact HN0.out)⟩
  case round =>
    obtain ⟨k, ao, c, hk, hg, rfl, rfl, HN⟩ := hrel
    have HG := hid hg
    clear hg HN0 HL0
    have hlk := HLK.out k hk
    rw [show [84, 71] ++ le len 1 ++ tbs (lst T k) = L k from HLf.out k] at hlk
    by_cases hlt : k < len
    · have hlt2 : (k : Int) < (len : Int) := by omega
      obtain rfl := H.out.addr (by omega)
      have hT0 := H.out.keep HN.out.bel
      have hk0 := hT0.k k hlt
      have hv0 := hT0.v k hlt
      have HK1 := hid (rtx_key (T k) (HFT.out k hlt))
      have HV1 := hid (rtx_val (T k) (HFT.out k hlt))
      have HNX := hid (show L (k + 1) = L k ++ (le (T k).k.size 1 ++ sb (T k).k) ++ (le (T k).v.size 2 ++ sb (T k).v) by rw [← HLf.out k, ← HLf.out (k + 1)]; exact HSU.out k)
      have hft := HFT.out k hlt
      have hm1 : (le (T k).k.size 1 ++ sb (T k).k).length ≤ 300 := by rw [List.length_append, le_len, sb_len]; have := hft.1; omega
      have hm2 : (le (T k).v.size 2 ++ sb (T k).v).length ≤ 66000 := by rw [List.length_append, le_len, sb_len]; have := hft.2; omega
      have HM1 := hid (show ∀ b ∈ le (T k).k.size 1 ++ sb (T k).k, b < 256 from fun b hb => (List.mem_append.1 hb).elim (le_lt _ _ b) (sb_lt _ b))
      have HM2 := hid (show ∀ b ∈ le (T k).v.size 2 ++ sb (T k).v, b < 256 from fun b hb => (List.mem_append.1 hb).elim (le_lt _ _ b) (sb_lt _ b))
      obtain ⟨m1, em1⟩ : ∃ m1, m1 = le (T k).k.size 1 ++ sb (T k).k := ⟨_, rfl⟩
      obtain ⟨m2, em2⟩ : ∃ m2, m2 = le (T k).v.size 2 ++ sb (T k).v := ⟨_, rfl⟩
      rw [← em1] at HK1 HNX hm1 HM1
      rw [← em2] at HV1 HNX hm2 HM2
      clear em1 em2 hft
      obtain ⟨LK, eLK⟩ : ∃ LK, L k = LK := ⟨_, rfl⟩
      rw [eLK] at HN hlk HNX ⊢
      clear eLK
      go_wp2_with fail
      refine (HK1.out _).mono ?_
      rintro e w5 ⟨a5, c5, rfl, ho5, hb5⟩
      have HN5 := hid (HN.out.below hb5)
      have hv5 := (hT0.keep hb5).v k hlt
      have HO5 := hid (And.intro ho5 (Nat.le_refl wr.heap.size))
      have HS5 := hid hb5.size
      clear hk0 hv0 ho5 hT0 HK1
      go_wp2_with fail
      refine (HV1.out _).mono ?_
      rintro e w6 ⟨a6, c6, rfl, ho6, hb6⟩
      have HN6 := hid (HN5.out.below hb6)
      have ho56 := ownsRow_block HO5.out.1 fun g hg => hb6.block g ((HO5.out.1.lt g (by rw [ownBlock_slice]; exact hg)).2)
      have HB5 := hid (Byts.of_row HM1.out ho56)
      have HB6 := hid (Byts.of_row HM2.out ho6)
      have h5n : a5 = none → m1.length = 0 ∧ c5 = 0 := fun e => by
        rcases own_at ho56 with ⟨_, h1, h2⟩ | ⟨g9, e9, _⟩
        · exact ⟨h1, h2⟩
        · rw [e] at e9; cases e9
      have h6n : a6 = none → m2.length = 0 ∧ c6 = 0 := fun e => by
        rcases own_at ho6 with ⟨_, h1, h2⟩ | ⟨g9, e9, _⟩
        · exact ⟨h1, h2⟩
        · rw [e] at e9; cases e9
      have HX6 := hid (show (∀ b, blk ao = some b → blk a6 ≠ some b) ∧ ∀ b, blk a6 = some b → b < w6.heap.size from ⟨fun b e1 e2 => by
        have h1 := (HN5.out.own.lt b (by rw [ownBlock_slice]; exact e1)).2
        have h2 := (ho6.lt b (by rw [ownBlock_slice]; exact e2)).1
        omega, fun b e2 => (ho6.lt b (by rw [ownBlock_slice]; exact e2)).2⟩)
      clear ho6 ho56 hb6 hb5 hv5 HO5 HV1 HN5 HS5
      have hs6 := HN6.out.bel.size
      go_wp2_with (at_builtin; (refine (wpList_append_list w6 (by rfl) _ _ _ (by rfl) w.heap.size 5 i0 _ 1 Tryd.underlying40 hi hz0 hz1 hz2 rfl ao LK.length c (bl LK) (by rfl) HN6.out.own a5 m1.length c5 (bl m1) (by rfl) (bl_len _) h5n HB5.out.cells (bl_one _) (by unfold maxLen; omega) (by omega) hs6 ?_)))
      intro ao7 c7 w7 ho7 hg7 hat7
      have HN7 := hid (NL.app HN6.out HM1.out ho7 hg7)
      have HB7 := hid (byts_grown HB6.out hg7 HX6.out.1 HX6.out.2)
      have ho7b := HN7.out.own
      rw [List.length_append] at ho7b
      have HO7 := hid ho7b
      have hs7 := HN7.out.bel.size
      clear ho7 hg7 hat7 ho7b
      go_wp2_with (at_builtin; (refine (wpList_append_list w7 (by rfl) _ _ _ (by rfl) w.heap.size 5 i0 _ 1 Tryd.underlying40 hi hz0 hz1 hz2 rfl ao7 (LK.length + m1.length) c7 (bl (LK ++ m1)) (by rfl) HO7.out a6 m2.length c6 (bl m2) (by rfl) (bl_len _) h6n HB7.out.cells (bl_one _) (by unfold maxLen; omega) (by omega) hs7 ?_)))
      intro ao8 c8 w8 ho8 hg8 hat8
      rw [← List.length_append] at ho8
      have HN8 := hid (NL.app HN7.out HM2.out ho8 hg8)
      have hl8 : LK.length + m1.length + m2.length = (L (k + 1)).length := by rw [HNX.out, List.length_append, List.length_append]
      rw [← HNX.out] at HN8
      clear ho8 hg8 hat8
      rw [hl8]
      clear hl8
      go_wp2_with fail
      go_roundg (len - (k + 1))
      case measure => rw [HG.out]; omega
      case rel => exact ⟨k + 1, ao8, c8, by omega, rfl, by go_num, rfl, HN8⟩
    · have hge : ¬ (k : Int) < (len : Int) := by omega
      obtain rfl : k = len := by omega
      have HB := hid (show L k = bod (lst T k) by rw [← HLf.out k]; exact HBO.out)
      obtain ⟨BD, eBD⟩ : ∃ BD, BD = bod (lst T k) := ⟨_, rfl⟩
      rw [← eBD] at HB HPB
      rw [HB.out] at HN hlk ⊢
      have HLP := hid (show ∀ ao cap w', NL w ao cap (BD ++ le (cs BD) 4) w' → LP w (pby (lst T k)) (.returned (.slice ao (BD ++ le (cs BD) 4).length cap)) w' from fun ao cap w' h => by rw [HPB.out]; exact ⟨ao, cap, rfl, h⟩)
      have hbl := HN.out.lt
      have HBL := hid hbl
      have hcl := cs_lt hbl
      have hu4 := u64_small _ hcl
      have HCS := hid (rcsum_any (cap := c) HN.out.byts (by omega))
      clear HB HPB HBO hbl eBD
      generalize cs BD = SM at *
      go_wp2_with fail
      refine HCS.out.mono ?_
      rintro e w5 ⟨rfl, rfl⟩
      go_wp2_with fail
      refine (rbytes_any SM 4 (by omega) (by decide) _).mono ?_
      rintro e w5 ⟨rfl, ho5, hb5⟩
      have HN5 := hid (HN.out.below hb5)
      have HB5 := hid (Byts.of_row (le_lt SM 4) ho5)
      have hs5 := HN5.out.bel.size
      clear ho5 hb5
      go_wp2_with (at_builtin; (refine (wpList_append_list w5 (by rfl) _ _ _ (by rfl) w.heap.size 5 i0 _ 1 Tryd.underlying40 hi hz0 hz1 hz2 rfl ao BD.length c (bl BD) (by rfl) HN5.out.own _ 4 4 (bl (le SM 4)) (by rfl) ((bl_len _).trans (le_len _ _)) (fun e => by cases e) HB5.out.cells (bl_one _) (by unfold maxLen; omega) (by omega) hs5 ?_)))
      intro ao7 c7 w7 ho7 hg7 hat7
      have hn7 := NL.app (m := le SM 4) HN5.out (le_lt SM 4) (by rw [le_len]; exact ho7) hg7
      have hf := HLP.out _ _ _ hn7
      rw [List.length_append, le_len] at hf
      have HF := hid hf
      clear ho7 hg7 hat7 hn7 hf
      go_wp2_with fail
      go_ret
      exact HF.out
end Go.Proofs.YtfkklmklbmdlhaaDoor.Tg
