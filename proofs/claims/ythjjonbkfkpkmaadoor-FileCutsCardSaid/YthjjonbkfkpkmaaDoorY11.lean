/- Put of the program. Conditions: a table, places in memory. -/
import Derived.Test.YthjjonbkfkpkmaaDoorY10
import Derived.Lib.SlBytesConst
import Derived.Deep.RegionWith
namespace Go.Proofs.YthjjonbkfkpkmaaDoor.Tl
open Go.RowKit Gen Fld Inf
open Crc hiding hid

set_option maxRecDepth 100000 in
theorem St.uL {w1 wr : World} {l : List Nat} (h : St w1 l wr) (v n : Nat) (hv : v < 18446744073709551616) (he : uErr v n = 0) (hl : l.length ≤ 137438953472) :
    Calls Tryd.prog 29 #[.pointer (some ⟨w1.heap.size, 0, none⟩), .int .u64 (v : Int), .int .i64 (n : Int)] wr fun e w' => e = .returned (.tuple #[]) ∧ St w1 (l ++ le v n) w' := by
  obtain ⟨ao, cap, hm, hb⟩ := h
  refine (u_any hm hb.size v n hv (by show l.length ≤ _; omega)).mono ?_
  rintro e w' ⟨rfl, hA⟩
  refine ⟨rfl, ?_⟩
  rw [he, put_z] at hA
  exact MkN.next (s := (0, l)) hm hb hA
set_option maxRecDepth 100000 in
theorem St.bytesL {w1 wr : World} {l : List Nat} (h : St w1 l wr) (hl : l.length ≤ 137438953472) :
    Calls Tryd.prog 30 #[.pointer (some ⟨w1.heap.size, 0, none⟩)] wr fun e w' => ∃ ao cap, e = .returned (.tuple #[.slice ao l.length cap, .int .i64 0]) ∧ Byts w' ao l ∧ Below w1.heap.size w1 w' := by
  obtain ⟨ao, cap, hm, hB⟩ := h
  have hlt := hm.lt
  refine (mbytes_ok hm (by show l.length ≤ _; omega)).mono ?_
  rintro e w' ⟨ao1, cap1, rfl, ho, hb⟩
  exact ⟨ao1, cap1, rfl, Byts.of_row hlt ho, hB.trans (hb.mono hB.size)⟩
set_option maxRecDepth 100000 in
theorem uerr_five (v : Nat) (h : v < 1099511627776) : uErr v 5 = 0 := by
  unfold uErr
  rw [if_neg (by omega), if_neg]
  have : (2 : Nat) ^ (8 * (5 : Int).toNat) = 1099511627776 := by decide
  omega
set_option maxRecDepth 100000 in
theorem byts_en (w : World) : Byts (w.alloc (.cells #[.int .u8 69, .int .u8 78] 5 (2, 3))) (some ⟨w.heap.size, 0, none⟩) [69, 78] :=
  ⟨by decide,
   fun j x hj => by
    refine ⟨w.heap.size, 0, rfl, ?_⟩
    rcases j with _ | _ | j
    · simp at hj; subst hj; unfold World.cell?; rw [heap_alloc_new]; rfl
    · simp at hj; subst hj; unfold World.cell?; rw [heap_alloc_new]; rfl
    · simp at hj⟩
set_option maxRecDepth 100000 in
theorem conv_en (w : World) : (convert 28 28 (.slice (some ⟨w.heap.size, 0, none⟩) 2 2)).run Tryd.prog (w.alloc (.cells #[.int .u8 69, .int .u8 78] 5)) = .ok (.slice (some ⟨w.heap.size, 0, none⟩) 2 2) (w.alloc (.cells #[.int .u8 69, .int .u8 78] 5 (2, 3))) :=
  Lib.run_convert_bytes_const (P := Tryd.prog) w 28 5 #[.int .u8 69, .int .u8 78] 2 2 Tryd.underlying28 Tryd.underlying5
set_option maxRecDepth 100000 in
theorem tput_nil (c : Int) (s : Nat) (a : Option Addr) (n cap : Nat) (w : World) : Calls Tryd.prog 17 #[.pointer none, .agg #[.int .i64 c, .int .u32 (s : Int), .slice a n cap]] w (PutP w 2 []) := by
  have HF := hid (show ∀ w', Below w.heap.size w w' → PutP w 2 [] (.returned (.tuple #[.slice none 0 0, .int .i64 2])) w' from fun _ h => putp_none 2 h)
  go_enter Tryd.func17, Tryd.ntmps17
  go_wp2_with fail
  go_ret2
  exact HF.out _ (below_new _ _)
set_option maxRecDepth 100000 in
theorem tput_bad {w : World} {g : Nat} {a : Option Addr} {P : List Int} {n cap s : Nat} {c : Int} (hn : P.length = n) (hP : Nts w a P) (hmax : n ≤ 1099511627776) (hr : ¬ TRt c P) :
    Calls Tryd.prog 17 #[.pointer (some ⟨g, 0, none⟩), .agg #[.int .i64 c, .int .u32 (s : Int), .slice a n cap]] w (PutP w 60 []) := by
  have HF := hid (show ∀ w', Below w.heap.size w w' → PutP w 60 [] (.returned (.tuple #[.slice none 0 0, .int .i64 60])) w' from fun _ h => putp_none 60 h)
  have HR := hid fun (w' : World) (hb : Below w.heap.size w w') => tright_any (s := s) (cap := cap) (c := c) hn (hP.keep hb) hmax
  rw [decide_eq_false hr] at HR
  clear hr hP hn
  go_enter Tryd.func17, Tryd.ntmps17
  go_wp2_with fail
  refine (HR.out _ (below_new _ _)).mono ?_
  rintro e w' ⟨rfl, hb⟩
  have hfin := (below_new w _).trans (hb.mono (below_new w _).size)
  clear hb
  go_wp2_with fail
  go_ret2
  exact HF.out _ hfin
set_option maxRecDepth 100000 in
theorem rise_all {p : Int} {l : List Int} (h : rise p l) (hp : -1 ≤ p) : ∀ j, (hj : j < l.length) → 0 ≤ l[j] ∧ l[j] < 1099511627776 := by
  induction l generalizing p with
  | nil => intro j hj; exact absurd hj (Nat.not_lt_zero _)
  | cons x t ih =>
    intro j hj
    obtain ⟨⟨h1, h2⟩, h3⟩ := h
    cases j with
    | zero => show 0 ≤ x ∧ x < _; omega
    | succ j => exact ih h3 (by omega) j (by simpa using hj)
set_option maxHeartbeats 4000000 in
set_option maxRecDepth 100000 in
theorem tput_ok {w : World} {g : Nat} (ht : Tab w g) {a : Option Addr} {P : List Int} {n cap s : Nat} {c : Int} (hn : P.length = n) (hP : Nts w a P) (hs : s < 4294967296) (hr : TRt c P) :
    Calls Tryd.prog 17 #[.pointer (some ⟨g, 0, none⟩), .agg #[.int .i64 c, .int .u32 (s : Int), .slice a n cap]] w (PutP w 0 (tby c s P)) := by
  have hn16 : n ≤ 16777216 := by have := hr.2.1; omega
  have HR := hid fun (w' : World) (hb : Below w.heap.size w w') => tright_any (s := s) (cap := cap) (c := c) hn (hP.keep hb) (by omega)
  rw [decide_eq_true hr] at HR
  have HRI := hid (rise_all hr.2.2 (by decide))
  obtain ⟨cn, rfl⟩ := Int.eq_ofNat_of_zero_le hr.1.1
  have hc4 : cn < 4294967296 := by have := hr.1.2; omega
  have HTB := hid ht
  have HP := hid hP
  have HN := hid hn
  have HBY := hid (show tby (cn : Int) s P = smd ([] ++ [69, 78] ++ le cn 4 ++ le s 4 ++ le n 4 ++ pl P) from by unfold tby tpre thd; rw [hn]; rfl)
  have HX0 := hid (Tx.new w (cn : Int) s a n cap)
  have L1 := hid (uerr_zero cn hc4); have L2 := hid (uerr_zero s hs); have L3 := hid (uerr_zero n (by omega))
  have u1 : IntKind.u64.wrap (cn : Int) = cn := u64_small cn hc4
  have u2 : IntKind.u64.wrap (s : Int) = s := u64_small s hs
  have u3 : IntKind.u64.wrap (n : Int) = n := u64_small n (by omega)
  have LC := hid hc4; have LS := hid hs
  clear hr hP hn ht hc4 hs
  go_enter Tryd.func17, Tryd.ntmps17
  go_wp2_with fail
  refine (HR.out _ (below_new _ _)).mono ?_
  rintro e w1 ⟨rfl, hb⟩
  have hb1 : Below w.heap.size w w1 := (below_new w _).trans (hb.mono (below_new w _).size)
  have HX1 := hid (HX0.out.below hb HX0.out.lt)
  have HB1 := hid hb1
  clear hb hb1 HX0
  have hst := MkN.start w1
  have hb2 := below_new w1 (.cells #[.int .i64 0, .slice none 0 0] 93)
  obtain ⟨W2, hW2⟩ : ∃ W, w1.alloc (.cells #[.int .i64 0, .slice none 0 0] 93) = W := ⟨_, rfl⟩
  rw [hW2] at hst hb2
  have hby2 := byts_en W2
  have hb3 := below_new W2 (.cells #[.int .u8 69, .int .u8 78] 5 (2, 3))
  have hst3 := Inf.St.below hst hb3
  have HEN := hid hby2
  have HST := hid hst3
  have hsz : W2.heap.size = w1.heap.size + 1 := by rw [← hW2]; exact Deep.nblk_alloc _ _
  clear hst hb2 hby2 hb3 hst3
  have hcv := conv_en W2
  clear hsz
  go_wp2_with fail
  clear hW2 hcv
  refine (Inf.St.raw HST.out (m := [69, 78]) rfl HEN.out (fun e => by cases e) (by decide)).mono ?_
  rintro e w3 ⟨rfl, hs3⟩
  have HS := hid (show St w1 ([] ++ [69, 78]) w3 from hs3)
  clear hs3 HEN HST
  have HXA := hid (show Tx w3 w.heap.size (cn : Int) s a n cap from by obtain ⟨_, _, _, hb⟩ := HS.out; exact HX1.out.below hb HX1.out.lt)
  have c0 := HXA.out.c0
  go_wp2_with fail
  refine (St.uL HS.out cn 4 (by have := LC.out; omega) L1.out (by simp only [List.length_append]; decide)).mono ?_
  rintro e w4 ⟨rfl, hs⟩
  have HS := hid hs
  clear hs HXA c0
  have HXA := hid (show Tx w4 w.heap.size (cn : Int) s a n cap from by obtain ⟨_, _, _, hb⟩ := HS.out; exact HX1.out.below hb HX1.out.lt)
  have c1 := HXA.out.c1
  go_wp2_with fail
  refine (St.uL HS.out s 4 (by have := LS.out; omega) L2.out (by simp only [List.length_append, le_len]; decide)).mono ?_
  rintro e w5 ⟨rfl, hs⟩
  have HS := hid hs
  clear hs HXA c1
  have HXA := hid (show Tx w5 w.heap.size (cn : Int) s a n cap from by obtain ⟨_, _, _, hb⟩ := HS.out; exact HX1.out.below hb HX1.out.lt)
  have c2 := HXA.out.c2
  go_wp2_with fail
  refine (St.uL HS.out n 4 (by omega) L3.out (by simp only [List.length_append, le_len]; decide)).mono ?_
  rintro e w6 ⟨rfl, hs⟩
  have HS := hid hs
  clear hs HXA c2
  have HXA := hid (show Tx w6 w.heap.size (cn : Int) s a n cap from by obtain ⟨_, _, _, hb⟩ := HS.out; exact HX1.out.below hb HX1.out.lt)
  have c2 := HXA.out.c2
  have HHL := hid (show ([] ++ [69, 78] ++ le cn 4 ++ le s 4 ++ le n 4).length = 14 from by simp only [List.length_append, le_len]; rfl)
  generalize [] ++ [69, 78] ++ le cn 4 ++ le s 4 ++ le n 4 = H at *
  go_wp2_with fail
  clear c2 u1 u2 u3 HXA
  go_loopg [8, 43] n (fun gg v i wr => ∃ k : Nat, k ≤ n ∧ gg = n - k ∧ i = .int .i64 k ∧ St w1 (H ++ pl (P.take k)) wr)
  case atStart => exact ⟨0, Nat.zero_le _, rfl, rfl, by show St w1 (H ++ []) _; rw [List.append_nil]; exact HS.out⟩
  case round =>
    obtain ⟨k, hk, hgg, rfl, hst⟩ := hrel
    have HG := hid hgg
    have HST := hid hst
    clear hgg hst
    have HLK := hid (show (H ++ pl (P.take k)).length ≤ 137438953472 from by rw [List.length_append, HHL.out, pl_len, List.length_take]; omega)
    by_cases hlt : k < n
    · have hlt2 : (k : Int) < (n : Int) := by omega
      have hkl : k < P.length := by rw [HN.out]; exact hlt
      obtain ⟨b, off, rfl, hbs⟩ := HP.out.spot (by omega)
      have ck := (HP.out.keep (show Below w.heap.size w wr from by obtain ⟨_, _, _, hb⟩ := HST.out; exact HB1.out.trans (hb.mono HB1.out.size))).cell k hkl
      have hx := HRI.out k hkl
      have HE := hid (pl_take P k hkl)
      generalize P[k] = x at *
      obtain ⟨xn, rfl⟩ := Int.eq_ofNat_of_zero_le hx.1
      have hx5 : xn < 1099511627776 := by omega
      have u5 : IntKind.u64.wrap (xn : Int) = xn := by rw [u64_wrap]; unfold u64; omega
      have HX5 := hid hx5
      clear hx hx5
      go_wp2_with fail
      refine (St.uL HST.out xn 5 (by have := HX5.out; omega) (uerr_five xn HX5.out) HLK.out).mono ?_
      rintro e w7 ⟨rfl, hs7⟩
      have HS7 := hid (show St w1 (H ++ pl (P.take (k + 1))) w7 from by rw [HE.out, ← List.append_assoc]; exact hs7)
      clear hs7 ck u5
      go_wp2_with fail
      go_roundg (n - (k + 1))
      case measure => rw [HG.out]; omega
      case rel => exact ⟨k + 1, by omega, rfl, by go_num, HS7.out⟩
    · have hge : ¬ (k : Int) < (n : Int) := by omega
      obtain rfl : k = n := by omega
      rw [List.take_of_length_le (by rw [HN.out]; exact Nat.le_refl _)] at HST HLK
      have HTL := hid (show (H ++ pl P).length = 14 + 5 * k from by rw [List.length_append, HHL.out, pl_len, HN.out])
      generalize H ++ pl P = T at *
      go_wp2_with fail
      refine (St.bytesL HST.out HLK.out).mono ?_
      rintro e w8 ⟨ao, c8, rfl, hby8, hb8⟩
      have HB8 := hid (HB1.out.trans (hb8.mono HB1.out.size))
      have HT8 := hid ((HTB.out.keep (HB1.out.block g HTB.out.lt)).keep (hb8.block g (Nat.lt_of_lt_of_le HTB.out.lt HB1.out.size)))
      have HSM := hid (tsummed_any (cap := c8) HT8.out rfl hby8 (by have := HTL.out; omega))
      clear hby8 hb8
      go_wp2_with fail
      refine HSM.out.mono ?_
      rintro e w9 ⟨a9, c9, rfl, hn9⟩
      have HN9 := hid hn9
      clear hn9
      go_wp2_with fail
      go_ret2
      rw [HBY.out]
      exact ⟨a9, c9, rfl, own_mono HN9.out.own HB8.out.size, HB8.out.trans (HN9.out.bel.mono HB8.out.size), HN9.out.lt⟩
end Go.Proofs.YthjjonbkfkpkmaaDoor.Tl
namespace Go.Proofs.YthjjonbkfkpkmaaDoor.Tl
open Go.RowKit Gen Fld Inf
open Crc hiding hid

/-- Bytes of the call's own, beside the tail's box. -/
structure Rw (w : World) (c : Int) (s : Nat) (a : Option Addr) (n cap : Nat) (ao : Option Addr) (ca : Nat) (N : Nat) (l : List Nat) (wr : World) : Prop where
  own : wr.ownsRow w.heap.size 5 1 (.slice ao N ca) N (bl l)
  x : Tx wr w.heap.size c s a n cap
  far : blk ao ≠ some w.heap.size
  b : Below w.heap.size w wr
set_option maxRecDepth 100000 in
theorem Rw.more {w : World} {c : Int} {s : Nat} {a : Option Addr} {n cap : Nat} {ao : Option Addr} {ca N : Nat} {l : List Nat} {wr w5 : World} (h : Rw w c s a n cap ao ca N l wr) (hb : Below wr.heap.size wr w5) : Rw w c s a n cap ao ca N l w5 :=
  ⟨ownsRow_block h.own fun g hg => hb.block g ((h.own.lt g (by rw [ownBlock_slice]; exact hg)).2), h.x.below hb h.x.lt, h.far, h.b.trans (hb.mono h.b.size)⟩
set_option maxRecDepth 100000 in
theorem Rw.app {w : World} {c : Int} {s : Nat} {a : Option Addr} {n cap : Nat} {ao ao7 : Option Addr} {ca ca7 N M : Nat} {l m : List Nat} {w5 w7 : World} (h : Rw w c s a n cap ao ca N l w5)
    (ho : w7.ownsRow w.heap.size 5 1 (.slice ao7 M ca7) M (bl l ++ bl m)) (hg : w5.grownBy w7 (blk ao)) (hat : blk ao7 = blk ao ∨ ∀ g, blk ao7 = some g → w5.heap.size ≤ g) : Rw w c s a n cap ao7 ca7 M (l ++ m) w7 := by
  refine ⟨by rw [bl_app]; exact ho, ⟨(hg.block _ h.x.lt (fun e => h.far e.symm)).trans h.x.row⟩, ?_, ?_⟩
  · rcases hat with e | e
    · rw [e]; exact h.far
    · intro e2; have := e _ e2; have := h.x.lt; omega
  · exact h.b.trans ⟨hg.os, hg.tape, hg.output, hg.size, fun q hq => hg.block q (Nat.lt_of_lt_of_le hq h.b.size) (fun e => by have := h.own.lt q (by rw [ownBlock_slice]; exact e.symm); omega)⟩
end Go.Proofs.YthjjonbkfkpkmaaDoor.Tl
namespace Go.Proofs.YthjjonbkfkpkmaaDoor.Tl
open Go.RowKit Gen Fld Inf
open Crc hiding hid

def tBgn (l : List Nat) : Prop := l.take 2 = [69, 78].take l.length
instance (l : List Nat) : Decidable (tBgn l) := by unfold tBgn; exact inferInstance
set_option maxRecDepth 100000 in
theorem tbgn_beq {l : List Nat} (hb : ∀ b ∈ l, b < 256) (m : Nat) (hm : m = min 2 l.length) : ((tos (l.take 2)).toList == (({ data := #[69, 78] } : ByteArray).extract 0 m).toList) = decide (tBgn l) := by
  have e : (({ data := #[69, 78] } : ByteArray).extract 0 m).toList = ([69, 78].take m).map UInt8.ofNat := by
    have hx : m = 0 ∨ m = 1 ∨ m = 2 := by omega
    rcases hx with rfl | rfl | rfl <;> (rw [ByteArray.toList_eq]; decide)
  rw [e, toList_tos, u8_beq (fun b h => hb b (List.mem_of_mem_take h)) (fun b h => (by decide : ∀ b ∈ [69, 78], b < 256) b (List.mem_of_mem_take h))]
  refine decide_eq_decide.2 ?_
  unfold tBgn
  have e2 : [69, 78].take m = [69, 78].take l.length := by
    subst hm
    rcases Nat.le_total 2 l.length with h | h
    · rw [Nat.min_eq_left h, List.take_of_length_le (l := [69, 78]) (i := 2) (by decide), List.take_of_length_le (by exact h)]
    · rw [Nat.min_eq_right h]
  rw [e2]
set_option maxRecDepth 100000 in
theorem tbegins_any {w : World} {a : Option Addr} {n cap : Nat} {l : List Nat} (hn : l.length = n) (hb : Byts w a l) (hc : n ≤ cap) (hm : n ≤ 1099511627776) : Calls Tryd.prog 77 #[.slice a n cap] w fun e w' => e = .returned (.bool (decide (tBgn l))) ∧ w = w' := by
  have HQ := hid (tbgn_beq hb.lt (min 2 l.length) rfl)
  have hcv := (hb.take 2).conv cap
  have hs : (tos (l.take 2)).size = min 2 l.length := by rw [tos_size, List.length_take]
  have htl : l.length = 0 → (tos (l.take 2)).toList = [] := fun h => by rw [toList_tos, List.eq_nil_of_length_eq_zero h]; rfl
  rw [List.length_take] at hcv
  rw [hn] at HQ hcv hs htl
  have HTL := hid htl
  clear htl
  generalize decide (tBgn l) = b at *
  generalize tos (l.take 2) = t at *
  clear hb hn
  by_cases h0 : n = 0
  · subst h0
    rw [show min 2 0 = 0 from by decide] at HQ hcv hs
    go_enter Tryd.func77, Tryd.ntmps77
    go_wp2_with fail
    go_ret
    have em : (({ data := #[69, 78] } : ByteArray).extract 0 0).toList = [] := by rw [ByteArray.toList_eq]; decide
    have ht := HTL.out trivial
    exact ⟨by rw [← HQ.out, em, ht]; rfl, rfl⟩
  by_cases h1 : n = 1
  · subst h1
    rw [show min 2 1 = 1 from by decide] at HQ hcv hs
    go_enter Tryd.func77, Tryd.ntmps77
    go_wp2_with fail
    go_ret
    exact ⟨by rw [← HQ.out]; rfl, rfl⟩
  by_cases h2 : n = 2
  · subst h2
    rw [show min 2 2 = 2 from by decide] at HQ hcv hs
    go_enter Tryd.func77, Tryd.ntmps77
    go_wp2_with fail
    go_ret
    exact ⟨by rw [← HQ.out]; rfl, rfl⟩
  have hmn : min 2 n = 2 := by omega
  rw [hmn] at HQ hcv hs
  have h5 : ¬ (n : Int) ≤ 2 := by omega
  have h6 : ¬ (n : Int) < 2 := by omega
  have h7 : 2 ≤ cap := by omega
  clear h0 h1 h2 hmn
  go_enter Tryd.func77, Tryd.ntmps77
  go_wp2_with fail
  go_ret
  exact ⟨by rw [← HQ.out]; rfl, rfl⟩
/-- How many places there are said to be, how long the tail is then, and what is wrong with that. -/
def np (l : List Nat) : Nat := at_ l 10 4
def lgE (l : List Nat) : Int := if l.length < 14 then 10 else if 16777216 < np l then 60 else if l.length < 18 + 5 * np l then 10 else 0
def lgL (l : List Nat) : Nat := if lgE l = 0 then 18 + 5 * np l else 0
set_option maxRecDepth 100000 in
set_option maxHeartbeats 2000000 in
theorem long_any {w : World} {a : Option Addr} {n cap : Nat} {l : List Nat} (hn : l.length = n) (hb : Byts w a l) (hc : n ≤ cap) (hm : n ≤ 1099511627776) :
    Calls Tryd.prog 78 #[.slice a n cap] w fun e w' => e = .returned (.tuple #[.int .i64 (lgL l : Int), .int .i64 (lgE l)]) ∧ Below w.heap.size w w' := by
  have HE := hid (show lgE l = if l.length < 14 then 10 else if 16777216 < np l then 60 else if l.length < 18 + 5 * np l then 10 else 0 from rfl)
  have HL := hid (show lgL l = if lgE l = 0 then 18 + 5 * np l else 0 from rfl)
  rw [hn] at HE
  by_cases h1 : n < 14
  · have h1i : (n : Int) < 14 := by omega
    rw [HL.out, HE.out, if_pos h1, if_neg (by decide)]
    clear HL HE h1 hb
    go_enter Tryd.func78, Tryd.ntmps78
    go_wp2_with fail
    go_ret2
    exact ⟨rfl, Below.refl _ _⟩
  have h1i : ¬ (n : Int) < 14 := by omega
  have hlt := at_lt hb.lt 10 4 (by decide)
  obtain ⟨b, off, rfl⟩ := byts_at hb (by omega)
  have hl4 : ((l.drop 10).take 4).length = 4 := by rw [List.length_take, List.length_drop]; omega
  have HTK := hid fun c => take4_any (c := c) hl4 ((hb.drop 10).take 4) (fun e => by cases e) (by decide)
  have HU := hid fun (w' : World) (q : Nat) (h : TkS w' q ⟨0, (l.drop 10).take 4, 0⟩) => (show Calls Tryd.prog 45 #[.pointer (some ⟨q, 0, none⟩), .int .i64 4] w' fun e w'' => e = .returned (.int .u64 (np l : Int)) ∧ Fr (fun b => b = q) w' w'' from (tku_ok h 4 (by decide) (by decide) (by omega)).mono fun e w'' h => ⟨by rw [h.1, List.take_of_length_le (by omega)]; rfl, h.2.2⟩)
  have hlt' : np l < 4294967296 := hlt
  clear hb hlt hl4 hn
  generalize np l = m at *
  by_cases h2 : 16777216 < m
  · have h2i : (16777216 : Int) < (m : Int) := by omega
    rw [HL.out, HE.out, if_neg h1, if_pos h2, if_neg (by decide)]
    clear HL HE h1
    go_enter Tryd.func78, Tryd.ntmps78
    go_wp2_with fail
    refine (HTK.out _).mono ?_
    rintro e w1 ⟨q, rfl, hq, hs1, hb1⟩
    have HS := hid hs1
    have HB := hid hb1
    have HQ := hid hq
    clear hs1 hb1 hq
    go_wp2_with fail
    refine (HU.out _ _ HS.out).mono ?_
    rintro e w2 ⟨rfl, hf2⟩
    have HF := hid (below_frq HB.out hf2 HQ.out HB.out.size)
    clear hf2
    go_wp2_with fail
    go_ret2
    exact ⟨rfl, HF.out⟩
  have h2i : ¬ (16777216 : Int) < (m : Int) := by omega
  have um : IntKind.i64.wrap (m : Int) = m := IntWalk.i64_in _ (by omega)
  have um2 : wrap64 (m : Int) = m := by unfold wrap64; omega
  have um3 : wrap64 ((m : Int) * 5) = (m : Int) * 5 := by unfold wrap64; omega
  have um4 : wrap64 (14 + (m : Int) * 5) = 14 + (m : Int) * 5 := by unfold wrap64; omega
  have um5 : wrap64 (14 + (m : Int) * 5 + 4) = 14 + (m : Int) * 5 + 4 := by unfold wrap64; omega
  by_cases h3 : n < 18 + 5 * m
  · have h3i : (n : Int) < 14 + (m : Int) * 5 + 4 := by omega
    rw [HL.out, HE.out, if_neg h1, if_neg h2, if_pos h3, if_neg (by decide)]
    clear HL HE h1 h2 h3
    go_enter Tryd.func78, Tryd.ntmps78
    go_wp2_with fail
    refine (HTK.out _).mono ?_
    rintro e w1 ⟨q, rfl, hq, hs1, hb1⟩
    have HS := hid hs1
    have HB := hid hb1
    have HQ := hid hq
    clear hs1 hb1 hq
    go_wp2_with fail
    refine (HU.out _ _ HS.out).mono ?_
    rintro e w2 ⟨rfl, hf2⟩
    have HF := hid (below_frq HB.out hf2 HQ.out HB.out.size)
    clear hf2
    go_wp2_with fail
    go_ret2
    exact ⟨rfl, HF.out⟩
  · have h3i : ¬ (n : Int) < 14 + (m : Int) * 5 + 4 := by omega
    rw [HL.out, HE.out, if_neg h1, if_neg h2, if_neg h3, if_pos rfl]
    clear HL HE h1 h2 h3
    go_enter Tryd.func78, Tryd.ntmps78
    go_wp2_with fail
    refine (HTK.out _).mono ?_
    rintro e w1 ⟨q, rfl, hq, hs1, hb1⟩
    have HS := hid hs1
    have HB := hid hb1
    have HQ := hid hq
    clear hs1 hb1 hq
    go_wp2_with fail
    refine (HU.out _ _ HS.out).mono ?_
    rintro e w2 ⟨rfl, hf2⟩
    have HF := hid (below_frq HB.out hf2 HQ.out HB.out.size)
    clear hf2
    go_wp2_with fail
    go_ret2
    refine ⟨?_, HF.out⟩
    show Ending.returned (.tuple #[.int .i64 (14 + (m : Int) * 5 + 4), .int .i64 0]) = _
    clear um um2 um3 um4 um5
    rw [show 14 + (m : Int) * 5 + 4 = ((18 + 5 * m : Nat) : Int) from by omega]
end Go.Proofs.YthjjonbkfkpkmaaDoor.Tl
namespace Go.Proofs.YthjjonbkfkpkmaaDoor.Tl
open Go.RowKit Gen Fld Inf
open Crc hiding hid

/-- The places that bytes say. -/
def plc (l : List Nat) (n : Nat) : List Int := (List.range n).map fun i => (at_ l (14 + 5 * i) 5 : Int)
set_option maxRecDepth 100000 in
theorem plc_len (l : List Nat) (n : Nat) : (plc l n).length = n := by unfold plc; rw [List.length_map, List.length_range]
set_option maxRecDepth 100000 in
theorem plc_at (l : List Nat) (n i : Nat) (h : i < n) : (plc l n)[i]? = some (at_ l (14 + 5 * i) 5 : Int) := by
  unfold plc
  rw [List.getElem?_map, List.getElem?_range h]
  rfl
set_option maxRecDepth 100000 in
theorem at5_lt {l : List Nat} (h : ∀ b ∈ l, b < 256) (j : Nat) : at_ l j 5 < 1099511627776 := by
  have h1 := lev_lt ((l.drop j).take 5) (fun b hb => h b (List.mem_of_mem_drop (List.mem_of_mem_take hb)))
  have h2 : ((l.drop j).take 5).length ≤ 5 := by rw [List.length_take]; omega
  have h3 : 2 ^ (8 * ((l.drop j).take 5).length) ≤ 2 ^ 40 := Nat.pow_le_pow_right (by decide) (by omega)
  have : (2 : Nat) ^ 40 = 1099511627776 := by decide
  unfold at_
  omega
set_option maxRecDepth 100000 in
/-- A row of numbers. -/
theorem nts_row {w : World} {g n : Nat} {l : List Nat} (h : w.rowIs g 3 n (fun i => .int .i64 (at_ l (14 + 5 * i) 5 : Int))) : Nts w (some ⟨g, 0, none⟩) (plc l n) :=
  ⟨fun j x hj => by
    have hjn : j < n := by
      have := (List.getElem?_eq_some_iff.1 hj).1
      rwa [plc_len] at this
    rw [plc_at l n j hjn] at hj
    cases hj
    exact ⟨g, 0, rfl, by rw [Nat.zero_add]; exact h.cell hjn⟩⟩
set_option maxRecDepth 100000 in
theorem Tryd.info3 : (Tryd.prog.info? 3).map (fun i => (i.zero, i.size, i.bytes)) = some (some (.int .i64 0), 1, 8) := by kernel_rfl
set_option maxRecDepth 100000 in
theorem Tryd.size41 : (Tryd.prog.info? 41).map (·.size) = some 3 := by kernel_rfl
set_option maxRecDepth 100000 in
/-- A box of a tail with a cell set. -/
theorem Tx.set0 {w : World} {g : Nat} {c : Int} {s : Nat} {a : Option Addr} {n cap : Nat} (b : Tx w g c s a n cap) (c' : Int) : Tx (w.setCell ⟨g, 0, none⟩ (.int .i64 c')) g c' s a n cap := by
  refine ⟨?_⟩; rw [heap_setCell_same w g 0 _ _ _ b.row]; rfl
set_option maxRecDepth 100000 in
theorem Tx.set1 {w : World} {g : Nat} {c : Int} {s : Nat} {a : Option Addr} {n cap : Nat} (b : Tx w g c s a n cap) (s' : Nat) : Tx (w.setCell ⟨g, 1, none⟩ (.int .u32 (s' : Int))) g c s' a n cap := by
  refine ⟨?_⟩; rw [heap_setCell_same w g 1 _ _ _ b.row]; rfl
set_option maxRecDepth 100000 in
theorem Tx.set2 {w : World} {g : Nat} {c : Int} {s : Nat} {a : Option Addr} {n cap : Nat} (b : Tx w g c s a n cap) (a' : Option Addr) (n' cap' : Nat) : Tx (w.setCell ⟨g, 2, none⟩ (.slice a' n' cap')) g c s a' n' cap' := by
  refine ⟨?_⟩; rw [heap_setCell_same w g 2 _ _ _ b.row]; rfl
set_option maxRecDepth 100000 in
theorem Tx.set {w w' : World} {g : Nat} {c : Int} {s : Nat} {a : Option Addr} {n cap : Nat} (b : Tx w g c s a n cap) {X : Nat → Prop} (h : Fr X w w') (hg : ¬ X g) : Tx w' g c s a n cap := ⟨(h.block g b.lt hg).trans b.row⟩
def TTakP (w : World) (q : Nat) (l : List Nat) (n : Nat) (e : Ending) (w' : World) : Prop :=
  ∃ g, e = .returned (.agg #[.int .i64 (at_ l 2 4 : Int), .int .u32 (at_ l 6 4 : Int), .slice (some ⟨g, 0, none⟩) n n]) ∧ w.heap.size ≤ g ∧ Nts w' (some ⟨g, 0, none⟩) (plc l n) ∧ TkS w' q ⟨0, l.drop (14 + 5 * n), 14 + 5 * n⟩ ∧ Fr (fun b => b = q) w w'
set_option maxRecDepth 100000 in
set_option maxHeartbeats 4000000 in
theorem ttaken_any (q : Nat) (l : List Nat) (n : Nat) (hn : np l = n) (hn16 : n ≤ 16777216) (w : World) (h : TkS w q ⟨0, l, 0⟩) (hl : 14 + 5 * n ≤ l.length) :
    Calls Tryd.prog 79 #[.pointer (some ⟨q, 0, none⟩)] w (TTakP w q l n) := by
  have hq := h.lt
  have hlt : ∀ b ∈ l, b < 256 := TkS.blt2 h
  have hrw : ∀ w, TkS w q ⟨0, l, 0⟩ → Calls Tryd.prog 73 #[.pointer (some ⟨q, 0, none⟩), .int .i64 2] w fun e w' => ∃ v, e = .returned v ∧ TkS w' q ⟨0, l.drop 2, 2⟩ ∧ Fr (fun b => b = q) w w' := fun w h => by
    have e := nx_ok (s := ⟨0, l, 0⟩) (k := 2) (f := false) rfl (fun h => by cases h) (by show 2 ≤ l.length; omega)
    refine (traw_any h 2).mono ?_
    rintro e' w' ⟨ao, cap, rfl, _, h2, h3, _⟩
    rw [show ((2 : Nat) : Int) = 2 from rfl] at e
    rw [e] at h2
    exact ⟨_, rfl, h2, h3⟩
  have HRW := hid hrw
  have HU1 := hid fun (w : World) (h : TkS w q ⟨0, l.drop 2, 2⟩) => tku_at 2 4 h (by decide) (by decide) (by omega)
  have HU2 := hid fun (w : World) (h : TkS w q ⟨0, l.drop 6, 6⟩) => tku_at 6 4 h (by decide) (by decide) (by omega)
  have HU3 := hid fun (w : World) (h : TkS w q ⟨0, l.drop 10, 10⟩) => (show Calls Tryd.prog 45 #[.pointer (some ⟨q, 0, none⟩), .int .i64 4] w (Took w q ⟨0, l.drop 14, 14⟩ (.int .u64 (n : Int))) from by
    have := tku_at 10 4 h (by decide) (by decide) (by omega)
    rw [show at_ l 10 4 = n from hn] at this
    exact this)
  have HUK := hid fun (k : Nat) (hk : k < n) (w : World) (h : TkS w q ⟨0, l.drop (14 + 5 * k), 14 + 5 * k⟩) => (show Calls Tryd.prog 45 #[.pointer (some ⟨q, 0, none⟩), .int .i64 5] w (Took w q ⟨0, l.drop (14 + 5 * (k + 1)), 14 + 5 * (k + 1)⟩ (.int .u64 (at_ l (14 + 5 * k) 5 : Int))) from by
    have := tku_at (14 + 5 * k) 5 h (by decide) (by decide) (by omega)
    rw [show 14 + 5 * k + 5 = 14 + 5 * (k + 1) from by omega] at this
    exact this)
  have u1 := i64_small _ (at_lt hlt 2 4 (by decide))
  have u2 : IntKind.u32.wrap (at_ l 6 4 : Int) = at_ l 6 4 := by have := at_lt hlt 6 4 (by decide); rw [wrap_u32n]; omega
  have HU5 := hid fun k => (show wrap64 (at_ l (14 + 5 * k) 5 : Int) = at_ l (14 + 5 * k) 5 ∧ IntKind.i64.wrap (at_ l (14 + 5 * k) 5 : Int) = at_ l (14 + 5 * k) 5 from ⟨by have := at5_lt hlt (14 + 5 * k); unfold wrap64; omega, IntWalk.i64_in _ (by have := at5_lt hlt (14 + 5 * k); omega)⟩)
  have hmk : ∀ w : World, (Instr.makeSlice 39 (.int .u64 (n : Int)) (.int .u64 (n : Int))).run Tryd.prog w = .ok (.slice (some ⟨w.heap.size, 0, none⟩) n n) (w.alloc (.cells (madeCells #[.int .i64 0] n) 3)) := fun w =>
    run_make_row' (P := Tryd.prog) 39 3 (.int .i64 0) 8 Tryd.underlying39 Tryd.info3 rfl .u64 .u64 n (by omega) (by omega) w
  have HPO := hid (show ∀ e w', TTakP w q l n e w' = ∃ g, e = .returned (.agg #[.int .i64 (at_ l 2 4 : Int), .int .u32 (at_ l 6 4 : Int), .slice (some ⟨g, 0, none⟩) n n]) ∧ w.heap.size ≤ g ∧ Nts w' (some ⟨g, 0, none⟩) (plc l n) ∧ TkS w' q ⟨0, l.drop (14 + 5 * n), 14 + 5 * n⟩ ∧ Fr (fun b => b = q) w w' from fun _ _ => rfl)
  have HB0 := hid (below_new w (.cells #[.int .i64 0, .int .u32 0, .slice none 0 0] 41))
  have HT0 := hid (h.below HB0.out)
  have HZ0 := hid (show Tx (w.alloc (.cells #[.int .i64 0, .int .u32 0, .slice none 0 0] 41)) w.heap.size 0 0 none 0 0 from Tx.new w 0 0 none 0 0)
  clear h hlt hrw hl
  generalize at_ l 2 4 = n1 at *
  generalize at_ l 6 4 = n2 at *
  go_enter Tryd.func79, Tryd.ntmps79
  go_wp2_with fail
  refine (HRW.out _ HT0.out).mono ?_
  rintro e w1 ⟨v, rfl, ht1, hf1⟩
  have HZ1 := hid (HZ0.out.set hf1 (by omega))
  have HF1 := hid ((fr_below (q := q) HB0.out).trans hf1)
  have hbn := below_new w1 (.cells #[.int .i64 0, .int .u32 0, .slice none 0 0] 41)
  have hsz : w.heap.size < w1.heap.size := HZ1.out.lt
  have HT2 := hid (ht1.below hbn)
  have HZ2 := hid (HZ1.out.below hbn hsz)
  have HX2 := hid (show Tx (w1.alloc (.cells #[.int .i64 0, .int .u32 0, .slice none 0 0] 41)) w1.heap.size 0 0 none 0 0 from Tx.new w1 0 0 none 0 0)
  have HF2 := hid (HF1.out.trans (fr_below (q := q) hbn))
  have HN := hid (show q < w1.heap.size ∧ w.heap.size < w1.heap.size ∧ q < w.heap.size from ⟨by omega, hsz, hq⟩)
  clear ht1 hf1 hbn hsz hq HZ0 HB0 HT0 HZ1 HF1 HRW
  go_wp2_with fail
  refine (HU1.out _ HT2.out).mono ?_
  rintro e v1 ⟨rfl, ht, hf⟩
  have hx := HX2.out.set hf (by have := HN.out.1; omega)
  have hz := HZ2.out.set hf (by have := HN.out.2.2; omega)
  have cc := hx.c0
  have ff := hx.fz 0
  have HX2 := hid (hx.set0 (n1 : Int))
  have HZ2 := hid (hz.set (frq (q := w1.heap.size) 0 (.int .i64 (n1 : Int))) (by have := HN.out.2.1; omega))
  have HT2 := hid (tks_other ht (frq (q := w1.heap.size) 0 (.int .i64 (n1 : Int))) HN.out.1)
  have HF2 := hid (fr_setNew (HF2.out.trans hf) (p := ⟨w1.heap.size, 0, none⟩) (u := .int .i64 (n1 : Int)) (by have := HN.out.2.1; show w.heap.size ≤ w1.heap.size; omega))
  clear ht hf hx hz
  go_wp2_with fail
  refine (HU2.out _ HT2.out).mono ?_
  rintro e v2 ⟨rfl, ht, hf⟩
  have hx := HX2.out.set hf (by have := HN.out.1; omega)
  have hz := HZ2.out.set hf (by have := HN.out.2.2; omega)
  have cc2 := hx.c1
  have ff2 := hx.fz 1
  have HX2 := hid (hx.set1 n2)
  have HZ2 := hid (hz.set (frq (q := w1.heap.size) 1 (.int .u32 (n2 : Int))) (by have := HN.out.2.1; omega))
  have HT2 := hid (tks_other ht (frq (q := w1.heap.size) 1 (.int .u32 (n2 : Int))) HN.out.1)
  have HF2 := hid (fr_setNew (HF2.out.trans hf) (p := ⟨w1.heap.size, 1, none⟩) (u := .int .u32 (n2 : Int)) (by have := HN.out.2.1; show w.heap.size ≤ w1.heap.size; omega))
  clear ht hf hx hz cc ff
  go_wp2_with fail
  refine (HU3.out _ HT2.out).mono ?_
  rintro e v3 ⟨rfl, ht, hf⟩
  have hx := HX2.out.set hf (by have := HN.out.1; omega)
  have hz := HZ2.out.set hf (by have := HN.out.2.2; omega)
  have hbn := below_new v3 (.cells (madeCells #[.int .i64 0] n) 3)
  have hx' := hx.below hbn hx.lt
  have hz' := hz.below hbn hz.lt
  have cc3 := hx'.c2
  have ff3 := hx'.fz 2
  have HX2 := hid (hx'.set2 (some ⟨v3.heap.size, 0, none⟩) n n)
  have HZ2 := hid (hz'.set (frq (q := w1.heap.size) 2 (.slice (some ⟨v3.heap.size, 0, none⟩) n n)) (by have := HN.out.2.1; omega))
  have HT2 := hid (tks_other (ht.below hbn) (frq (q := w1.heap.size) 2 (.slice (some ⟨v3.heap.size, 0, none⟩) n n)) HN.out.1)
  have HF2 := hid (fr_setNew ((HF2.out.trans hf).trans (fr_below (q := q) hbn)) (p := ⟨w1.heap.size, 2, none⟩) (u := .slice (some ⟨v3.heap.size, 0, none⟩) n n) (by have := HN.out.2.1; show w.heap.size ≤ w1.heap.size; omega))
  have HN2 := hid (show w1.heap.size < v3.heap.size from hx.lt)
  have hrow := (World.rowIs_made v3 (.int .i64 0) n 3)
  have HR2 := hid (show ((v3.alloc (.cells (madeCells #[.int .i64 0] n) 3)).setCell ⟨w1.heap.size, 2, none⟩ (.slice (some ⟨v3.heap.size, 0, none⟩) n n)).rowIs v3.heap.size 3 n (fun i => if i < 0 then .int .i64 (at_ l (14 + 5 * i) 5 : Int) else .int .i64 0) from by
    obtain ⟨c, h1, h2, h3⟩ := hrow
    exact ⟨c, (heap_setCell_other _ _ _ _ (by have := HN2.out; simp; omega)).trans h1, h2, fun i hi => (h3 i hi).trans (congrArg some (if_neg (Nat.not_lt_zero i)).symm)⟩)
  clear ht hf hx hz hbn hx' hz' hrow cc2 ff2
  go_wp2_with fail
  generalize (v3.alloc (.cells (madeCells #[.int .i64 0] n) 3)).setCell ⟨w1.heap.size, 2, none⟩ (.slice (some ⟨v3.heap.size, 0, none⟩) n n) = w4 at *
  generalize v3.heap.size = gp at *
  clear u1 u2 hmk cc3 ff3
  go_loopg [4, 22] n (fun gg v i wr => ∃ k : Nat, k ≤ n ∧ gg = n - k ∧ i = .int .i64 k ∧ TkS wr q ⟨0, l.drop (14 + 5 * k), 14 + 5 * k⟩ ∧ Fr (fun b => b = q) w wr ∧ Tx wr w1.heap.size (n1 : Int) n2 (some ⟨gp, 0, none⟩) n n ∧ Tx wr w.heap.size 0 0 none 0 0 ∧ wr.rowIs gp 3 n (fun i => if i < k then .int .i64 (at_ l (14 + 5 * i) 5 : Int) else .int .i64 0))
  case atStart => exact ⟨0, Nat.zero_le _, rfl, rfl, HT2.out, HF2.out, HX2.out, HZ2.out, HR2.out⟩
  case round =>
    obtain ⟨k, hk, hgg, rfl, htk, hfr, hxr, hzr, hrr⟩ := hrel
    have HG := hid hgg
    have HTK := hid htk
    have HFR := hid hfr
    have HXR := hid hxr
    have HZR := hid hzr
    have HRR := hid hrr
    have c2 := hxr.c2
    clear hgg htk hfr hxr hzr hrr HT2 HF2 HX2 HZ2 HR2
    by_cases hlt : k < n
    · have hlt2 : (k : Int) < (n : Int) := by omega
      have bd : Below wr.heap.size wr wr.drew := drew1 wr
      have HK := hid (HUK.out k hlt wr.drew (HTK.out.below bd))
      have d2 := (HXR.out.below bd HXR.out.lt).c2
      have hu1 := (HU5.out k).1
      have hu2 := (HU5.out k).2
      have HV := hid (show ∀ i, (if i < k + 1 then Value.int .i64 (at_ l (14 + 5 * i) 5 : Int) else .int .i64 0) = if i = k then Value.int .i64 (at_ l (14 + 5 * k) 5 : Int) else if i < k then Value.int .i64 (at_ l (14 + 5 * i) 5 : Int) else .int .i64 0 from fun i => by
        by_cases h1 : i = k
        · subst h1; rw [if_pos (by omega), if_pos rfl]
        · rw [if_neg h1]
          by_cases h2 : i < k
          · rw [if_pos h2, if_pos (by omega)]
          · rw [if_neg h2, if_neg (by omega)])
      have HKL := hid hlt
      generalize at_ l (14 + 5 * k) 5 = x at *
      go_wp2_with fail
      go_region_with (first
        | (go_at_call 45; (with_reducible refine HK.out.mono ?_); rintro e w7 ⟨rfl, ht7, hf7⟩; have x7 := HXR.out.set ((fr_below (q := q) bd).trans hf7) (by have := HN.out.1; omega); have c7 := x7.c2; have r7 := (HRR.out.of_block (((fr_below (q := q) bd).trans hf7).block gp HRR.out.lt (by have := HN.out.1; have := HN2.out; omega))); have rc7 := r7.cell HKL.out; have rf7 := r7.frozen k))
      all_goals
        have HT8 := hid (tks_other ht7 (frq (q := gp) k (.int .i64 (x : Int))) (by have := HN.out.1; have := HN2.out; omega))
        have HF8 := hid (fr_setNew ((HFR.out.trans (fr_below (q := q) bd)).trans hf7) (p := ⟨gp, k, none⟩) (u := .int .i64 (x : Int)) (by have := HN.out.2.1; have := HN2.out; show w.heap.size ≤ gp; omega))
        have HX8 := hid (x7.set (frq (q := gp) k (.int .i64 (x : Int))) (by have := HN2.out; omega))
        have HZ8 := hid ((HZR.out.set ((fr_below (q := q) bd).trans hf7) (by have := HN.out.2.2; omega)).set (frq (q := gp) k (.int .i64 (x : Int))) (by have := HN.out.2.1; have := HN2.out; omega))
        have HR8 := hid ((r7.set k (.int .i64 (x : Int))).congr fun i _ => (HV.out i).symm)
        clear ht7 hf7 x7 c7 r7 rc7 rf7 c2 d2 bd hu1 hu2
        go_wp2_with fail
        go_roundg (n - (k + 1))
        case measure => rw [HG.out]; omega
        case rel => exact ⟨k + 1, by omega, rfl, by go_num, HT8.out, HF8.out, HX8.out, HZ8.out, HR8.out⟩
    · have hge : ¬ (k : Int) < (n : Int) := by omega
      obtain rfl : k = n := by omega
      clear c2
      go_wp2_with (first
        | (refine wpList_load_row rfl 41 _ rfl w1.heap.size rfl 41 #[.int .i64 (n1 : Int), .int .u32 (n2 : Int), .slice (some ⟨gp, 0, none⟩) k k] (0, 0) _ HXR.out.row Tryd.underlying41 rfl Tryd.size41 ?_)
        | (refine wpList_store_row rfl 41 _ _ rfl w.heap.size #[.int .i64 (n1 : Int), .int .u32 (n2 : Int), .slice (some ⟨gp, 0, none⟩) k k] rfl rfl 41 #[.int .i64 0, .int .u32 0, .slice none 0 0] HZR.out.row Tryd.size41 rfl (by simp [Value.oneCell']) ?_))
      refine bodyPost_ret (results_cell_row (p := 2) (ty := 41) (by kernel_rfl) _ _ w.heap.size 41 #[.int .i64 (n1 : Int), .int .u32 (n2 : Int), .slice (some ⟨gp, 0, none⟩) k k] (0, 0) _ rfl (setRow_heap _ _ _ _ _ _ HZR.out.row) Tryd.underlying41 rfl Tryd.size41) rfl ?_
      rw [HPO.out]
      refine ⟨gp, rfl, by have := HN.out.2.1; have := HN2.out; omega, nts_row ((HRR.out.congr fun i hi => by rw [if_pos hi]).of_block (setRow_other _ _ _ _ (by have := HN.out.2.1; have := HN2.out; omega))), tks_other HTK.out (fr_setRow _ _ _) HN.out.2.2, fr_setRowNew HFR.out (Nat.le_refl _)⟩
end Go.Proofs.YthjjonbkfkpkmaaDoor.Tl
