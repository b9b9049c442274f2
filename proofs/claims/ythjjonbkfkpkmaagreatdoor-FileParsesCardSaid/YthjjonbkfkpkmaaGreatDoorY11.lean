/- Put of the program. Conditions: a table, places in memory. -/
import Derived.Test.YthjjonbkfkpkmaaGreatDoorY10
import Derived.Lib.SlBytesConst
namespace Go.Proofs.YthjjonbkfkpkmaaGreatDoor.Tl
open Go.RowKit Gen Fld Inf
open Crc hiding hid

set_option maxRecDepth 100000 in
theorem St.uL {w1 wr : World} {l : List Nat} (h : St w1 l wr) (v n : Nat) (hv : v < 18446744073709551616) (he : uErr v n = 0) (hl : l.length ≤ 137438953472) :
    Calls Tryz.prog 49 #[.pointer (some ⟨w1.heap.size, 0, none⟩), .int .u64 (v : Int), .int .i64 (n : Int)] wr fun e w' => e = .returned (.tuple #[]) ∧ St w1 (l ++ le v n) w' := by
  obtain ⟨ao, cap, hm, hb⟩ := h
  refine (u_any hm hb.size v n hv (by show l.length ≤ _; omega)).mono ?_
  rintro e w' ⟨rfl, hA⟩
  refine ⟨rfl, ?_⟩
  rw [he, put_z] at hA
  exact MkN.next (s := (0, l)) hm hb hA
set_option maxRecDepth 100000 in
theorem St.bytesL {w1 wr : World} {l : List Nat} (h : St w1 l wr) (hl : l.length ≤ 137438953472) :
    Calls Tryz.prog 50 #[.pointer (some ⟨w1.heap.size, 0, none⟩)] wr fun e w' => ∃ ao cap, e = .returned (.tuple #[.slice ao l.length cap, .int .i64 0]) ∧ Byts w' ao l ∧ Below w1.heap.size w1 w' := by
  obtain ⟨ao, cap, hm, hB⟩ := h
  have hlt := hm.lt
  refine (mbytes_ok hm (by show l.length ≤ _; omega)).mono ?_
  rintro e w' ⟨ao1, cap1, rfl, ho, hb⟩
  exact ⟨ao1, cap1, rfl, Byts.of_row hlt ho, hB.trans (hb.mono hB.size)⟩
set_option maxRecDepth 100000 in
theorem uerr_five (v : Nat) (h : v < 1099511627776) : uErr v 5 = 0 := by
  unfold uErr
  rw [if_neg (by omega), if_neg]
  have : (2 : Nat) ^ (8 * (5 : Int).toNat) = 1099511627776 := by decide
  omega
set_option maxRecDepth 100000 in
theorem byts_en (w : World) : Byts (w.alloc (.cells #[.int .u8 69, .int .u8 78] 5 (2, 3))) (some ⟨w.heap.size, 0, none⟩) [69, 78] :=
  ⟨by decide,
   fun j x hj => by
    refine ⟨w.heap.size, 0, rfl, ?_⟩
    rcases j with _ | _ | j
    · simp at hj; subst hj; unfold World.cell?; rw [heap_alloc_new]; rfl
    · simp at hj; subst hj; unfold World.cell?; rw [heap_alloc_new]; rfl
    · simp at hj⟩
set_option maxRecDepth 100000 in
theorem conv_en (w : World) : (convert 32 32 (.slice (some ⟨w.heap.size, 0, none⟩) 2 2)).run Tryz.prog (w.alloc (.cells #[.int .u8 69, .int .u8 78] 5)) = .ok (.slice (some ⟨w.heap.size, 0, none⟩) 2 2) (w.alloc (.cells #[.int .u8 69, .int .u8 78] 5 (2, 3))) :=
  Lib.run_convert_bytes_const (P := Tryz.prog) w 32 5 #[.int .u8 69, .int .u8 78] 2 2 Tryz.underlying32 Tryz.underlying5
set_option maxRecDepth 100000 in
theorem tput_nil (c : Int) (s : Nat) (a : Option Addr) (n cap : Nat) (w : World) : Calls Tryz.prog 22 #[.pointer none, .agg #[.int .i64 c, .int .u32 (s : Int), .slice a n cap]] w (PutP w 2 []) := by
  have HF := hid (show ∀ w', Below w.heap.size w w' → PutP w 2 [] (.returned (.tuple #[.slice none 0 0, .int .i64 2])) w' from fun _ h => putp_none 2 h)
  go_enter Tryz.func22, Tryz.ntmps22
  go_wp2_with fail
  go_ret2
  exact HF.out _ (below_new _ _)
set_option maxRecDepth 100000 in
theorem tput_bad {w : World} {g : Nat} {a : Option Addr} {P : List Int} {n cap s : Nat} {c : Int} (hn : P.length = n) (hP : Nts w a P) (hmax : n ≤ 1099511627776) (hr : ¬ TRt c P) :
    Calls Tryz.prog 22 #[.pointer (some ⟨g, 0, none⟩), .agg #[.int .i64 c, .int .u32 (s : Int), .slice a n cap]] w (PutP w 60 []) := by
  have HF := hid (show ∀ w', Below w.heap.size w w' → PutP w 60 [] (.returned (.tuple #[.slice none 0 0, .int .i64 60])) w' from fun _ h => putp_none 60 h)
  have HR := hid fun (w' : World) (hb : Below w.heap.size w w') => tright_any (s := s) (cap := cap) (c := c) hn (hP.keep hb) hmax
  rw [decide_eq_false hr] at HR
  clear hr hP hn
  go_enter Tryz.func22, Tryz.ntmps22
  go_wp2_with fail
  refine (HR.out _ (below_new _ _)).mono ?_
  rintro e w' ⟨rfl, hb⟩
  have hfin := (below_new w _).trans (hb.mono (below_new w _).size)
  clear hb
  go_wp2_with fail
  go_ret2
  exact HF.out _ hfin
set_option maxRecDepth 100000 in
theorem rise_all {p : Int} {l : List Int} (h : rise p l) (hp : -1 ≤ p) : ∀ j, (hj : j < l.length) → 0 ≤ l[j] ∧ l[j] < 1099511627776 := by
  induction l generalizing p with
  | nil => intro j hj; exact absurd hj (Nat.not_lt_zero _)
  | cons x t ih =>
    intro j hj
    obtain ⟨⟨h1, h2⟩, h3⟩ := h
    cases j with
    | zero => show 0 ≤ x ∧ x < _; omega
    | succ j => exact ih h3 (by omega) j (by simpa using hj)
set_option maxHeartbeats 4000000 in
set_option maxRecDepth 100000 in
theorem tput_ok {w : World} {g : Nat} (ht : Tab w g) {a : Option Addr} {P : List Int} {n cap s : Nat} {c : Int} (hn : P.length = n) (hP : Nts w a P) (hs : s < 4294967296) (hr : TRt c P) :
    Calls Tryz.prog 22 #[.pointer (some ⟨g, 0, none⟩), .agg #[.int .i64 c, .int .u32 (s : Int), .slice a n cap]] w (PutP w 0 (tby c s P)) := by
  have hn16 : n ≤ 16777216 := by have := hr.2.1; omega
  have HR := hid fun (w' : World) (hb : Below w.heap.size w w') => tright_any (s := s) (cap := cap) (c := c) hn (hP.keep hb) (by omega)
  rw [decide_eq_true hr] at HR
  have HRI := hid (rise_all hr.2.2 (by decide))
  obtain ⟨cn, rfl⟩ := Int.eq_ofNat_of_zero_le hr.1.1
  have hc4 : cn < 4294967296 := by have := hr.1.2; omega
  have HTB := hid ht
  have HP := hid hP
  have HN := hid hn
  have HBY := hid (show tby (cn : Int) s P = smd ([] ++ [69, 78] ++ le cn 4 ++ le s 4 ++ le n 4 ++ pl P) from by unfold tby tpre thd; rw [hn]; rfl)
  have HX0 := hid (Tx.new w (cn : Int) s a n cap)
  have L1 := hid (uerr_zero cn hc4); have L2 := hid (uerr_zero s hs); have L3 := hid (uerr_zero n (by omega))
  have u1 : IntKind.u64.wrap (cn : Int) = cn := u64_small cn hc4
  have u2 : IntKind.u64.wrap (s : Int) = s := u64_small s hs
  have u3 : IntKind.u64.wrap (n : Int) = n := u64_small n (by omega)
  have LC := hid hc4; have LS := hid hs
  clear hr hP hn ht hc4 hs
  go_enter Tryz.func22, Tryz.ntmps22
  go_wp2_with fail
  refine (HR.out _ (below_new _ _)).mono ?_
  rintro e w1 ⟨rfl, hb⟩
  have hb1 : Below w.heap.size w w1 := (below_new w _).trans (hb.mono (below_new w _).size)
  have HX1 := hid (HX0.out.below hb HX0.out.lt)
  have HB1 := hid hb1
  clear hb hb1 HX0
  have hst := MkN.start w1
  have hb2 := below_new w1 (.cells #[.int .i64 0, .slice none 0 0] 116)
  obtain ⟨W2, hW2⟩ : ∃ W, w1.alloc (.cells #[.int .i64 0, .slice none 0 0] 116) = W := ⟨_, rfl⟩
  rw [hW2] at hst hb2
  have hby2 := byts_en W2
  have hb3 := below_new W2 (.cells #[.int .u8 69, .int .u8 78] 5 (2, 3))
  have hst3 := Inf.St.below hst hb3
  have HEN := hid hby2
  have HST := hid hst3
  have hsz : W2.heap.size = w1.heap.size + 1 := by rw [← hW2]; exact Deep.nblk_alloc _ _
  clear hst hb2 hby2 hb3 hst3
  have hcv := conv_en W2
  clear hsz
  go_wp2_with fail
  clear hW2 hcv
  refine (Inf.St.raw HST.out (m := [69, 78]) rfl HEN.out (fun e => by cases e) (by decide)).mono ?_
  rintro e w3 ⟨rfl, hs3⟩
  have HS := hid (show St w1 ([] ++ [69, 78]) w3 from hs3)
  clear hs3 HEN HST
  have HXA := hid (show Tx w3 w.heap.size (cn : Int) s a n cap from by obtain ⟨_, _, _, hb⟩ := HS.out; exact HX1.out.below hb HX1.out.lt)
  have c0 := HXA.out.c0
  go_wp2_with fail
  refine (St.uL HS.out cn 4 (by have := LC.out; omega) L1.out (by simp only [List.length_append]; decide)).mono ?_
  rintro e w4 ⟨rfl, hs⟩
  have HS := hid hs
  clear hs HXA c0
  have HXA := hid (show Tx w4 w.heap.size (cn : Int) s a n cap from by obtain ⟨_, _, _, hb⟩ := HS.out; exact HX1.out.below hb HX1.out.lt)
  have c1 := HXA.out.c1
  go_wp2_with fail
  refine (St.uL HS.out s 4 (by have := LS.out; omega) L2.out (by simp only [List.length_append, le_len]; decide)).mono ?_
  rintro e w5 ⟨rfl, hs⟩
  have HS := hid hs
  clear hs HXA c1
  have HXA := hid (show Tx w5 w.heap.size (cn : Int) s a n cap from by obtain ⟨_, _, _, hb⟩ := HS.out; exact HX1.out.below hb HX1.out.lt)
  have c2 := HXA.out.c2
  go_wp2_with fail
  refine (St.uL HS.out n 4 (by omega) L3.out (by simp only [List.length_append, le_len]; decide)).mono ?_
  rintro e w6 ⟨rfl, hs⟩
  have HS := hid hs
  clear hs HXA c2
  have HXA := hid (show Tx w6 w.heap.size (cn : Int) s a n cap from by obtain ⟨_, _, _, hb⟩ := HS.out; exact HX1.out.below hb HX1.out.lt)
  have c2 := HXA.out.c2
  have HHL := hid (show ([] ++ [69, 78] ++ le cn 4 ++ le s 4 ++ le n 4).length = 14 from by simp only [List.length_append, le_len]; rfl)
  generalize [] ++ [69, 78] ++ le cn 4 ++ le s 4 ++ le n 4 = H at *
  go_wp2_with fail
  clear c2 u1 u2 u3 HXA
  go_loopg [8, 43] n (fun gg v i wr => ∃ k : Nat, k ≤ n ∧ gg = n - k ∧ i = .int .i64 k ∧ St w1 (H ++ pl (P.take k)) wr)
  case atStart => exact ⟨0, Nat.zero_le _, rfl, rfl, by show St w1 (H ++ []) _; rw [List.append_nil]; exact HS.out⟩
  case round =>
    obtain ⟨k, hk, hgg, rfl, hst⟩ := hrel
    have HG := hid hgg
    have HST := hid hst
    clear hgg hst
    have HLK := hid (show (H ++ pl (P.take k)).length ≤ 137438953472 from by rw [List.length_append, HHL.out, pl_len, List.length_take]; omega)
    by_cases hlt : k < n
    · have hlt2 : (k : Int) < (n : Int) := by omega
      have hkl : k < P.length := by rw [HN.out]; exact hlt
      obtain ⟨b, off, rfl, hbs⟩ := HP.out.spot (by omega)
      have ck := (HP.out.keep (show Below w.heap.size w wr from by obtain ⟨_, _, _, hb⟩ := HST.out; exact HB1.out.trans (hb.mono HB1.out.size))).cell k hkl
      have hx := HRI.out k hkl
      have HE := hid (pl_take P k hkl)
      generalize P[k] = x at *
      obtain ⟨xn, rfl⟩ := Int.eq_ofNat_of_zero_le hx.1
      have hx5 : xn < 1099511627776 := by omega
      have u5 : IntKind.u64.wrap (xn : Int) = xn := by rw [u64_wrap]; unfold u64; omega
      have HX5 := hid hx5
      clear hx hx5
      go_wp2_with fail
      refine (St.uL HST.out xn 5 (by have := HX5.out; omega) (uerr_five xn HX5.out) HLK.out).mono ?_
      rintro e w7 ⟨rfl, hs7⟩
      have HS7 := hid (show St w1 (H ++ pl (P.take (k + 1))) w7 from by rw [HE.out, ← List.append_assoc]; exact hs7)
      clear hs7 ck u5
      go_wp2_with fail
      go_roundg (n - (k + 1))
      case measure => rw [HG.out]; omega
      case rel => exact ⟨k + 1, by omega, rfl, by go_num, HS7.out⟩
    · have hge : ¬ (k : Int) < (n : Int) := by omega
      obtain rfl : k = n := by omega
      rw [List.take_of_length_le (by rw [HN.out]; exact Nat.le_refl _)] at HST HLK
      have HTL := hid (show (H ++ pl P).length = 14 + 5 * k from by rw [List.length_append, HHL.out, pl_len, HN.out])
      generalize H ++ pl P = T at *
      go_wp2_with fail
      refine (St.bytesL HST.out HLK.out).mono ?_
      rintro e w8 ⟨ao, c8, rfl, hby8, hb8⟩
      have HB8 := hid (HB1.out.trans (hb8.mono HB1.out.size))
      have HT8 := hid ((HTB.out.keep (HB1.out.block g HTB.out.lt)).keep (hb8.block g (Nat.lt_of_lt_of_le HTB.out.lt HB1.out.size)))
      have HSM := hid (tsummed_any (cap := c8) HT8.out rfl hby8 (by have := HTL.out; omega))
      clear hby8 hb8
      go_wp2_with fail
      refine HSM.out.mono ?_
      rintro e w9 ⟨a9, c9, rfl, hn9⟩
      have HN9 := hid hn9
      clear hn9
      go_wp2_with fail
      go_ret2
      rw [HBY.out]
      exact ⟨a9, c9, rfl, own_mono HN9.out.own HB8.out.size, HB8.out.trans (HN9.out.bel.mono HB8.out.size), HN9.out.lt⟩
end Go.Proofs.YthjjonbkfkpkmaaGreatDoor.Tl
namespace Go.Proofs.YthjjonbkfkpkmaaGreatDoor.Tl
open Go.RowKit Gen Fld Inf
open Crc hiding hid

/-- Bytes of the call's own, beside the tail's box. -/
structure Rw (w : World) (c : Int) (s : Nat) (a : Option Addr) (n cap : Nat) (ao : Option Addr) (ca : Nat) (N : Nat) (l : List Nat) (wr : World) : Prop where
  own : wr.ownsRow w.heap.size 5 1 (.slice ao N ca) N (bl l)
  x : Tx wr w.heap.size c s a n cap
  far : blk ao ≠ some w.heap.size
  b : Below w.heap.size w wr
set_option maxRecDepth 100000 in
theorem Rw.more {w : World} {c : Int} {s : Nat} {a : Option Addr} {n cap : Nat} {ao : Option Addr} {ca N : Nat} {l : List Nat} {wr w5 : World} (h : Rw w c s a n cap ao ca N l wr) (hb : Below wr.heap.size wr w5) : Rw w c s a n cap ao ca N l w5 :=
  ⟨ownsRow_block h.own fun g hg => hb.block g ((h.own.lt g (by rw [ownBlock_slice]; exact hg)).2), h.x.below hb h.x.lt, h.far, h.b.trans (hb.mono h.b.size)⟩
set_option maxRecDepth 100000 in
theorem Rw.app {w : World} {c : Int} {s : Nat} {a : Option Addr} {n cap : Nat} {ao ao7 : Option Addr} {ca ca7 N M : Nat} {l m : List Nat} {w5 w7 : World} (h : Rw w c s a n cap ao ca N l w5)
    (ho : w7.ownsRow w.heap.size 5 1 (.slice ao7 M ca7) M (bl l ++ bl m)) (hg : w5.grownBy w7 (blk ao)) (hat : blk ao7 = blk ao ∨ ∀ g, blk ao7 = some g → w5.heap.size ≤ g) : Rw w c s a n cap ao7 ca7 M (l ++ m) w7 := by
  refine ⟨by rw [bl_app]; exact ho, ⟨(hg.block _ h.x.lt (fun e => h.far e.symm)).trans h.x.row⟩, ?_, ?_⟩
  · rcases hat with e | e
    · rw [e]; exact h.far
    · intro e2; have := e _ e2; have := h.x.lt; omega
  · exact h.b.trans ⟨hg.os, hg.tape, hg.output, hg.size, fun q hq => hg.block q (Nat.lt_of_lt_of_le hq h.b.size) (fun e => by have := h.own.lt q (by rw [ownBlock_slice]; exact e.symm); omega)⟩
set_option maxRecDepth 100000 in
set_option maxHeartbeats 4000000 in
theorem trput_ok {w : World} {a : Option Addr} {P : List Int} {n cap s : Nat} {c : Int} (hn : P.length = n) (hP : Nts w a P) (hs : s < 4294967296) (hr : TRt c P) :
    Calls Tryz.prog 33 #[.agg #[.int .i64 c, .int .u32 (s : Int), .slice a n cap]] w (LP w (tby c s P)) := by
  have hn16 : n ≤ 16777216 := by have := hr.2.1; omega
  have HRI := hid (rise_all hr.2.2 (by decide))
  obtain ⟨cn, rfl⟩ := Int.eq_ofNat_of_zero_le hr.1.1
  have hc4 : cn < 4294967296 := by have := hr.1.2; omega
  have HP := hid hP
  have HN := hid hn
  have HBT := hid (show tby (cn : Int) s P = (([69, 78] ++ le cn 4 ++ le s 4 ++ le n 4) ++ pl P) ++ le (cs (([69, 78] ++ le cn 4 ++ le s 4 ++ le n 4) ++ pl P)) 4 from by unfold tby tpre thd smd; rw [hn]; rfl)
  have HBL := hid (show (tby (cn : Int) s P).length = 18 + 5 * n from by rw [tby_len, hn])
  have HLT := hid (tby_lt (cn : Int) s P)
  have HTP := hid (show ∀ b ∈ ([69, 78] ++ le cn 4 ++ le s 4 ++ le n 4) ++ pl P, b < 256 from app_lt (app_lt (app_lt (app_lt (by decide) (le_lt _ _)) (le_lt _ _)) (le_lt _ _)) (pl_lt _))
  have u1 : IntKind.u64.wrap (cn : Int) = cn := u64_small cn hc4
  have u2 : IntKind.u64.wrap (s : Int) = s := u64_small s hs
  have u3 : IntKind.u64.wrap (n : Int) = n := u64_small n (by omega)
  have LC := hid hc4; have LS := hid hs
  clear hr hP hn hc4 hs
  obtain ⟨i0, hi, hz0, hz1, hz2⟩ := info_parts Tryz.info5
  have hx0 := Tx.new w (cn : Int) s a n cap
  have hb1 := below_new w (.cells #[.int .i64 (cn : Int), .int .u32 (s : Int), .slice a n cap] 43)
  obtain ⟨W1, hW1⟩ : ∃ W, w.alloc (.cells #[.int .i64 (cn : Int), .int .u32 (s : Int), .slice a n cap] 43) = W := ⟨_, rfl⟩
  rw [hW1] at hx0 hb1
  have hs1 : W1.heap.size = w.heap.size + 1 := by rw [← hW1]; exact Deep.nblk_alloc _ _
  have HR2 := hid (show Rw w (cn : Int) s a n cap (some ⟨W1.heap.size, 0, none⟩) 2 2 [69, 78] (W1.alloc (.cells #[.int .u8 69, .int .u8 78] 5)) from
    ⟨World.ownsRow_lit W1 _ 2 hb1.size (by unfold maxLen; omega) rfl, hx0.below (below_new W1 _) hx0.lt, by rw [hs1]; simp [blk], hb1.alloc hb1.size _⟩)
  have HW1 := hid hW1
  have c0 := hx0.c0
  have c0' := HR2.out.x.c0
  clear hx0 hb1 hs1 hW1
  have hW1 := HW1.out
  go_enter Tryz.func33, Tryz.ntmps33
  go_wp2_with fail
  clear hW1 c0 c0' HW1
  generalize W1.alloc (.cells #[.int .u8 69, .int .u8 78] 5) = W2 at *
  refine (rbytes_any cn 4 (by have := LC.out; omega) (by decide) _).mono ?_
  rintro e w5 ⟨rfl, ho5, hb5⟩
  have HR5 := hid (HR2.out.more hb5)
  have HBY := hid (own_byts ho5 (le_lt cn 4))
  have hs5 := HR5.out.b.size
  have HO5 := hid HR5.out.own
  clear ho5 hb5
  go_wp2_with (at_builtin; (refine (wpList_append_list w5 (by rfl) _ _ _ (by rfl) w.heap.size 5 i0 _ 1 Tryz.underlying32 hi hz0 hz1 hz2 rfl _ 2 2 (bl [69, 78]) (by rfl) HO5.out _ 4 4 (bl (le cn 4)) (by rfl) ((bl_len _).trans (le_len _ _)) (fun e => by cases e) HBY.out.cells (bl_one _) (by unfold maxLen; omega) (by omega) hs5 ?_)))
  intro ao7 c7 w7 ho7 hg7 hat7
  have HR7 := hid (HR5.out.app ho7 hg7 hat7)
  clear ho7 hg7 hat7 HR2 HR5 HO5 HBY hs5
  have c1 := HR7.out.x.c1
  go_wp2_with fail
  refine (rbytes_any s 4 (by have := LS.out; omega) (by decide) _).mono ?_
  rintro e w5 ⟨rfl, ho5, hb5⟩
  have HR5 := hid (HR7.out.more hb5)
  have HBY := hid (own_byts ho5 (le_lt s 4))
  have hs5 := HR5.out.b.size
  have HO5 := hid HR5.out.own
  clear ho5 hb5 c1
  go_wp2_with (at_builtin; (refine (wpList_append_list w5 (by rfl) _ _ _ (by rfl) w.heap.size 5 i0 _ 1 Tryz.underlying32 hi hz0 hz1 hz2 rfl _ 6 c7 (bl ([69, 78] ++ le cn 4)) (by rfl) HO5.out _ 4 4 (bl (le s 4)) (by rfl) ((bl_len _).trans (le_len _ _)) (fun e => by cases e) HBY.out.cells (bl_one _) (by unfold maxLen; omega) (by omega) hs5 ?_)))
  intro ao8 c8 w8 ho8 hg8 hat8
  have HR8 := hid (HR5.out.app ho8 hg8 hat8)
  clear ho8 hg8 hat8 HR7 HR5 HO5 HBY hs5
  have c2 := HR8.out.x.c2
  go_wp2_with fail
  refine (rbytes_any n 4 (by omega) (by decide) _).mono ?_
  rintro e w5 ⟨rfl, ho5, hb5⟩
  have HR5 := hid (HR8.out.more hb5)
  have HBY := hid (own_byts ho5 (le_lt n 4))
  have hs5 := HR5.out.b.size
  have HO5 := hid HR5.out.own
  clear ho5 hb5 c2
  go_wp2_with (at_builtin; (refine (wpList_append_list w5 (by rfl) _ _ _ (by rfl) w.heap.size 5 i0 _ 1 Tryz.underlying32 hi hz0 hz1 hz2 rfl _ 10 c8 (bl ([69, 78] ++ le cn 4 ++ le s 4)) (by rfl) HO5.out _ 4 4 (bl (le n 4)) (by rfl) ((bl_len _).trans (le_len _ _)) (fun e => by cases e) HBY.out.cells (bl_one _) (by unfold maxLen; omega) (by omega) hs5 ?_)))
  intro ao9 c9 w9 ho9 hg9 hat9
  have HR9 := hid (HR5.out.app ho9 hg9 hat9)
  clear ho9 hg9 hat9 HR8 HR5 HO5 HBY hs5
  generalize [69, 78] ++ le cn 4 ++ le s 4 ++ le n 4 = H at *
  clear u1 u2 u3
  go_wp2_with fail
  go_loopg [3, 4] n (fun gg v i wr => ∃ (k : Nat) (ao : Option Addr) (ca : Nat), k ≤ n ∧ gg = n - k ∧ i = .int .i64 k ∧ v = .slice ao (14 + 5 * k) ca ∧ Rw w (cn : Int) s a n cap ao ca (14 + 5 * k) (H ++ pl (P.take k)) wr)
  case atStart => exact ⟨0, _, _, Nat.zero_le _, rfl, rfl, rfl, by show Rw _ _ _ _ _ _ _ _ _ (H ++ []) _; rw [List.append_nil]; exact HR9.out⟩
  case round =>
    obtain ⟨k, ao, ca, hk, hgg, rfl, rfl, hrw⟩ := hrel
    have HG := hid hgg
    have HRW := hid hrw
    have c2 := hrw.x.c2
    clear hgg hrw HR9
    by_cases hlt : k < n
    · have hlt2 : (k : Int) < (n : Int) := by omega
      have hkl : k < P.length := by rw [HN.out]; exact hlt
      obtain ⟨b, off, rfl, hbs⟩ := HP.out.spot (by omega)
      have ck := (HP.out.keep HRW.out.b).cell k hkl
      have hx := HRI.out k hkl
      have HE := hid (pl_take P k hkl)
      generalize P[k] = x at *
      obtain ⟨xn, rfl⟩ := Int.eq_ofNat_of_zero_le hx.1
      have hx5 : xn < 1099511627776 := by omega
      have u5 : IntKind.u64.wrap (xn : Int) = xn := by rw [u64_wrap]; unfold u64; omega
      have HX5 := hid hx5
      clear hx hx5
      go_wp2_with fail
      refine (rbytes_any xn 5 (by have := HX5.out; omega) (by decide) _).mono ?_
      rintro e w5 ⟨rfl, ho5, hb5⟩
      have HR5 := hid (HRW.out.more hb5)
      have HBY := hid (own_byts ho5 (le_lt xn 5))
      have hs5 := HR5.out.b.size
      have HO5 := hid HR5.out.own
      clear ho5 hb5 c2 ck u5
      go_wp2_with (at_builtin; (refine (wpList_append_list w5 (by rfl) _ _ _ (by rfl) w.heap.size 5 i0 _ 1 Tryz.underlying32 hi hz0 hz1 hz2 rfl ao (14 + 5 * k) ca (bl (H ++ pl (P.take k))) (by rfl) HO5.out _ 5 5 (bl (le xn 5)) (by rfl) ((bl_len _).trans (le_len _ _)) (fun e => by cases e) HBY.out.cells (bl_one _) (by unfold maxLen; omega) (by omega) hs5 ?_)))
      intro ao7 c7 w7 ho7 hg7 hat7
      have HR7 := hid (show Rw w (cn : Int) s (some ⟨b, off, none⟩) n cap ao7 c7 (14 + 5 * (k + 1)) (H ++ pl (P.take (k + 1))) w7 from by rw [HE.out, ← List.append_assoc]; exact HR5.out.app ho7 hg7 hat7)
      clear ho7 hg7 hat7 HR5 HO5 HBY hs5
      go_wp2_with fail
      go_roundg (n - (k + 1))
      case measure => rw [HG.out]; omega
      case rel => exact ⟨k + 1, ao7, c7, by omega, rfl, by go_num, rfl, HR7.out⟩
    · have hge : ¬ (k : Int) < (n : Int) := by omega
      obtain rfl : k = n := by omega
      rw [List.take_of_length_le (by rw [HN.out]; exact Nat.le_refl _)] at HRW
      have HTL := hid (show (H ++ pl P).length = 14 + 5 * k from by
        have h1 := HBL.out
        rw [HBT.out, List.length_append, le_len] at h1
        omega)
      generalize H ++ pl P = T at *
      have HCS := hid (rcsum_any (cap := ca) (own_byts HRW.out.own HTP.out) (by have := HTL.out; omega))
      rw [HTL.out] at HCS
      have HCL := hid (cs_lt HTP.out)
      generalize cs T = v at *
      have u7 : IntKind.u64.wrap (v : Int) = v := u64_small _ HCL.out
      go_wp2_with fail
      refine HCS.out.mono ?_
      rintro e w' ⟨rfl, rfl⟩
      go_wp2_with fail
      refine (rbytes_any v 4 (by have := HCL.out; omega) (by decide) _).mono ?_
      rintro e w5 ⟨rfl, ho5, hb5⟩
      have HR5 := hid (HRW.out.more hb5)
      have HBY := hid (own_byts ho5 (le_lt v 4))
      have hs5 := HR5.out.b.size
      have HO5 := hid HR5.out.own
      clear ho5 hb5 c2
      go_wp2_with (at_builtin; (refine (wpList_append_list w5 (by rfl) _ _ _ (by rfl) w.heap.size 5 i0 _ 1 Tryz.underlying32 hi hz0 hz1 hz2 rfl ao (14 + 5 * k) ca (bl T) (by rfl) HO5.out _ 4 4 (bl (le v 4)) (by rfl) ((bl_len _).trans (le_len _ _)) (fun e => by cases e) HBY.out.cells (bl_one _) (by unfold maxLen; omega) (by omega) hs5 ?_)))
      intro ao7 c7 w7 ho7 hg7 hat7
      have HR7 := hid (HR5.out.app ho7 hg7 hat7)
      clear ho7 hg7 hat7 HR5 HO5 HBY hs5
      rw [← HBT.out] at HR7
      go_wp2_with fail
      go_ret
      refine ⟨ao7, c7, ?_, ?_, HR7.out.b, HLT.out⟩
      · rw [HBL.out]
        show Ending.returned (.slice ao7 (14 + 5 * k + 4) c7) = _
        rw [show 14 + 5 * k + 4 = 18 + 5 * k from by omega]
      · rw [HBL.out]
        have := HR7.out.own
        rwa [show 14 + 5 * k + 4 = 18 + 5 * k from by omega] at this
end Go.Proofs.YthjjonbkfkpkmaaGreatDoor.Tl
namespace Go.Proofs.YthjjonbkfkpkmaaGreatDoor.Tl
open Go.RowKit Gen Fld Inf
open Crc hiding hid

def tBgn (l : List Nat) : Prop := l.take 2 = [69, 78].take l.length
instance (l : List Nat) : Decidable (tBgn l) := by unfold tBgn; exact inferInstance
set_option maxRecDepth 100000 in
theorem tbgn_beq {l : List Nat} (hb : ∀ b ∈ l, b < 256) (m : Nat) (hm : m = min 2 l.length) : ((tos (l.take 2)).toList == (({ data := #[69, 78] } : ByteArray).extract 0 m).toList) = decide (tBgn l) := by
  have e : (({ data := #[69, 78] } : ByteArray).extract 0 m).toList = ([69, 78].take m).map UInt8.ofNat := by
    have hx : m = 0 ∨ m = 1 ∨ m = 2 := by omega
    rcases hx with rfl | rfl | rfl <;> (rw [ByteArray.toList_eq]; decide)
  rw [e, toList_tos, u8_beq (fun b h => hb b (List.mem_of_mem_take h)) (fun b h => (by decide : ∀ b ∈ [69, 78], b < 256) b (List.mem_of_mem_take h))]
  refine decide_eq_decide.2 ?_
  unfold tBgn
  have e2 : [69, 78].take m = [69, 78].take l.length := by
    subst hm
    rcases Nat.le_total 2 l.length with h | h
    · rw [Nat.min_eq_left h, List.take_of_length_le (l := [69, 78]) (i := 2) (by decide), List.take_of_length_le (by exact h)]
    · rw [Nat.min_eq_right h]
  rw [e2]
set_option maxRecDepth 100000 in
theorem tbegins_any {w : World} {a : Option Addr} {n cap : Nat} {l : List Nat} (hn : l.length = n) (hb : Byts w a l) (hc : n ≤ cap) (hm : n ≤ 1099511627776) : Calls Tryz.prog 113 #[.slice a n cap] w fun e w' => e = .returned (.bool (decide (tBgn l))) ∧ w = w' := by
  have HQ := hid (tbgn_beq hb.lt (min 2 l.length) rfl)
  have hcv := (hb.take 2).conv cap
  have hs : (tos (l.take 2)).size = min 2 l.length := by rw [tos_size, List.length_take]
  have htl : l.length = 0 → (tos (l.take 2)).toList = [] := fun h => by rw [toList_tos, List.eq_nil_of_length_eq_zero h]; rfl
  rw [List.length_take] at hcv
  rw [hn] at HQ hcv hs htl
  have HTL := hid htl
  clear htl
  generalize decide (tBgn l) = b at *
  generalize tos (l.take 2) = t at *
  clear hb hn
  by_cases h0 : n = 0
  · subst h0
    rw [show min 2 0 = 0 from by decide] at HQ hcv hs
    go_enter Tryz.func113, Tryz.ntmps113
    go_wp2_with fail
    go_ret
    have em : (({ data := #[69, 78] } : ByteArray).extract 0 0).toList = [] := by rw [ByteArray.toList_eq]; decide
    have ht := HTL.out trivial
    exact ⟨by rw [← HQ.out, em, ht]; rfl, rfl⟩
  by_cases h1 : n = 1
  · subst h1
    rw [show min 2 1 = 1 from by decide] at HQ hcv hs
    go_enter Tryz.func113, Tryz.ntmps113
    go_wp2_with fail
    go_ret
    exact ⟨by rw [← HQ.out]; rfl, rfl⟩
  by_cases h2 : n = 2
  · subst h2
    rw [show min 2 2 = 2 from by decide] at HQ hcv hs
    go_enter Tryz.func113, Tryz.ntmps113
    go_wp2_with fail
    go_ret
    exact ⟨by rw [← HQ.out]; rfl, rfl⟩
  have hmn : min 2 n = 2 := by omega
  rw [hmn] at HQ hcv hs
  have h5 : ¬ (n : Int) ≤ 2 := by omega
  have h6 : ¬ (n : Int) < 2 := by omega
  have h7 : 2 ≤ cap := by omega
  clear h0 h1 h2 hmn
  go_enter Tryz.func113, Tryz.ntmps113
  go_wp2_with fail
  go_ret
  exact ⟨by rw [← HQ.out]; rfl, rfl⟩
/-- How many places there are said to be, how long the tail is then, and what is wrong with that. -/
def np (l : List Nat) : Nat := at_ l 10 4
def lgE (l : List Nat) : Int := if l.length < 14 then 10 else if 16777216 < np l then 60 else if l.length < 18 + 5 * np l then 10 else 0
def lgL (l : List Nat) : Nat := if lgE l = 0 then 18 + 5 * np l else 0
set_option maxRecDepth 100000 in
set_option maxHeartbeats 2000000 in
theorem long_any {w : World} {a : Option Addr} {n cap : Nat} {l : List Nat} (hn : l.length = n) (hb : Byts w a l) (hc : n ≤ cap) (hm : n ≤ 1099511627776) :
    Calls Tryz.prog 114 #[.slice a n cap] w fun e w' => e = .returned (.tuple #[.int .i64 (lgL l : Int), .int .i64 (lgE l)]) ∧ Below w.heap.size w w' := by
  have HE := hid (show lgE l = if l.length < 14 then 10 else if 16777216 < np l then 60 else if l.length < 18 + 5 * np l then 10 else 0 from rfl)
  have HL := hid (show lgL l = if lgE l = 0 then 18 + 5 * np l else 0 from rfl)
  rw [hn] at HE
  by_cases h1 : n < 14
  · have h1i : (n : Int) < 14 := by omega
    rw [HL.out, HE.out, if_pos h1, if_neg (by decide)]
    clear HL HE h1 hb
    go_enter Tryz.func114, Tryz.ntmps114
    go_wp2_with fail
    go_ret2
    exact ⟨rfl, Below.refl _ _⟩
  have h1i : ¬ (n : Int) < 14 := by omega
  have hlt := at_lt hb.lt 10 4 (by decide)
  obtain ⟨b, off, rfl⟩ := byts_at hb (by omega)
  have hl4 : ((l.drop 10).take 4).length = 4 := by rw [List.length_take, List.length_drop]; omega
  have HTK := hid fun c => take4_any (c := c) hl4 ((hb.drop 10).take 4) (fun e => by cases e) (by decide)
  have HU := hid fun (w' : World) (q : Nat) (h : TkS w' q ⟨0, (l.drop 10).take 4, 0⟩) => (show Calls Tryz.prog 73 #[.pointer (some ⟨q, 0, none⟩), .int .i64 4] w' fun e w'' => e = .returned (.int .u64 (np l : Int)) ∧ Fr (fun b => b = q) w' w'' from (tku_ok h 4 (by decide) (by decide) (by omega)).mono fun e w'' h => ⟨by rw [h.1, List.take_of_length_le (by omega)]; rfl, h.2.2⟩)
  have hlt' : np l < 4294967296 := hlt
  clear hb hlt hl4 hn
  generalize np l = m at *
  by_cases h2 : 16777216 < m
  · have h2i : (16777216 : Int) < (m : Int) := by omega
    rw [HL.out, HE.out, if_neg h1, if_pos h2, if_neg (by decide)]
    clear HL HE h1
    go_enter Tryz.func114, Tryz.ntmps114
    go_wp2_with fail
    refine (HTK.out _).mono ?_
    rintro e w1 ⟨q, rfl, hq, hs1, hb1⟩
    have HS := hid hs1
    have HB := hid hb1
    have HQ := hid hq
    clear hs1 hb1 hq
    go_wp2_with fail
    refine (HU.out _ _ HS.out).mono ?_
    rintro e w2 ⟨rfl, hf2⟩
    have HF := hid (below_frq HB.out hf2 HQ.out HB.out.size)
    clear hf2
    go_wp2_with fail
    go_ret2
    exact ⟨rfl, HF.out⟩
  have h2i : ¬ (16777216 : Int) < (m : Int) := by omega
  have um : IntKind.i64.wrap (m : Int) = m := IntWalk.i64_in _ (by omega)
  have um2 : wrap64 (m : Int) = m := by unfold wrap64; omega
  have um3 : wrap64 ((m : Int) * 5) = (m : Int) * 5 := by unfold wrap64; omega
  have um4 : wrap64 (14 + (m : Int) * 5) = 14 + (m : Int) * 5 := by unfold wrap64; omega
  have um5 : wrap64 (14 + (m : Int) * 5 + 4) = 14 + (m : Int) * 5 + 4 := by unfold wrap64; omega
  by_cases h3 : n < 18 + 5 * m
  · have h3i : (n : Int) < 14 + (m : Int) * 5 + 4 := by omega
    rw [HL.out, HE.out, if_neg h1, if_neg h2, if_pos h3, if_neg (by decide)]
    clear HL HE h1 h2 h3
    go_enter Tryz.func114, Tryz.ntmps114
    go_wp2_with fail
    refine (HTK.out _).mono ?_
    rintro e w1 ⟨q, rfl, hq, hs1, hb1⟩
    have HS := hid hs1
    have HB := hid hb1
    have HQ := hid hq
    clear hs1 hb1 hq
    go_wp2_with fail
    refine (HU.out _ _ HS.out).mono ?_
    rintro e w2 ⟨rfl, hf2⟩
    have HF := hid (below_frq HB.out hf2 HQ.out HB.out.size)
    clear hf2
    go_wp2_with fail
    go_ret2
    exact ⟨rfl, HF.out⟩
  · have h3i : ¬ (n : Int) < 14 + (m : Int) * 5 + 4 := by omega
    rw [HL.out, HE.out, if_neg h1, if_neg h2, if_neg h3, if_pos rfl]
    clear HL HE h1 h2 h3
    go_enter Tryz.func114, Tryz.ntmps114
    go_wp2_with fail
    refine (HTK.out _).mono ?_
    rintro e w1 ⟨q, rfl, hq, hs1, hb1⟩
    have HS := hid hs1
    have HB := hid hb1
    have HQ := hid hq
    clear hs1 hb1 hq
    go_wp2_with fail
    refine (HU.out _ _ HS.out).mono ?_
    rintro e w2 ⟨rfl, hf2⟩
    have HF := hid (below_frq HB.out hf2 HQ.out HB.out.size)
    clear hf2
    go_wp2_with fail
    go_ret2
    refine ⟨?_, HF.out⟩
    show Ending.returned (.tuple #[.int .i64 (14 + (m : Int) * 5 + 4), .int .i64 0]) = _
    clear um um2 um3 um4 um5
    rw [show 14 + (m : Int) * 5 + 4 = ((18 + 5 * m : Nat) : Int) from by omega]
end Go.Proofs.YthjjonbkfkpkmaaGreatDoor.Tl
