/- Info's bytes; Put of the program. Conditions: a table in memory. -/
import Derived.Test.YthaikhnplbbdlaaNc
import Derived.Lib.SlBytesConst
namespace Go.Proofs.Ythaikhnplbbdlaa.Inf
open Go.RowKit Gen Fld
open Crc hiding hid

/-- The first bytes of a file. -/
def mk4 : List Nat := [68, 83, 67, 49]
/-- What stands ahead of the sum. -/
def ipre (i : If) : List Nat := mk4 ++ le i.k.toNat 1 ++ le i.f.ch.toNat 1 ++ le i.f.bits.toNat 1 ++ le i.sh.toNat 1 ++ le i.f.rate.toNat 3 ++ le i.bk.toNat 4
/-- Info's bytes. -/
def iby (i : If) : List Nat := smd (ipre i)
theorem ipre_len (i : If) : (ipre i).length = 15 := by unfold ipre mk4; simp only [List.length_append, le_len]; rfl
theorem iby_len (i : If) : (iby i).length = 19 := by unfold iby; rw [smd_len, ipre_len]
theorem app_lt {l m : List Nat} (hl : ∀ b ∈ l, b < 256) (hm : ∀ b ∈ m, b < 256) : ∀ b ∈ l ++ m, b < 256 := by
  intro b hb
  rcases List.mem_append.1 hb with hb | hb
  · exact hl b hb
  · exact hm b hb
theorem ipre_lt (i : If) : ∀ b ∈ ipre i, b < 256 :=
  app_lt (app_lt (app_lt (app_lt (app_lt (app_lt (by decide) (le_lt _ _)) (le_lt _ _)) (le_lt _ _)) (le_lt _ _)) (le_lt _ _)) (le_lt _ _)
theorem iby_lt (i : If) : ∀ b ∈ iby i, b < 256 := smd_lt (ipre_lt i)
theorem uerr_three (v : Nat) (h : v < 16777216) : uErr v 3 = 0 := by
  unfold uErr
  rw [if_neg (by omega), if_neg]
  have : (2 : Nat) ^ (8 * (3 : Int).toNat) = 16777216 := by decide
  omega
theorem St.twice {w1 wr : World} {l : List Nat} (h : St w1 l wr) (hl : l.length ≤ 1000) :
    Calls Try.prog 25 #[.pointer (some ⟨w1.heap.size, 0, none⟩)] wr fun e w' => ∃ ao cap, e = .returned (.tuple #[.slice ao l.length cap, .int .i64 0]) ∧ Byts w' ao l ∧ St w1 l w' := by
  obtain ⟨ao, cap, hm, hB⟩ := h
  have hlt := hm.lt
  refine (mbytes_ok hm (by show l.length ≤ _; omega)).mono ?_
  rintro e w' ⟨ao1, cap1, rfl, ho, hb⟩
  exact ⟨ao1, cap1, rfl, Byts.of_row hlt ho, ao, cap, hm.below hb, hB.trans (hb.mono hB.size)⟩
theorem byts_mark (w : World) : Byts (w.alloc (.cells #[.int .u8 68, .int .u8 83, .int .u8 67, .int .u8 49] 5 (4, 5))) (some ⟨w.heap.size, 0, none⟩) mk4 :=
  ⟨by decide,
   fun j x hj => by
    refine ⟨w.heap.size, 0, rfl, ?_⟩
    unfold mk4 at hj
    rcases j with _ | _ | _ | _ | j
    · simp at hj; subst hj; unfold World.cell?; rw [heap_alloc_new]; rfl
    · simp at hj; subst hj; unfold World.cell?; rw [heap_alloc_new]; rfl
    · simp at hj; subst hj; unfold World.cell?; rw [heap_alloc_new]; rfl
    · simp at hj; subst hj; unfold World.cell?; rw [heap_alloc_new]; rfl
    · simp at hj⟩
theorem put_nil (i : If) (w : World) : Calls Try.prog 9 #[.pointer none, iv i] w (PutP w 2 []) := by
  have hf : ∀ w', Below w.heap.size w w' → PutP w 2 [] (.returned (.tuple #[.slice none 0 0, .int .i64 2])) w' := fun _ h => putp_none 2 h
  have HF := hid hf
  clear hf
  obtain ⟨k, ⟨ch, bits, rate⟩, bk, sh⟩ := i
  change Calls Try.prog 9 #[.pointer none, .agg #[.int .i64 k, .int .i64 ch, .int .i64 bits, .int .i64 rate, .int .i64 bk, .int .i64 sh]] w _
  go_enter Try.func9, Try.ntmps9
  go_wp2_with fail
  go_ret2
  exact HF.out _ (below_new _ _)
theorem put_bad {w : World} {g : Nat} (i : If) (hr : ¬ Rt i) : Calls Try.prog 9 #[.pointer (some ⟨g, 0, none⟩), iv i] w (PutP w 32 []) := by
  have hf : ∀ w', Below w.heap.size w w' → PutP w 32 [] (.returned (.tuple #[.slice none 0 0, .int .i64 32])) w' := fun _ h => putp_none 32 h
  have HF := hid hf
  have HR := hid fun w => right_any i w
  rw [decide_eq_false hr] at HR
  clear hf hr
  obtain ⟨k, ⟨ch, bits, rate⟩, bk, sh⟩ := i
  change Calls Try.prog 9 #[.pointer (some ⟨g, 0, none⟩), .agg #[.int .i64 k, .int .i64 ch, .int .i64 bits, .int .i64 rate, .int .i64 bk, .int .i64 sh]] w _
  go_enter Try.func9, Try.ntmps9
  go_wp2_with fail
  refine (HR.out _).mono ?_
  rintro e w' ⟨rfl, hb⟩
  have hfin := (below_new w _).trans (hb.mono (below_new w _).size)
  clear hb
  go_wp2_with fail
  go_ret2
  exact HF.out _ hfin
theorem u64_small (n : Nat) (h : n < 4294967296) : IntKind.u64.wrap (n : Int) = n := by rw [u64_wrap]; unfold u64; omega
theorem conv_mark (w : World) : (convert 26 26 (.slice (some ⟨w.heap.size, 0, none⟩) 4 4)).run Try.prog (w.alloc (.cells #[.int .u8 68, .int .u8 83, .int .u8 67, .int .u8 49] 5)) = .ok (.slice (some ⟨w.heap.size, 0, none⟩) 4 4) (w.alloc (.cells #[.int .u8 68, .int .u8 83, .int .u8 67, .int .u8 49] 5 (4, 5))) :=
  Lib.run_convert_bytes_const (P := Try.prog) w 26 5 #[.int .u8 68, .int .u8 83, .int .u8 67, .int .u8 49] 4 4 Try.underlying26 Try.underlying5
/-- What is right, in numbers without a sign. -/
theorem rt_nat (i : If) (hr : Rt i) : ∃ k ch bits rate bk sh : Nat, i = ⟨(k : Int), ⟨(ch : Int), (bits : Int), (rate : Int)⟩, (bk : Int), (sh : Int)⟩ ∧ k < 256 ∧ ch < 256 ∧ bits < 256 ∧ rate < 16777216 ∧ bk < 4294967296 ∧ sh < 256 := by
  obtain ⟨k, ⟨ch, bits, rate⟩, bk, sh⟩ := i
  obtain ⟨hk, ⟨h1, h2, h3⟩, h4, h5⟩ := hr
  unfold Kd at hk; unfold Bk at h4; unfold Sh at h5
  simp only [] at hk h1 h2 h3 h4 h5
  have h6 : sh ≤ 3 := by split at h5 <;> omega
  obtain ⟨kn, rfl⟩ := Int.eq_ofNat_of_zero_le (show 0 ≤ k by omega)
  obtain ⟨cn, rfl⟩ := Int.eq_ofNat_of_zero_le (show 0 ≤ ch by omega)
  obtain ⟨bn, rfl⟩ := Int.eq_ofNat_of_zero_le (show 0 ≤ bits by omega)
  obtain ⟨rn, rfl⟩ := Int.eq_ofNat_of_zero_le (show 0 ≤ rate by omega)
  obtain ⟨kk, rfl⟩ := Int.eq_ofNat_of_zero_le (show 0 ≤ bk by omega)
  obtain ⟨sn, rfl⟩ := Int.eq_ofNat_of_zero_le h5.1
  exact ⟨kn, cn, bn, rn, kk, sn, rfl, by omega, by omega, by omega, by omega, by omega, by omega⟩
set_option maxHeartbeats 2000000 in
set_option maxRecDepth 100000 in
theorem put_ok {w : World} {g : Nat} (ht : Tab w g) (i : If) (hr : Rt i) : Calls Try.prog 9 #[.pointer (some ⟨g, 0, none⟩), iv i] w (PutP w 0 (iby i)) := by
  have HR := hid fun w => right_any i w
  rw [decide_eq_true hr] at HR
  obtain ⟨k, ch, bits, rate, bk, sh, rfl, lk, lch, lbi, lra, lbk, lsh⟩ := rt_nat i hr
  have HTB := hid ht
  clear hr ht
  have HP := hid (show iby ⟨(k : Int), ⟨(ch : Int), (bits : Int), (rate : Int)⟩, (bk : Int), (sh : Int)⟩ = smd ([] ++ mk4 ++ le k 1 ++ le ch 1 ++ le bits 1 ++ le sh 1 ++ le rate 3 ++ le bk 4) from rfl)
  change Calls Try.prog 9 #[.pointer (some ⟨g, 0, none⟩), .agg #[.int .i64 k, .int .i64 ch, .int .i64 bits, .int .i64 rate, .int .i64 bk, .int .i64 sh]] w _
  have HX0 := hid (Bx.new w ⟨(k : Int), ⟨(ch : Int), (bits : Int), (rate : Int)⟩, (bk : Int), (sh : Int)⟩)
  have L1 := hid (uerr_one k lk); have L2 := hid (uerr_one ch lch); have L3 := hid (uerr_one bits lbi); have L4 := hid (uerr_one sh lsh); have L5 := hid (uerr_three rate lra); have L6 := hid (uerr_zero bk lbk)
  have LT := hid (show k < 18446744073709551616 ∧ ch < 18446744073709551616 ∧ bits < 18446744073709551616 ∧ sh < 18446744073709551616 ∧ rate < 18446744073709551616 ∧ bk < 18446744073709551616 from by omega)
  have u1 : IntKind.u64.wrap (k : Int) = k := u64_small k (by omega)
  have u2 : IntKind.u64.wrap (ch : Int) = ch := u64_small ch (by omega)
  have u3 : IntKind.u64.wrap (bits : Int) = bits := u64_small bits (by omega)
  have u4 : IntKind.u64.wrap (sh : Int) = sh := u64_small sh (by omega)
  have u5 : IntKind.u64.wrap (rate : Int) = rate := u64_small rate (by omega)
  have u6 : IntKind.u64.wrap (bk : Int) = bk := u64_small bk (by omega)
  clear lk lch lbi lra lbk lsh
  go_enter Try.func9, Try.ntmps9
  go_wp2_with fail
  refine (HR.out _).mono ?_
  rintro e w1 ⟨rfl, hb⟩
  have hb1 : Below w.heap.size w w1 := (below_new w _).trans (hb.mono (below_new w _).size)
  have HX1 := hid (HX0.out.below hb HX0.out.lt)
  have HB1 := hid hb1
  clear hb hb1 HX0
  have hst := MkN.start w1
  have hb2 := below_new w1 (.cells #[.int .i64 0, .slice none 0 0] 50)
  obtain ⟨W2, hW2⟩ : ∃ W, w1.alloc (.cells #[.int .i64 0, .slice none 0 0] 50) = W := ⟨_, rfl⟩
  rw [hW2] at hst hb2
  have hby2 := byts_mark W2
  have hb3 := below_new W2 (.cells #[.int .u8 68, .int .u8 83, .int .u8 67, .int .u8 49] 5 (4, 5))
  have hst3 := St.below hst hb3
  have HBY := hid hby2
  have HST := hid hst3
  have hsz : W2.heap.size = w1.heap.size + 1 := by rw [← hW2]; exact Deep.nblk_alloc _ _
  clear hst hb2 hby2 hb3 hst3
  have hcv := conv_mark W2
  clear hsz
  go_wp2_with fail
  clear hW2 hcv
  refine (St.raw HST.out (m := mk4) rfl HBY.out (fun e => by cases e) (by decide)).mono ?_
  rintro e w3 ⟨rfl, hs3⟩
  have HS := hid (show St w1 ([] ++ mk4) w3 from hs3)
  clear hs3 HBY HST
  have HXA := hid (show Bx w3 w.heap.size ⟨(k : Int), ⟨(ch : Int), (bits : Int), (rate : Int)⟩, (bk : Int), (sh : Int)⟩ from by obtain ⟨_, _, _, hb⟩ := HS.out; exact HX1.out.below hb HX1.out.lt)
  have c0 := HXA.out.c0
  simp only [] at c0
  go_wp2_with fail
  refine (St.u HS.out k 1 LT.out.1 L1.out (by simp only [List.length_append]; decide)).mono ?_
  rintro e w4 ⟨rfl, hs⟩
  have HS := hid hs
  clear hs HXA c0
  have HXA := hid (show Bx w4 w.heap.size ⟨(k : Int), ⟨(ch : Int), (bits : Int), (rate : Int)⟩, (bk : Int), (sh : Int)⟩ from by obtain ⟨_, _, _, hb⟩ := HS.out; exact HX1.out.below hb HX1.out.lt)
  have c1 := HXA.out.c1
  simp only [] at c1
  go_wp2_with fail
  refine (St.u HS.out ch 1 LT.out.2.1 L2.out (by simp only [List.length_append, le_len]; decide)).mono ?_
  rintro e w5 ⟨rfl, hs⟩
  have HS := hid hs
  clear hs HXA c1
  have HXA := hid (show Bx w5 w.heap.size ⟨(k : Int), ⟨(ch : Int), (bits : Int), (rate : Int)⟩, (bk : Int), (sh : Int)⟩ from by obtain ⟨_, _, _, hb⟩ := HS.out; exact HX1.out.below hb HX1.out.lt)
  have c2 := HXA.out.c2
  simp only [] at c2
  go_wp2_with fail
  refine (St.u HS.out bits 1 LT.out.2.2.1 L3.out (by simp only [List.length_append, le_len]; decide)).mono ?_
  rintro e w6 ⟨rfl, hs⟩
  have HS := hid hs
  clear hs HXA c2
  have HXA := hid (show Bx w6 w.heap.size ⟨(k : Int), ⟨(ch : Int), (bits : Int), (rate : Int)⟩, (bk : Int), (sh : Int)⟩ from by obtain ⟨_, _, _, hb⟩ := HS.out; exact HX1.out.below hb HX1.out.lt)
  have c5 := HXA.out.c5
  simp only [] at c5
  go_wp2_with fail
  refine (St.u HS.out sh 1 LT.out.2.2.2.1 L4.out (by simp only [List.length_append, le_len]; decide)).mono ?_
  rintro e w7 ⟨rfl, hs⟩
  have HS := hid hs
  clear hs HXA c5
  have HXA := hid (show Bx w7 w.heap.size ⟨(k : Int), ⟨(ch : Int), (bits : Int), (rate : Int)⟩, (bk : Int), (sh : Int)⟩ from by obtain ⟨_, _, _, hb⟩ := HS.out; exact HX1.out.below hb HX1.out.lt)
  have c3 := HXA.out.c3
  simp only [] at c3
  go_wp2_with fail
  refine (St.u HS.out rate 3 LT.out.2.2.2.2.1 L5.out (by simp only [List.length_append, le_len]; decide)).mono ?_
  rintro e w8 ⟨rfl, hs⟩
  have HS := hid hs
  clear hs HXA c3
  have HXA := hid (show Bx w8 w.heap.size ⟨(k : Int), ⟨(ch : Int), (bits : Int), (rate : Int)⟩, (bk : Int), (sh : Int)⟩ from by obtain ⟨_, _, _, hb⟩ := HS.out; exact HX1.out.below hb HX1.out.lt)
  have c4 := HXA.out.c4
  simp only [] at c4
  go_wp2_with fail
  refine (St.u HS.out bk 4 LT.out.2.2.2.2.2 L6.out (by simp only [List.length_append, le_len]; decide)).mono ?_
  rintro e w9 ⟨rfl, hs⟩
  have HS := hid hs
  clear hs HXA c4
  have HLN := hid (show ([] ++ mk4 ++ le k 1 ++ le ch 1 ++ le bits 1 ++ le sh 1 ++ le rate 3 ++ le bk 4).length = 15 from ipre_len ⟨(k : Int), ⟨(ch : Int), (bits : Int), (rate : Int)⟩, (bk : Int), (sh : Int)⟩)
  have HLT := hid (show ∀ b ∈ ([] ++ mk4 ++ le k 1 ++ le ch 1 ++ le bits 1 ++ le sh 1 ++ le rate 3 ++ le bk 4), b < 256 from ipre_lt ⟨(k : Int), ⟨(ch : Int), (bits : Int), (rate : Int)⟩, (bk : Int), (sh : Int)⟩)
  generalize [] ++ mk4 ++ le k 1 ++ le ch 1 ++ le bits 1 ++ le sh 1 ++ le rate 3 ++ le bk 4 = l at *
  clear u1 u2 u3 u4 u5 u6
  go_wp2_with fail
  refine (St.twice HS.out (by have := HLN.out; omega)).mono ?_
  rintro e w10 ⟨ao, cap, rfl, hby, hs⟩
  have htb : Tab w10 g := HTB.out.keep (by obtain ⟨_, _, _, hb⟩ := hs; exact (hb.block g (Nat.lt_of_lt_of_le HTB.out.lt HB1.out.size)).trans (HB1.out.block g HTB.out.lt))
  have HTS := hid (tsum_any (cap := cap) htb hby (by have := HLN.out; omega))
  have HS := hid hs
  clear hby hs htb
  have HC := hid (cs_lt (l := l) HLT.out)
  go_wp2_with fail
  refine HTS.out.mono ?_
  rintro e w' ⟨rfl, rfl⟩
  have u7 : IntKind.u64.wrap (cs l : Int) = cs l := u64_small _ HC.out
  go_wp2_with fail
  refine (St.u HS.out (cs l) 4 (by have := HC.out; omega) (uerr_zero _ HC.out) (by have := HLN.out; omega)).mono ?_
  rintro e w11 ⟨rfl, hs⟩
  have HS := hid (show St w1 (smd l) w11 from hs)
  clear hs
  go_wp2_with fail
  refine (St.bytes HS.out (by rw [smd_len]; have := HLN.out; omega)).mono ?_
  rintro e w12 ⟨ao2, cap2, rfl, hn⟩
  have HN := hid hn
  clear hn
  go_wp2_with fail
  go_ret2
  rw [HP.out]
  exact ⟨ao2, cap2, rfl, own_mono HN.out.own HB1.out.size, HB1.out.trans (HN.out.bel.mono HB1.out.size), HN.out.lt⟩
end Go.Proofs.Ythaikhnplbbdlaa.Inf
