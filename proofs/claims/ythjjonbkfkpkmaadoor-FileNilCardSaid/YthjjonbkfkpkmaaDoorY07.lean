/- Info's bytes; Put of the program. Conditions: a table in memory. -/
import Derived.Test.YthjjonbkfkpkmaaDoorY06
import Derived.Lib.SlBytesConst
namespace Go.Proofs.YthjjonbkfkpkmaaDoor.Inf
open Go.RowKit Gen Fld
open Crc hiding hid

/-- The first bytes of a file. -/
def mk4 : List Nat := [68, 83, 67, 49]
/-- What stands ahead of the sum. -/
def ipre (i : If) : List Nat := mk4 ++ le i.k.toNat 1 ++ le i.f.ch.toNat 1 ++ le i.f.bits.toNat 1 ++ le i.sh.toNat 1 ++ le i.f.rate.toNat 3 ++ le i.bk.toNat 4
/-- Info's bytes. -/
def iby (i : If) : List Nat := smd (ipre i)
set_option maxRecDepth 100000 in
theorem ipre_len (i : If) : (ipre i).length = 15 := by unfold ipre mk4; simp only [List.length_append, le_len]; rfl
set_option maxRecDepth 100000 in
theorem iby_len (i : If) : (iby i).length = 19 := by unfold iby; rw [smd_len, ipre_len]
set_option maxRecDepth 100000 in
theorem app_lt {l m : List Nat} (hl : ∀ b ∈ l, b < 256) (hm : ∀ b ∈ m, b < 256) : ∀ b ∈ l ++ m, b < 256 := by
  intro b hb
  rcases List.mem_append.1 hb with hb | hb
  · exact hl b hb
  · exact hm b hb
set_option maxRecDepth 100000 in
theorem ipre_lt (i : If) : ∀ b ∈ ipre i, b < 256 :=
  app_lt (app_lt (app_lt (app_lt (app_lt (app_lt (by decide) (le_lt _ _)) (le_lt _ _)) (le_lt _ _)) (le_lt _ _)) (le_lt _ _)) (le_lt _ _)
set_option maxRecDepth 100000 in
theorem iby_lt (i : If) : ∀ b ∈ iby i, b < 256 := smd_lt (ipre_lt i)
set_option maxRecDepth 100000 in
theorem uerr_three (v : Nat) (h : v < 16777216) : uErr v 3 = 0 := by
  unfold uErr
  rw [if_neg (by omega), if_neg]
  have : (2 : Nat) ^ (8 * (3 : Int).toNat) = 16777216 := by decide
  omega
set_option maxRecDepth 100000 in
theorem St.twice {w1 wr : World} {l : List Nat} (h : St w1 l wr) (hl : l.length ≤ 1000) :
    Calls Tryd.prog 30 #[.pointer (some ⟨w1.heap.size, 0, none⟩)] wr fun e w' => ∃ ao cap, e = .returned (.tuple #[.slice ao l.length cap, .int .i64 0]) ∧ Byts w' ao l ∧ St w1 l w' := by
  obtain ⟨ao, cap, hm, hB⟩ := h
  have hlt := hm.lt
  refine (mbytes_ok hm (by show l.length ≤ _; omega)).mono ?_
  rintro e w' ⟨ao1, cap1, rfl, ho, hb⟩
  exact ⟨ao1, cap1, rfl, Byts.of_row hlt ho, ao, cap, hm.below hb, hB.trans (hb.mono hB.size)⟩
set_option maxRecDepth 100000 in
theorem byts_mark (w : World) : Byts (w.alloc (.cells #[.int .u8 68, .int .u8 83, .int .u8 67, .int .u8 49] 5 (4, 5))) (some ⟨w.heap.size, 0, none⟩) mk4 :=
  ⟨by decide,
   fun j x hj => by
    refine ⟨w.heap.size, 0, rfl, ?_⟩
    unfold mk4 at hj
    rcases j with _ | _ | _ | _ | j
    · simp at hj; subst hj; unfold World.cell?; rw [heap_alloc_new]; rfl
    · simp at hj; subst hj; unfold World.cell?; rw [heap_alloc_new]; rfl
    · simp at hj; subst hj; unfold World.cell?; rw [heap_alloc_new]; rfl
    · simp at hj; subst hj; unfold World.cell?; rw [heap_alloc_new]; rfl
    · simp at hj⟩
set_option maxRecDepth 100000 in
theorem put_nil (i : If) (w : World) : Calls Tryd.prog 14 #[.pointer none, iv i] w (PutP w 2 []) := by
  have hf : ∀ w', Below w.heap.size w w' → PutP w 2 [] (.returned (.tuple #[.slice none 0 0, .int .i64 2])) w' := fun _ h => putp_none 2 h
  have HF := hid hf
  clear hf
  obtain ⟨k, ⟨ch, bits, rate⟩, bk, sh⟩ := i
  change Calls Tryd.prog 14 #[.pointer none, .agg #[.int .i64 k, .int .i64 ch, .int .i64 bits, .int .i64 rate, .int .i64 bk, .int .i64 sh]] w _
  go_enter Tryd.func14, Tryd.ntmps14
  go_wp2_with fail
  go_ret2
  exact HF.out _ (below_new _ _)
set_option maxRecDepth 100000 in
theorem put_bad {w : World} {g : Nat} (i : If) (hr : ¬ Rt i) : Calls Tryd.prog 14 #[.pointer (some ⟨g, 0, none⟩), iv i] w (PutP w 32 []) := by
  have hf : ∀ w', Below w.heap.size w w' → PutP w 32 [] (.returned (.tuple #[.slice none 0 0, .int .i64 32])) w' := fun _ h => putp_none 32 h
  have HF := hid hf
  have HR := hid fun w => right_any i w
  rw [decide_eq_false hr] at HR
  clear hf hr
  obtain ⟨k, ⟨ch, bits, rate⟩, bk, sh⟩ := i
  change Calls Tryd.prog 14 #[.pointer (some ⟨g, 0, none⟩), .agg #[.int .i64 k, .int .i64 ch, .int .i64 bits, .int .i64 rate, .int .i64 bk, .int .i64 sh]] w _
  go_enter Tryd.func14, Tryd.ntmps14
  go_wp2_with fail
  refine (HR.out _).mono ?_
  rintro e w' ⟨rfl, hb⟩
  have hfin := (below_new w _).trans (hb.mono (below_new w _).size)
  clear hb
  go_wp2_with fail
  go_ret2
  exact HF.out _ hfin
set_option maxRecDepth 100000 in
theorem u64_small (n : Nat) (h : n < 4294967296) : IntKind.u64.wrap (n : Int) = n := by rw [u64_wrap]; unfold u64; omega
set_option maxRecDepth 100000 in
theorem conv_mark (w : World) : (convert 28 28 (.slice (some ⟨w.heap.size, 0, none⟩) 4 4)).run Tryd.prog (w.alloc (.cells #[.int .u8 68, .int .u8 83, .int .u8 67, .int .u8 49] 5)) = .ok (.slice (some ⟨w.heap.size, 0, none⟩) 4 4) (w.alloc (.cells #[.int .u8 68, .int .u8 83, .int .u8 67, .int .u8 49] 5 (4, 5))) :=
  Lib.run_convert_bytes_const (P := Tryd.prog) w 28 5 #[.int .u8 68, .int .u8 83, .int .u8 67, .int .u8 49] 4 4 Tryd.underlying28 Tryd.underlying5
set_option maxRecDepth 100000 in
/-- What is right, in numbers without a sign. -/
theorem rt_nat (i : If) (hr : Rt i) : ∃ k ch bits rate bk sh : Nat, i = ⟨(k : Int), ⟨(ch : Int), (bits : Int), (rate : Int)⟩, (bk : Int), (sh : Int)⟩ ∧ k < 256 ∧ ch < 256 ∧ bits < 256 ∧ rate < 16777216 ∧ bk < 4294967296 ∧ sh < 256 := by
  obtain ⟨k, ⟨ch, bits, rate⟩, bk, sh⟩ := i
  obtain ⟨hk, ⟨h1, h2, h3⟩, h4, h5⟩ := hr
  unfold Kd at hk; unfold Bk at h4; unfold Sh at h5
  simp only [] at hk h1 h2 h3 h4 h5
  have h6 : sh ≤ 3 := by split at h5 <;> omega
  obtain ⟨kn, rfl⟩ := Int.eq_ofNat_of_zero_le (show 0 ≤ k by omega)
  obtain ⟨cn, rfl⟩ := Int.eq_ofNat_of_zero_le (show 0 ≤ ch by omega)
  obtain ⟨bn, rfl⟩ := Int.eq_ofNat_of_zero_le (show 0 ≤ bits by omega)
  obtain ⟨rn, rfl⟩ := Int.eq_ofNat_of_zero_le (show 0 ≤ rate by omega)
  obtain ⟨kk, rfl⟩ := Int.eq_ofNat_of_zero_le (show 0 ≤ bk by omega)
  obtain ⟨sn, rfl⟩ := Int.eq_ofNat_of_zero_le h5.1
  exact ⟨kn, cn, bn, rn, kk, sn, rfl, by omega, by omega, by omega, by omega, by omega, by omega⟩
set_option maxHeartbeats 2000000 in
set_option maxRecDepth 100000 in
theorem put_ok {w : World} {g : Nat} (ht : Tab w g) (i : If) (hr : Rt i) : Calls Tryd.prog 14 #[.pointer (some ⟨g, 0, none⟩), iv i] w (PutP w 0 (iby i)) := by
  have HR := hid fun w => right_any i w
  rw [decide_eq_true hr] at HR
  obtain ⟨k, ch, bits, rate, bk, sh, rfl, lk, lch, lbi, lra, lbk, lsh⟩ := rt_nat i hr
  have HTB := hid ht
  clear hr ht
  have HP := hid (show iby ⟨(k : Int), ⟨(ch : Int), (bits : Int), (rate : Int)⟩, (bk : Int), (sh : Int)⟩ = smd ([] ++ mk4 ++ le k 1 ++ le ch 1 ++ le bits 1 ++ le sh 1 ++ le rate 3 ++ le bk 4) from rfl)
  change Calls Tryd.prog 14 #[.pointer (some ⟨g, 0, none⟩), .agg #[.int .i64 k, .int .i64 ch, .int .i64 bits, .int .i64 rate, .int .i64 bk, .int .i64 sh]] w _
  have HX0 := hid (Bx.new w ⟨(k : Int), ⟨(ch : Int), (bits : Int), (rate : Int)⟩, (bk : Int), (sh : Int)⟩)
  have L1 := hid (uerr_one k lk); have L2 := hid (uerr_one ch lch); have L3 := hid (uerr_one bits lbi); have L4 := hid (uerr_one sh lsh); have L5 := hid (uerr_three rate lra); have L6 := hid (uerr_zero bk lbk)
  have LT := hid (show k < 18446744073709551616 ∧ ch < 18446744073709551616 ∧ bits < 18446744073709551616 ∧ sh < 18446744073709551616 ∧ rate < 18446744073709551616 ∧ bk < 18446744073709551616 from by omega)
  have u1 : IntKind.u64.wrap (k : Int) = k := u64_small k (by omega)
  have u2 : IntKind.u64.wrap (ch : Int) = ch := u64_small ch (by omega)
  have u3 : IntKind.u64.wrap (bits : Int) = bits := u64_small bits (by omega)
  have u4 : IntKind.u64.wrap (sh : Int) = sh := u64_small sh (by omega)
  have u5 : IntKind.u64.wrap (rate : Int) = rate := u64_small rate (by omega)
  have u6 : IntKind.u64.wrap (bk : Int) = bk := u64_small bk (by omega)
  clear lk lch lbi lra lbk lsh
  go_enter Tryd.func14, Tryd.ntmps14
  go_wp2_with fail
  refine (HR.out _).mono ?_
  rintro e w1 ⟨rfl, hb⟩
  have hb1 : Below w.heap.size w w1 := (below_new w _).trans (hb.mono (below_new w _).size)
  have HX1 := hid (HX0.out.below hb HX0.out.lt)
  have HB1 := hid hb1
  clear hb hb1 HX0
  have hst := MkN.start w1
  have hb2 := below_new w1 (.cells #[.int .i64 0, .slice none 0 0] 93)
  obtain ⟨W2, hW2⟩ : ∃ W, w1.alloc (.cells #[.int .i64 0, .slice none 0 0] 93) = W := ⟨_, rfl⟩
  rw [hW2] at hst hb2
  have hby2 := byts_mark W2
  have hb3 := below_new W2 (.cells #[.int .u8 68, .int .u8 83, .int .u8 67, .int .u8 49] 5 (4, 5))
  have hst3 := St.below hst hb3
  have HBY := hid hby2
  have HST := hid hst3
  have hsz : W2.heap.size = w1.heap.size + 1 := by rw [← hW2]; exact Deep.nblk_alloc _ _
  clear hst hb2 hby2 hb3 hst3
  have hcv := conv_mark W2
  clear hsz
  go_wp2_with fail
  clear hW2 hcv
  refine (St.raw HST.out (m := mk4) rfl HBY.out (fun e => by cases e) (by decide)).mono ?_
  rintro e w3 ⟨rfl, hs3⟩
  have HS := hid (show St w1 ([] ++ mk4) w3 from hs3)
  clear hs3 HBY HST
  have HXA := hid (show Bx w3 w.heap.size ⟨(k : Int), ⟨(ch : Int), (bits : Int), (rate : Int)⟩, (bk : Int), (sh : Int)⟩ from by obtain ⟨_, _, _, hb⟩ := HS.out; exact HX1.out.below hb HX1.out.lt)
  have c0 := HXA.out.c0
  simp only [] at c0
  go_wp2_with fail
  refine (St.u HS.out k 1 LT.out.1 L1.out (by simp only [List.length_append]; decide)).mono ?_
  rintro e w4 ⟨rfl, hs⟩
  have HS := hid hs
  clear hs HXA c0
  have HXA := hid (show Bx w4 w.heap.size ⟨(k : Int), ⟨(ch : Int), (bits : Int), (rate : Int)⟩, (bk : Int), (sh : Int)⟩ from by obtain ⟨_, _, _, hb⟩ := HS.out; exact HX1.out.below hb HX1.out.lt)
  have c1 := HXA.out.c1
  simp only [] at c1
  go_wp2_with fail
  refine (St.u HS.out ch 1 LT.out.2.1 L2.out (by simp only [List.length_append, le_len]; decide)).mono ?_
  rintro e w5 ⟨rfl, hs⟩
  have HS := hid hs
  clear hs HXA c1
  have HXA := hid (show Bx w5 w.heap.size ⟨(k : Int), ⟨(ch : Int), (bits : Int), (rate : Int)⟩, (bk : Int), (sh : Int)⟩ from by obtain ⟨_, _, _, hb⟩ := HS.out; exact HX1.out.below hb HX1.out.lt)
  have c2 := HXA.out.c2
  simp only [] at c2
  go_wp2_with fail
  refine (St.u HS.out bits 1 LT.out.2.2.1 L3.out (by simp only [List.length_append, le_len]; decide)).mono ?_
  rintro e w6 ⟨rfl, hs⟩
  have HS := hid hs
  clear hs HXA c2
  have HXA := hid (show Bx w6 w.heap.size ⟨(k : Int), ⟨(ch : Int), (bits : Int), (rate : Int)⟩, (bk : Int), (sh : Int)⟩ from by obtain ⟨_, _, _, hb⟩ := HS.out; exact HX1.out.below hb HX1.out.lt)
  have c5 := HXA.out.c5
  simp only [] at c5
  go_wp2_with fail
  refine (St.u HS.out sh 1 LT.out.2.2.2.1 L4.out (by simp only [List.length_append, le_len]; decide)).mono ?_
  rintro e w7 ⟨rfl, hs⟩
  have HS := hid hs
  clear hs HXA c5
  have HXA := hid (show Bx w7 w.heap.size ⟨(k : Int), ⟨(ch : Int), (bits : Int), (rate : Int)⟩, (bk : Int), (sh : Int)⟩ from by obtain ⟨_, _, _, hb⟩ := HS.out; exact HX1.out.below hb HX1.out.lt)
  have c3 := HXA.out.c3
  simp only [] at c3
  go_wp2_with fail
  refine (St.u HS.out rate 3 LT.out.2.2.2.2.1 L5.out (by simp only [List.length_append, le_len]; decide)).mono ?_
  rintro e w8 ⟨rfl, hs⟩
  have HS := hid hs
  clear hs HXA c3
  have HXA := hid (show Bx w8 w.heap.size ⟨(k : Int), ⟨(ch : Int), (bits : Int), (rate : Int)⟩, (bk : Int), (sh : Int)⟩ from by obtain ⟨_, _, _, hb⟩ := HS.out; exact HX1.out.below hb HX1.out.lt)
  have c4 := HXA.out.c4
  simp only [] at c4
  go_wp2_with fail
  refine (St.u HS.out bk 4 LT.out.2.2.2.2.2 L6.out (by simp only [List.length_append, le_len]; decide)).mono ?_
  rintro e w9 ⟨rfl, hs⟩
  have HS := hid hs
  clear hs HXA c4
  have HLN := hid (show ([] ++ mk4 ++ le k 1 ++ le ch 1 ++ le bits 1 ++ le sh 1 ++ le rate 3 ++ le bk 4).length = 15 from ipre_len ⟨(k : Int), ⟨(ch : Int), (bits : Int), (rate : Int)⟩, (bk : Int), (sh : Int)⟩)
  have HLT := hid (show ∀ b ∈ ([] ++ mk4 ++ le k 1 ++ le ch 1 ++ le bits 1 ++ le sh 1 ++ le rate 3 ++ le bk 4), b < 256 from ipre_lt ⟨(k : Int), ⟨(ch : Int), (bits : Int), (rate : Int)⟩, (bk : Int), (sh : Int)⟩)
  generalize [] ++ mk4 ++ le k 1 ++ le ch 1 ++ le bits 1 ++ le sh 1 ++ le rate 3 ++ le bk 4 = l at *
  clear u1 u2 u3 u4 u5 u6
  go_wp2_with fail
  refine (St.twice HS.out (by have := HLN.out; omega)).mono ?_
  rintro e w10 ⟨ao, cap, rfl, hby, hs⟩
  have htb : Tab w10 g := HTB.out.keep (by obtain ⟨_, _, _, hb⟩ := hs; exact (hb.block g (Nat.lt_of_lt_of_le HTB.out.lt HB1.out.size)).trans (HB1.out.block g HTB.out.lt))
  have HTS := hid (tsum_any (cap := cap) htb hby (by have := HLN.out; omega))
  have HS := hid hs
  clear hby hs htb
  have HC := hid (cs_lt (l := l) HLT.out)
  go_wp2_with fail
  refine HTS.out.mono ?_
  rintro e w' ⟨rfl, rfl⟩
  have u7 : IntKind.u64.wrap (cs l : Int) = cs l := u64_small _ HC.out
  go_wp2_with fail
  refine (St.u HS.out (cs l) 4 (by have := HC.out; omega) (uerr_zero _ HC.out) (by have := HLN.out; omega)).mono ?_
  rintro e w11 ⟨rfl, hs⟩
  have HS := hid (show St w1 (smd l) w11 from hs)
  clear hs
  go_wp2_with fail
  refine (St.bytes HS.out (by rw [smd_len]; have := HLN.out; omega)).mono ?_
  rintro e w12 ⟨ao2, cap2, rfl, hn⟩
  have HN := hid hn
  clear hn
  go_wp2_with fail
  go_ret2
  rw [HP.out]
  exact ⟨ao2, cap2, rfl, own_mono HN.out.own HB1.out.size, HB1.out.trans (HN.out.bel.mono HB1.out.size), HN.out.lt⟩
end Go.Proofs.YthjjonbkfkpkmaaDoor.Inf
namespace Go.Proofs.YthjjonbkfkpkmaaDoor.Inf
open Go.RowKit Gen Fld
open Crc hiding hid

set_option maxRecDepth 100000 in
theorem le_one (v : Nat) (h : v < 256) : le v 1 = [v] := by
  show [] ++ [v / 2 ^ (8 * 0) % 256] = [v]
  rw [Nat.mul_zero, Nat.pow_zero, Nat.div_one, Nat.mod_eq_of_lt h]; rfl
def LP (w : World) (l : List Nat) (e : Ending) (w' : World) : Prop := ∃ ao cap, e = .returned (.slice ao l.length cap) ∧ NL w ao cap l w'
set_option maxRecDepth 100000 in
theorem u8_small (n : Nat) (h : n < 256) : IntKind.u8.wrap (n : Int) = n := by rw [wrap_u8n]; omega
end Go.Proofs.YthjjonbkfkpkmaaDoor.Inf
namespace Go.Proofs.YthjjonbkfkpkmaaDoor.Inf
open Go.RowKit Gen Fld
open Crc hiding hid

set_option maxRecDepth 100000 in
theorem u8_beq {l m : List Nat} (hl : ∀ b ∈ l, b < 256) (hm : ∀ b ∈ m, b < 256) : (l.map UInt8.ofNat == m.map UInt8.ofNat) = decide (l = m) := by
  rw [← toList_tos, ← toList_tos]; exact tos_beq hl hm
set_option maxRecDepth 100000 in
theorem take4_any {w : World} {a : Option Addr} {l : List Nat} {n c : Nat} (hn : l.length = n) (hb : Byts w a l) (hz : a = none → l.length = 0 ∧ c = 0) (hlen : n ≤ 549755813888) :
    Calls Tryd.prog 42 #[.slice a n c] w fun e w' => ∃ q, e = .returned (.pointer (some ⟨q, 0, none⟩)) ∧ w.heap.size ≤ q ∧ TkS w' q ⟨0, l, 0⟩ ∧ Below w.heap.size w w' := by
  subst hn; exact take_any hb hz hlen
set_option maxRecDepth 100000 in
theorem tku_ok {w : World} {q : Nat} {l : List Nat} {p : Nat} (h : TkS w q ⟨0, l, p⟩) (n : Nat) (h1 : 1 ≤ n) (h8 : n ≤ 8) (hl : n ≤ l.length) :
    Calls Tryd.prog 45 #[.pointer (some ⟨q, 0, none⟩), .int .i64 (n : Int)] w (Took w q ⟨0, l.drop n, p + n⟩ (.int .u64 (lev (l.take n) : Int))) := by
  have e := nx_ok (s := ⟨0, l, p⟩) (k := n) (f := true) rfl (fun _ => ⟨h1, h8⟩) hl
  have := tku_any h (n : Int)
  rw [e] at this
  exact this
set_option maxRecDepth 100000 in
theorem took_below {w w' W : World} {q : Nat} {s : TS} {v : Value} {e : Ending} (h : Took w q s v e w') (hw : Below W.heap.size W w) (hq : W.heap.size ≤ q) : Below W.heap.size W w' :=
  hw.trans ⟨h.2.2.os, h.2.2.tape, h.2.2.output, h.2.2.size, fun k hk => h.2.2.block k (Nat.lt_of_lt_of_le hk hw.size) (by omega)⟩
set_option maxRecDepth 100000 in
theorem lev4 {l : List Nat} (h : ∀ b ∈ l, b < 256) (hl : l.length = 4) : lev l < 4294967296 := by
  have := lev_lt l h
  rw [hl] at this
  exact this
set_option maxRecDepth 100000 in
theorem byts_at {w : World} {a : Option Addr} {l : List Nat} (h : Byts w a l) (hl : 0 < l.length) : ∃ b off, a = some ⟨b, off, none⟩ := by
  obtain ⟨b, off, e, _⟩ := h.at_ 0 l[0] (List.getElem?_eq_getElem hl)
  exact ⟨b, off, e⟩
set_option maxRecDepth 100000 in
theorem i64_small (n : Nat) (h : n < 4294967296) : wrap64 (n : Int) = n := by unfold wrap64; omega
set_option maxRecDepth 100000 in
theorem alloc2_old (w : World) (o1 o2 : Obj) : ((w.alloc o1).alloc o2).heap[w.heap.size]? = some o1 := by
  rw [Deep.blk_alloc_lt _ _ _ (by rw [Deep.nblk_alloc]; omega)]
  exact heap_alloc_new _ _
set_option maxRecDepth 100000 in
theorem row_cell {w : World} {g : Nat} {t : TypeId} {c : Array Value} (h : w.heap[g]? = some (.cells c t (0, 0))) (i : Nat) {v : Value} (hv : c[i]? = some v) : w.cell? ⟨g, i, none⟩ = some v := by
  unfold World.cell?
  rw [h]
  exact hv
set_option maxRecDepth 100000 in
theorem row_frozen {w : World} {g : Nat} {t : TypeId} {c : Array Value} (h : w.heap[g]? = some (.cells c t (0, 0))) (i : Nat) : w.frozen? ⟨g, i, none⟩ = false := by
  have hr : w.rowIs g t c.size (fun i => c.getD i undef) := ⟨c, h, rfl, fun i hi => by simp [hi]⟩
  exact hr.frozen i
set_option maxRecDepth 100000 in
theorem fr_setNew {X : Nat → Prop} {w w' : World} (h : Fr X w w') {p : Addr} (hp : w.heap.size ≤ p.block) {u : Value} : Fr X w (w'.setCell p u) :=
  ⟨h.os, h.tape, h.output, by simpa using h.size, fun k hk hx => (heap_setCell_other _ _ _ _ (by omega)).trans (h.block k hk hx)⟩
set_option maxRecDepth 100000 in
theorem fr_setRowNew {X : Nat → Prop} {w w' : World} (h : Fr X w w') {g : Nat} (hp : w.heap.size ≤ g) {c : Array Value} : Fr X w (w'.setRow g c) :=
  ⟨h.os, h.tape, h.output, by simpa using h.size, fun k hk hx => (setRow_other _ _ _ _ (by omega)).trans (h.block k hk hx)⟩
set_option maxRecDepth 100000 in
theorem tks_other {w w' : World} {q : Nat} {s : TS} (h : TkS w q s) {g : Nat} (hf : Fr (fun b => b = g) w w') (hg : q < g) : TkS w' q s := by
  obtain ⟨a, cap, ht, h1, h2⟩ := h
  exact ⟨a, cap, ht.keep hf (by omega) (fun b off e hx => by obtain ⟨b', off', e1, e2, e3⟩ := ht.spot _ e; cases e1; omega), h1, h2⟩
set_option maxRecDepth 100000 in
theorem fr_setRow (w : World) (g : Nat) (cs : Array Value) : Fr (fun b => b = g) w (w.setRow g cs) :=
  ⟨rfl, rfl, rfl, by rw [size_setRow]; exact Nat.le_refl _, fun k _ hk => setRow_other w g k cs hk⟩
set_option maxRecDepth 100000 in
theorem res_ct {P : Program} {fn : Func} {p u : Tmp} {ty : TypeId} (h : fn.results = #[.cell p ty, .tmp u]) (tmps : Array Value) (w : World) (g : Nat) (t : TypeId) (cs : Array Value) (fr : Nat × Nat) (d : TypeDesc)
    (hp : tmps.getD p undef = .pointer (some ⟨g, 0, none⟩)) (hg : w.heap[g]? = some (.cells cs t fr))
    (hu : P.underlying ty = some d) (hd : (match d with | .struct _ | .array _ _ => true | _ => false) = true) (hi : (P.info? ty).map (·.size) = some cs.size) {v : Value} (hv : tmps.getD u undef = v) :
    (results fn tmps).run P w = .ok (.tuple #[.agg cs, v]) w := by
  have hp' : tmps[p]?.getD undef = .pointer (some ⟨g, 0, none⟩) := by simpa using hp
  have hv' : tmps[u]?.getD undef = v := by simpa using hv
  simp only [results, h]
  simp [Result.andThen, hp', hv', asAddr, run_loadVar_row w g t ty cs fr d hg hu hd hi]
set_option maxRecDepth 100000 in
theorem byte_lev {l : List Nat} (h : ∀ b ∈ l, b < 256) (n : Nat) : lev ((l.drop n).take 1) < 256 := by
  have h1 := lev_lt ((l.drop n).take 1) (fun b hb => h b (List.mem_of_mem_drop (List.mem_of_mem_take hb)))
  have h2 : ((l.drop n).take 1).length ≤ 1 := by rw [List.length_take]; omega
  have h3 : 2 ^ (8 * ((l.drop n).take 1).length) ≤ 2 ^ 8 := Nat.pow_le_pow_right (by decide) (by omega)
  have : (2 : Nat) ^ 8 = 256 := by decide
  omega
set_option maxRecDepth 100000 in
theorem fr_rowBelow {B g : Nat} {w w' : World} {cs : Array Value} (h : Below B w w') (hg : B ≤ g) : Below B w (w'.setRow g cs) :=
  ⟨h.os, h.tape, h.output, by rw [size_setRow]; exact h.size, fun k hk => (setRow_other w' g k cs (by omega)).trans (h.block k hk)⟩
set_option maxRecDepth 100000 in
theorem lev_drop (l : List Nat) (i : Nat) {x : Nat} (h : l[i]? = some x) : lev (l.drop i) = x + 256 * lev (l.drop (i + 1)) := by
  have hi : i < l.length := by
    rcases Nat.lt_or_ge i l.length with h' | h'
    · exact h'
    · rw [List.getElem?_eq_none h'] at h; cases h
  rw [List.drop_eq_getElem_cons hi]
  rw [List.getElem?_eq_getElem hi] at h
  cases h
  rfl
/-- Bytes begin as a file, as far as there are some. -/
def Bgn (l : List Nat) : Prop := l.take 4 = mk4.take l.length
instance (l : List Nat) : Decidable (Bgn l) := by unfold Bgn; exact inferInstance
set_option maxRecDepth 100000 in
theorem bgn_beq {l : List Nat} (hb : ∀ b ∈ l, b < 256) (m : Nat) (hm : m = min 4 l.length) : ((tos (l.take 4)).toList == (({ data := #[68, 83, 67, 49] } : ByteArray).extract 0 m).toList) = decide (Bgn l) := by
  have e : (({ data := #[68, 83, 67, 49] } : ByteArray).extract 0 m).toList = (mk4.take m).map UInt8.ofNat := by
    have h4 : m ≤ 4 := by omega
    have hx : m = 0 ∨ m = 1 ∨ m = 2 ∨ m = 3 ∨ m = 4 := by omega
    rcases hx with rfl | rfl | rfl | rfl | rfl <;> (rw [ByteArray.toList_eq]; decide)
  rw [e, toList_tos, u8_beq (fun b h => hb b (List.mem_of_mem_take h)) (fun b h => (by decide : ∀ b ∈ mk4, b < 256) b (List.mem_of_mem_take h))]
  refine decide_eq_decide.2 ?_
  unfold Bgn
  have e2 : mk4.take m = mk4.take l.length := by
    subst hm
    rcases Nat.le_total 4 l.length with h | h
    · rw [Nat.min_eq_left h, List.take_of_length_le (l := mk4) (i := 4) (by decide), List.take_of_length_le (by exact h)]
    · rw [Nat.min_eq_right h]
  rw [e2]
set_option maxRecDepth 100000 in
theorem begins_any {w : World} {a : Option Addr} {cap : Nat} {l : List Nat} (hb : Byts w a l) (hc : l.length ≤ cap) (hm : l.length ≤ 1099511627776) : Calls Tryd.prog 41 #[.slice a l.length cap] w fun e w' => e = .returned (.bool (decide (Bgn l))) ∧ w = w' := by
  have HQ := hid (bgn_beq hb.lt (min 4 l.length) rfl)
  have hcv := (hb.take 4).conv cap
  have hs : (tos (l.take 4)).size = min 4 l.length := by rw [tos_size, List.length_take]
  rw [List.length_take] at hcv
  have htl : l.length = 0 → (tos (l.take 4)).toList = [] := fun h => by rw [toList_tos, List.eq_nil_of_length_eq_zero h]; rfl
  have HTL := hid htl
  clear htl
  generalize hn : l.length = n at *
  generalize decide (Bgn l) = b at *
  generalize tos (l.take 4) = t at *
  clear hb hn
  by_cases h0 : n = 0
  · subst h0
    rw [show min 4 0 = 0 from by decide] at HQ hcv hs
    go_enter Tryd.func41, Tryd.ntmps41
    go_wp2_with fail
    go_ret
    have em : (({ data := #[68, 83, 67, 49] } : ByteArray).extract 0 0).toList = [] := by rw [ByteArray.toList_eq]; decide
    have ht := HTL.out trivial
    exact ⟨by rw [← HQ.out, em, ht]; rfl, rfl⟩
  by_cases h1 : n = 1
  · subst h1
    rw [show min 4 1 = 1 from by decide] at HQ hcv hs
    go_enter Tryd.func41, Tryd.ntmps41
    go_wp2_with fail
    go_ret
    exact ⟨by rw [← HQ.out]; rfl, rfl⟩
  by_cases h2 : n = 2
  · subst h2
    rw [show min 4 2 = 2 from by decide] at HQ hcv hs
    go_enter Tryd.func41, Tryd.ntmps41
    go_wp2_with fail
    go_ret
    exact ⟨by rw [← HQ.out]; rfl, rfl⟩
  by_cases h3 : n = 3
  · subst h3
    rw [show min 4 3 = 3 from by decide] at HQ hcv hs
    go_enter Tryd.func41, Tryd.ntmps41
    go_wp2_with fail
    go_ret
    exact ⟨by rw [← HQ.out]; rfl, rfl⟩
  by_cases h4 : n = 4
  · subst h4
    rw [show min 4 4 = 4 from by decide] at HQ hcv hs
    go_enter Tryd.func41, Tryd.ntmps41
    go_wp2_with fail
    go_ret
    exact ⟨by rw [← HQ.out]; rfl, rfl⟩
  have hmn : min 4 n = 4 := by omega
  rw [hmn] at HQ hcv hs
  have h5 : ¬ (n : Int) ≤ 4 := by omega
  have h6 : ¬ (n : Int) < 4 := by omega
  have h7 : 4 ≤ cap := by omega
  clear h0 h1 h2 h3 h4 hmn
  go_enter Tryd.func41, Tryd.ntmps41
  go_wp2_with fail
  go_ret
  exact ⟨by rw [← HQ.out]; rfl, rfl⟩
end Go.Proofs.YthjjonbkfkpkmaaDoor.Inf
namespace Go.Proofs.YthjjonbkfkpkmaaDoor.Inf
open Go.RowKit Gen Fld
open Crc hiding hid

/-- The number of so many bytes at a place. -/
def at_ (l : List Nat) (j n : Nat) : Nat := lev ((l.drop j).take n)
/-- The info that bytes say. -/
def inl (l : List Nat) : If := ⟨(at_ l 4 1 : Int), ⟨(at_ l 5 1 : Int), (at_ l 6 1 : Int), (at_ l 8 3 : Int)⟩, (at_ l 11 4 : Int), (at_ l 7 1 : Int)⟩
def iz : If := ⟨0, ⟨0, 0, 0⟩, 0, 0⟩
set_option maxRecDepth 100000 in
theorem Tryd.size25 : (Tryd.prog.info? 25).map (·.size) = some 6 := by kernel_rfl
set_option maxRecDepth 100000 in
theorem ivl_size (i : If) : (Tryd.prog.info? 25).map (·.size) = some (ivl i).size := Tryd.size25
set_option maxRecDepth 100000 in
theorem ivl_one (i : If) : (ivl i).all (·.oneCell') = true := by simp [ivl, Value.oneCell']
set_option maxRecDepth 100000 in
theorem at_lt {l : List Nat} (h : ∀ b ∈ l, b < 256) (j n : Nat) (hn : n ≤ 4) : at_ l j n < 4294967296 := by
  have h1 := lev_lt ((l.drop j).take n) (fun b hb => h b (List.mem_of_mem_drop (List.mem_of_mem_take hb)))
  have h2 : ((l.drop j).take n).length ≤ 4 := by rw [List.length_take]; omega
  have h3 : 2 ^ (8 * ((l.drop j).take n).length) ≤ 2 ^ 32 := Nat.pow_le_pow_right (by decide) (by omega)
  have : (2 : Nat) ^ 32 = 4294967296 := by decide
  unfold at_
  omega
set_option maxRecDepth 100000 in
theorem TkS.blt2 {w : World} {q : Nat} {s : TS} (h : TkS w q s) : ∀ b ∈ s.l, b < 256 := by
  obtain ⟨a, cap, ht, _, _⟩ := h
  exact ht.bytes.lt
set_option maxRecDepth 100000 in
/-- One step of the taker, at a place. -/
theorem tku_at {w : World} {q : Nat} {l : List Nat} (j n : Nat) (h : TkS w q ⟨0, l.drop j, j⟩) (h1 : 1 ≤ n) (h8 : n ≤ 8) (hl : j + n ≤ l.length) :
    Calls Tryd.prog 45 #[.pointer (some ⟨q, 0, none⟩), .int .i64 (n : Int)] w (Took w q ⟨0, l.drop (j + n), j + n⟩ (.int .u64 (at_ l j n : Int))) := by
  have := tku_ok h n h1 h8 (by rw [List.length_drop]; omega)
  rw [List.drop_drop] at this
  exact this
def TakP (w : World) (q : Nat) (l : List Nat) (e : Ending) (w' : World) : Prop := e = .returned (iv (inl l)) ∧ TkS w' q ⟨0, l.drop 15, 15⟩ ∧ Fr (fun b => b = q) w w'
set_option maxRecDepth 100000 in
theorem bx_set {w : World} {g : Nat} {i i' : If} (b : Bx w g i) (j : Nat) (v : Value) (h : (ivl i).set! j v = ivl i') : Bx (w.setCell ⟨g, j, none⟩ v) g i' := by
  refine ⟨?_⟩
  rw [heap_setCell_same w g j _ _ _ b.row, ← h]
  rfl
set_option maxRecDepth 100000 in
set_option maxHeartbeats 2000000 in
theorem taken_any (q : Nat) (l : List Nat) (w : World) (h : TkS w q ⟨0, l, 0⟩) (hl : 15 ≤ l.length) :
    Calls Tryd.prog 43 #[.pointer (some ⟨q, 0, none⟩)] w (TakP w q l) := by
  have hq := h.lt
  have hlt := TkS.blt2 h
  have hrw : ∀ w, TkS w q ⟨0, l, 0⟩ → Calls Tryd.prog 73 #[.pointer (some ⟨q, 0, none⟩), .int .i64 4] w fun e w' => ∃ v, e = .returned v ∧ TkS w' q ⟨0, l.drop 4, 4⟩ ∧ Fr (fun b => b = q) w w' := fun w h => by
    have e := nx_ok (s := ⟨0, l, 0⟩) (k := 4) (f := false) rfl (fun h => by cases h) (by show 4 ≤ l.length; omega)
    refine (traw_any h 4).mono ?_
    rintro e' w' ⟨ao, cap, rfl, _, h2, h3, _⟩
    rw [show ((4 : Nat) : Int) = 4 from rfl] at e
    rw [e] at h2
    exact ⟨_, rfl, h2, h3⟩
  have HRW := hid hrw
  have HU1 := hid fun (w : World) (h : TkS w q ⟨0, l.drop 4, 4⟩) => tku_at 4 1 h (by decide) (by decide) (by omega)
  have HU2 := hid fun (w : World) (h : TkS w q ⟨0, l.drop 5, 5⟩) => tku_at 5 1 h (by decide) (by decide) (by omega)
  have HU3 := hid fun (w : World) (h : TkS w q ⟨0, l.drop 6, 6⟩) => tku_at 6 1 h (by decide) (by decide) (by omega)
  have HU4 := hid fun (w : World) (h : TkS w q ⟨0, l.drop 7, 7⟩) => tku_at 7 1 h (by decide) (by decide) (by omega)
  have HU5 := hid fun (w : World) (h : TkS w q ⟨0, l.drop 8, 8⟩) => tku_at 8 3 h (by decide) (by decide) (by omega)
  have HU6 := hid fun (w : World) (h : TkS w q ⟨0, l.drop 11, 11⟩) => tku_at 11 4 h (by decide) (by decide) (by omega)
  have u1 := i64_small _ (at_lt hlt 4 1 (by decide)); have u2 := i64_small _ (at_lt hlt 5 1 (by decide)); have u3 := i64_small _ (at_lt hlt 6 1 (by decide)); have u4 := i64_small _ (at_lt hlt 7 1 (by decide)); have u5 := i64_small _ (at_lt hlt 8 3 (by decide)); have u6 := i64_small _ (at_lt hlt 11 4 (by decide))
  have HPO := hid (show ∀ e w', TakP w q l e w' = (e = .returned (iv ⟨(at_ l 4 1 : Int), ⟨(at_ l 5 1 : Int), (at_ l 6 1 : Int), (at_ l 8 3 : Int)⟩, (at_ l 11 4 : Int), (at_ l 7 1 : Int)⟩) ∧ TkS w' q ⟨0, l.drop 15, 15⟩ ∧ Fr (fun b => b = q) w w') from fun _ _ => rfl)
  have HB0 := hid (below_new w (.cells (ivl iz) 25))
  have HT0 := hid (h.below HB0.out)
  have HZ0 := hid (Bx.new w iz)
  clear h hlt hrw hl
  generalize at_ l 4 1 = n1 at *
  generalize at_ l 5 1 = n2 at *
  generalize at_ l 6 1 = n3 at *
  generalize at_ l 7 1 = n4 at *
  generalize at_ l 8 3 = n5 at *
  generalize at_ l 11 4 = n6 at *
  go_enter Tryd.func43, Tryd.ntmps43
  go_wp2_with fail
  refine (HRW.out _ HT0.out).mono ?_
  rintro e w1 ⟨v, rfl, ht1, hf1⟩
  have HZ1 := hid (show Bx w1 w.heap.size iz from ⟨(hf1.block _ HZ0.out.lt (by omega)).trans HZ0.out.row⟩)
  have HF1 := hid ((fr_below (q := q) HB0.out).trans hf1)
  have hbn := below_new w1 (.cells (ivl iz) 25)
  have hsz : w.heap.size < w1.heap.size := HZ1.out.lt
  have HS := hid (show q < w1.heap.size from Nat.lt_of_lt_of_le hq HF1.out.size)
  have HT2 := hid (ht1.below hbn)
  have HZ2 := hid (HZ1.out.below hbn hsz)
  have HX2 := hid (Bx.new w1 iz)
  have HF2 := hid (HF1.out.trans (fr_below (q := q) hbn))
  have HN := hid (show q < w1.heap.size ∧ w.heap.size < w1.heap.size ∧ q < w.heap.size from ⟨HS.out, hsz, hq⟩)
  clear ht1 hf1 hbn hsz hq HZ0 HB0 HT0 HZ1 HF1 HS HRW
  go_wp2_with fail
  refine (HU1.out _ HT2.out).mono ?_
  rintro e v1 ⟨rfl, ht, hf⟩
  have hx : Bx v1 w1.heap.size _ := ⟨(hf.block _ HX2.out.lt (by have := HN.out.1; omega)).trans HX2.out.row⟩
  have hzz : Bx v1 w.heap.size iz := ⟨(hf.block _ HZ2.out.lt (by have := HN.out.2.2; omega)).trans HZ2.out.row⟩
  have hcc : v1.cell? ⟨w1.heap.size, 0, none⟩ = some (.int .i64 0) := hx.c0
  have hcf := hx.fz 0
  have HX2 := hid (bx_set hx 0 (.int .i64 (n1 : Int)) (i' := ⟨(n1 : Int), ⟨0, 0, 0⟩, 0, 0⟩) rfl)
  have HZ2 := hid (show Bx (v1.setCell ⟨w1.heap.size, 0, none⟩ (.int .i64 (n1 : Int))) w.heap.size iz from ⟨(heap_setCell_other _ _ _ _ (by have := HN.out.2.1; simp; omega)).trans hzz.row⟩)
  have HT2 := hid (tks_other ht (frq (q := w1.heap.size) 0 (.int .i64 (n1 : Int))) HN.out.1)
  have HF2 := hid (fr_setNew (HF2.out.trans hf) (p := ⟨w1.heap.size, 0, none⟩) (u := .int .i64 (n1 : Int)) (by have := HN.out.2.1; show w.heap.size ≤ w1.heap.size; omega))
  clear ht hf hx hzz
  go_wp2_with fail
  refine (HU2.out _ HT2.out).mono ?_
  rintro e v2 ⟨rfl, ht, hf⟩
  have hx : Bx v2 w1.heap.size _ := ⟨(hf.block _ HX2.out.lt (by have := HN.out.1; omega)).trans HX2.out.row⟩
  have hzz : Bx v2 w.heap.size iz := ⟨(hf.block _ HZ2.out.lt (by have := HN.out.2.2; omega)).trans HZ2.out.row⟩
  have hcc : v2.cell? ⟨w1.heap.size, 1, none⟩ = some (.int .i64 0) := hx.c1
  have hcf := hx.fz 1
  have HX2 := hid (bx_set hx 1 (.int .i64 (n2 : Int)) (i' := ⟨(n1 : Int), ⟨(n2 : Int), 0, 0⟩, 0, 0⟩) rfl)
  have HZ2 := hid (show Bx (v2.setCell ⟨w1.heap.size, 1, none⟩ (.int .i64 (n2 : Int))) w.heap.size iz from ⟨(heap_setCell_other _ _ _ _ (by have := HN.out.2.1; simp; omega)).trans hzz.row⟩)
  have HT2 := hid (tks_other ht (frq (q := w1.heap.size) 1 (.int .i64 (n2 : Int))) HN.out.1)
  have HF2 := hid (fr_setNew (HF2.out.trans hf) (p := ⟨w1.heap.size, 1, none⟩) (u := .int .i64 (n2 : Int)) (by have := HN.out.2.1; show w.heap.size ≤ w1.heap.size; omega))
  clear ht hf hx hzz
  go_wp2_with fail
  refine (HU3.out _ HT2.out).mono ?_
  rintro e v3 ⟨rfl, ht, hf⟩
  have hx : Bx v3 w1.heap.size _ := ⟨(hf.block _ HX2.out.lt (by have := HN.out.1; omega)).trans HX2.out.row⟩
  have hzz : Bx v3 w.heap.size iz := ⟨(hf.block _ HZ2.out.lt (by have := HN.out.2.2; omega)).trans HZ2.out.row⟩
  have hcc : v3.cell? ⟨w1.heap.size, 2, none⟩ = some (.int .i64 0) := hx.c2
  have hcf := hx.fz 2
  have HX2 := hid (bx_set hx 2 (.int .i64 (n3 : Int)) (i' := ⟨(n1 : Int), ⟨(n2 : Int), (n3 : Int), 0⟩, 0, 0⟩) rfl)
  have HZ2 := hid (show Bx (v3.setCell ⟨w1.heap.size, 2, none⟩ (.int .i64 (n3 : Int))) w.heap.size iz from ⟨(heap_setCell_other _ _ _ _ (by have := HN.out.2.1; simp; omega)).trans hzz.row⟩)
  have HT2 := hid (tks_other ht (frq (q := w1.heap.size) 2 (.int .i64 (n3 : Int))) HN.out.1)
  have HF2 := hid (fr_setNew (HF2.out.trans hf) (p := ⟨w1.heap.size, 2, none⟩) (u := .int .i64 (n3 : Int)) (by have := HN.out.2.1; show w.heap.size ≤ w1.heap.size; omega))
  clear ht hf hx hzz
  go_wp2_with fail
  refine (HU4.out _ HT2.out).mono ?_
  rintro e v4 ⟨rfl, ht, hf⟩
  have hx : Bx v4 w1.heap.size _ := ⟨(hf.block _ HX2.out.lt (by have := HN.out.1; omega)).trans HX2.out.row⟩
  have hzz : Bx v4 w.heap.size iz := ⟨(hf.block _ HZ2.out.lt (by have := HN.out.2.2; omega)).trans HZ2.out.row⟩
  have hcc : v4.cell? ⟨w1.heap.size, 5, none⟩ = some (.int .i64 0) := hx.c5
  have hcf := hx.fz 5
  have HX2 := hid (bx_set hx 5 (.int .i64 (n4 : Int)) (i' := ⟨(n1 : Int), ⟨(n2 : Int), (n3 : Int), 0⟩, 0, (n4 : Int)⟩) rfl)
  have HZ2 := hid (show Bx (v4.setCell ⟨w1.heap.size, 5, none⟩ (.int .i64 (n4 : Int))) w.heap.size iz from ⟨(heap_setCell_other _ _ _ _ (by have := HN.out.2.1; simp; omega)).trans hzz.row⟩)
  have HT2 := hid (tks_other ht (frq (q := w1.heap.size) 5 (.int .i64 (n4 : Int))) HN.out.1)
  have HF2 := hid (fr_setNew (HF2.out.trans hf) (p := ⟨w1.heap.size, 5, none⟩) (u := .int .i64 (n4 : Int)) (by have := HN.out.2.1; show w.heap.size ≤ w1.heap.size; omega))
  clear ht hf hx hzz
  go_wp2_with fail
  refine (HU5.out _ HT2.out).mono ?_
  rintro e v5 ⟨rfl, ht, hf⟩
  have hx : Bx v5 w1.heap.size _ := ⟨(hf.block _ HX2.out.lt (by have := HN.out.1; omega)).trans HX2.out.row⟩
  have hzz : Bx v5 w.heap.size iz := ⟨(hf.block _ HZ2.out.lt (by have := HN.out.2.2; omega)).trans HZ2.out.row⟩
  have hcc : v5.cell? ⟨w1.heap.size, 3, none⟩ = some (.int .i64 0) := hx.c3
  have hcf := hx.fz 3
  have HX2 := hid (bx_set hx 3 (.int .i64 (n5 : Int)) (i' := ⟨(n1 : Int), ⟨(n2 : Int), (n3 : Int), (n5 : Int)⟩, 0, (n4 : Int)⟩) rfl)
  have HZ2 := hid (show Bx (v5.setCell ⟨w1.heap.size, 3, none⟩ (.int .i64 (n5 : Int))) w.heap.size iz from ⟨(heap_setCell_other _ _ _ _ (by have := HN.out.2.1; simp; omega)).trans hzz.row⟩)
  have HT2 := hid (tks_other ht (frq (q := w1.heap.size) 3 (.int .i64 (n5 : Int))) HN.out.1)
  have HF2 := hid (fr_setNew (HF2.out.trans hf) (p := ⟨w1.heap.size, 3, none⟩) (u := .int .i64 (n5 : Int)) (by have := HN.out.2.1; show w.heap.size ≤ w1.heap.size; omega))
  clear ht hf hx hzz
  go_wp2_with fail
  refine (HU6.out _ HT2.out).mono ?_
  rintro e v6 ⟨rfl, ht, hf⟩
  have hx : Bx v6 w1.heap.size _ := ⟨(hf.block _ HX2.out.lt (by have := HN.out.1; omega)).trans HX2.out.row⟩
  have hzz : Bx v6 w.heap.size iz := ⟨(hf.block _ HZ2.out.lt (by have := HN.out.2.2; omega)).trans HZ2.out.row⟩
  have hcc : v6.cell? ⟨w1.heap.size, 4, none⟩ = some (.int .i64 0) := hx.c4
  have hcf := hx.fz 4
  have HX2 := hid (bx_set hx 4 (.int .i64 (n6 : Int)) (i' := ⟨(n1 : Int), ⟨(n2 : Int), (n3 : Int), (n5 : Int)⟩, (n6 : Int), (n4 : Int)⟩) rfl)
  have HZ2 := hid (show Bx (v6.setCell ⟨w1.heap.size, 4, none⟩ (.int .i64 (n6 : Int))) w.heap.size iz from ⟨(heap_setCell_other _ _ _ _ (by have := HN.out.2.1; simp; omega)).trans hzz.row⟩)
  have HT2 := hid (tks_other ht (frq (q := w1.heap.size) 4 (.int .i64 (n6 : Int))) HN.out.1)
  have HF2 := hid (fr_setNew (HF2.out.trans hf) (p := ⟨w1.heap.size, 4, none⟩) (u := .int .i64 (n6 : Int)) (by have := HN.out.2.1; show w.heap.size ≤ w1.heap.size; omega))
  clear ht hf hx hzz
  go_wp2_with (first
    | (refine wpList_load_row rfl 25 _ rfl w1.heap.size rfl 25 (ivl _) (0, 0) _ HX2.out.row Tryd.underlying25 rfl (ivl_size _) ?_)
    | (refine wpList_store_row rfl 25 _ _ rfl w.heap.size (ivl _) rfl rfl 25 (ivl iz) HZ2.out.row (ivl_size _) rfl (ivl_one _) ?_))
  refine bodyPost_ret (results_cell_row (p := 2) (ty := 25) (by kernel_rfl) _ _ w.heap.size 25 (ivl _) (0, 0) _ rfl (setRow_heap _ _ _ _ _ _ HZ2.out.row) Tryd.underlying25 rfl (ivl_size _)) rfl ?_
  rw [HPO.out]
  exact ⟨rfl, tks_other HT2.out (fr_setRow _ _ _) HN.out.2.2, fr_setRowNew HF2.out (Nat.le_refl _)⟩
end Go.Proofs.YthjjonbkfkpkmaaDoor.Inf
