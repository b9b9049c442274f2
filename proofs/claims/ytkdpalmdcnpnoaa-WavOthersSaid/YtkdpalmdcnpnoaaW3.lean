/- The arithmetic of wav: rests, quotients, widths, pads, of both sides. Conditions: those that each lemma names. -/
import Derived.Test.YtkdpalmdcnpnoaaTa4
import Derived.WalkKit
import Derived.Handy
import Derived.Lib.SlBytesConst
import Derived.BigQuiet
import Derived.Deep.QuietTactic
import Derived.StillTailTactics
import Derived.Test.YtkdpalmdcnpnoaaRi
import Derived.Deep.RegionHeld3
import Derived.Test.YtkdpalmdcnpnoaaKn
import Derived.Test.YtkdpalmdcnpnoaaCm
import Derived.Test.YtkdpalmdcnpnoaaQc
import Derived.Test.YtkdpalmdcnpnoaaLe
import Derived.Deep.LoopGhost
import Derived.Test.YtkdpalmdcnpnoaaRef2
import Derived.Laws.IdiomCopy
import Derived.Laws.Strings
import Derived.Deep.RegionWith
import Derived.Deep.DeepCutAuto
import Derived.RangeFuncNested
import Derived.RangeFuncBound
import Derived.RangeFuncCalls
import Derived.RangeFuncLeaves
import Derived.Shelf.Abstract
import Derived.Shelf.RegionOpen
import Derived.OwnWalkIn
import Derived.TacticsInMore
import Derived.LoopNIn
import Derived.LoopIn
import Derived.Sort.LoopGhostIn
import Derived.Laws.Slices
import Derived.Test.YtkdpalmdcnpnoaaRt2
import Derived.OwnWalk
namespace Go.Proofs.Ytkdpalmdcnpnoaa.Wv
open Go.RowKit Gen

/-- How many bytes a sample of so many bits has. -/
def wd (n : Int) : Nat := if n < 8 ∨ 24 < n then 0 else if n = 8 then 1 else if n ≤ 16 then 2 else 3
theorem tmod_lt {a : Int} {b : Nat} (hb : 1 ≤ b) (h : a.tmod (b : Int) < 0) : a % (b : Int) = a.tmod (b : Int) + (b : Int) := by
  have h1 := Int.tmod_eq_emod (a := a) (b := (b : Int))
  have h2 : 0 ≤ a % (b : Int) := Int.emod_nonneg _ (by omega)
  split at h1
  · omega
  · rw [Int.natAbs_natCast] at h1; omega
theorem tmod_ge {a : Int} {b : Nat} (hb : 1 ≤ b) (h : ¬ a.tmod (b : Int) < 0) : a % (b : Int) = a.tmod (b : Int) := by
  have h1 := Int.tmod_eq_emod (a := a) (b := (b : Int))
  have h2 : a % (b : Int) < (b : Int) := Int.emod_lt_of_pos _ (by omega)
  split at h1
  · omega
  · rw [Int.natAbs_natCast] at h1; omega
set_option maxRecDepth 20000 in
theorem mod_any (a : Int) (b : Nat) (hb : 1 ≤ b) (hb2 : (b : Int) ≤ 4611686018427387904) (w : World) : Calls Try.prog 65 #[.int .i64 a, .int .i64 (b : Int)] w fun e w' => e = .returned (.int .i64 (a % (b : Int))) ∧ w = w' := by
  have h1 : ¬ (b : Int) < 1 := by omega
  have h0 : ¬ (b : Int) = 0 := by omega
  have HL := hid (tmod_lt (a := a) hb)
  have HG := hid (tmod_ge (a := a) hb)
  have hlo : -(b : Int) < a.tmod (b : Int) := by
    have h2 := Int.lt_tmod_of_pos a (show (0 : Int) < (b : Int) by omega)
    exact h2
  by_cases hn : a.tmod (b : Int) < 0
  · have HE := hid (HL.out hn)
    clear HL HG
    generalize a % (b : Int) = R at *
    go_enter Try.func65, Try.ntmps65
    go_wp2_with fail
    go_ret
    exact ⟨by rw [HE.out]; rfl, rfl⟩
  · have HE := hid (HG.out hn)
    clear HL HG
    generalize a % (b : Int) = R at *
    go_enter Try.func65, Try.ntmps65
    go_wp2_with fail
    go_ret
    exact ⟨by rw [HE.out]; rfl, rfl⟩
set_option maxRecDepth 20000 in
theorem rmod_any (a : Int) (b : Nat) (hb : 1 ≤ b) (hb2 : (b : Int) ≤ 4611686018427387904) (w : World) : Calls Try.prog 77 #[.int .i64 a, .int .i64 (b : Int)] w fun e w' => e = .returned (.int .i64 (a % (b : Int))) ∧ w = w' := by
  have h1 : ¬ (b : Int) < 1 := by omega
  have h0 : ¬ (b : Int) = 0 := by omega
  have HL := hid (tmod_lt (a := a) hb)
  have HG := hid (tmod_ge (a := a) hb)
  have hlo : -(b : Int) < a.tmod (b : Int) := by
    have h2 := Int.lt_tmod_of_pos a (show (0 : Int) < (b : Int) by omega)
    exact h2
  by_cases hn : a.tmod (b : Int) < 0
  · have HE := hid (HL.out hn)
    clear HL HG
    generalize a % (b : Int) = R at *
    go_enter Try.func77, Try.ntmps77
    go_wp2_with fail
    go_ret
    exact ⟨by rw [HE.out]; rfl, rfl⟩
  · have HE := hid (HG.out hn)
    clear HL HG
    generalize a % (b : Int) = R at *
    go_enter Try.func77, Try.ntmps77
    go_wp2_with fail
    go_ret
    exact ⟨by rw [HE.out]; rfl, rfl⟩
set_option maxRecDepth 20000 in
theorem floor8_any (n : Int) (h1 : 8 ≤ n) (h2 : n ≤ 24) (w : World) : Calls Try.prog 37 #[.int .i64 (n + 7), .int .i64 8] w fun e w' => e = .returned (.int .i64 (wd n : Int)) ∧ w = w' := by
  have hr : ¬ (n + 7) % 8 < 0 := by omega
  have hq : (n + 7) / 8 = (wd n : Int) := by
    unfold wd
    split
    · omega
    · split
      · omega
      · split <;> omega
  have HQ := hid hq
  clear hq
  go_enter Try.func37, Try.ntmps37
  go_wp2_with fail
  go_ret
  refine ⟨?_, rfl⟩
  show Ending.returned (.int .i64 ((n + 7) / 8)) = _
  rw [HQ.out]
set_option maxRecDepth 20000 in
theorem width_any (n : Int) (w : World) : Calls Try.prog 12 #[.int .i64 n] w fun e w' => e = .returned (.int .i64 (wd n : Int)) ∧ w = w' := by
  by_cases h1 : n < 8
  · have HW := hid (show (wd n : Int) = 0 by unfold wd; rw [if_pos (.inl h1)]; rfl)
    go_enter Try.func12, Try.ntmps12
    go_wp2_with fail
    go_ret
    exact ⟨by rw [HW.out]; rfl, rfl⟩
  · by_cases h2 : 24 < n
    · have HW := hid (show (wd n : Int) = 0 by unfold wd; rw [if_pos (.inr h2)]; rfl)
      go_enter Try.func12, Try.ntmps12
      go_wp2_with fail
      go_ret
      exact ⟨by rw [HW.out]; rfl, rfl⟩
    · have HF := hid (floor8_any n (by omega) (by omega))
      have e7 : n + 8 - 1 = n + 7 := by omega
      go_enter Try.func12, Try.ntmps12
      go_wp2_with fail
      refine (HF.out _).mono ?_
      rintro e w1 ⟨rfl, rfl⟩
      go_wp2_with fail
      go_ret
      exact ⟨rfl, rfl⟩
set_option maxRecDepth 20000 in
theorem rwidth_any (n : Int) (w : World) : Calls Try.prog 13 #[.int .i64 n] w fun e w' => e = .returned (.int .i64 (wd n : Int)) ∧ w = w' := by
  by_cases h1 : n < 8
  · have HW := hid (show (wd n : Int) = 0 by unfold wd; rw [if_pos (.inl h1)]; rfl)
    go_enter Try.func13, Try.ntmps13
    go_wp2_with fail
    go_ret
    exact ⟨by rw [HW.out]; rfl, rfl⟩
  · by_cases h2 : 24 < n
    · have HW := hid (show (wd n : Int) = 0 by unfold wd; rw [if_pos (.inr h2)]; rfl)
      go_enter Try.func13, Try.ntmps13
      go_wp2_with fail
      go_ret
      exact ⟨by rw [HW.out]; rfl, rfl⟩
    · by_cases h3 : n = 8
      · subst h3
        go_enter Try.func13, Try.ntmps13
        go_wp2_with fail
        go_ret
        exact ⟨rfl, rfl⟩
      · have q3 : (n == 8) = false := by rw [beq_eq_false_iff_ne]; exact h3
        by_cases h4 : n ≤ 16
        · have HW := hid (show (wd n : Int) = 2 by unfold wd; rw [if_neg (by omega), if_neg h3, if_pos h4]; rfl)
          go_enter Try.func13, Try.ntmps13
          go_wp2_with fail
          go_ret
          exact ⟨by rw [HW.out]; rfl, rfl⟩
        · have HW := hid (show (wd n : Int) = 3 by unfold wd; rw [if_neg (by omega), if_neg h3, if_neg h4]; rfl)
          go_enter Try.func13, Try.ntmps13
          go_wp2_with fail
          go_ret
          exact ⟨by rw [HW.out]; rfl, rfl⟩
set_option maxRecDepth 20000 in
theorem pad_any (n : Nat) (w : World) : Calls Try.prog 35 #[.int .i64 (n : Int)] w fun e w' => e = .returned (.int .i64 ((n % 2 : Nat) : Int)) ∧ w = w' := by
  have h1 := mod_any (n : Int) 2 (by decide) (by decide)
  rw [show ((n : Int) % ((2 : Nat) : Int)) = ((n % 2 : Nat) : Int) by omega] at h1
  have HM := hid h1
  clear h1
  generalize n % 2 = r at *
  go_enter Try.func35, Try.ntmps35
  go_wp2_with fail
  refine (HM.out _).mono ?_
  rintro e w1 ⟨rfl, rfl⟩
  go_wp2_with fail
  go_ret
  exact ⟨rfl, rfl⟩
set_option maxRecDepth 20000 in
theorem long_any (n : Nat) (hn : n ≤ 4611686018427387904) (w : World) : Calls Try.prog 29 #[.int .i64 (n : Int)] w fun e w' => e = .returned (.int .i64 ((8 + n + n % 2 : Nat) : Int)) ∧ w = w' := by
  have HP := hid (pad_any n)
  have hr : n % 2 < 2 := Nat.mod_lt _ (by decide)
  generalize n % 2 = r at *
  go_enter Try.func29, Try.ntmps29
  go_wp2_with fail
  refine (HP.out _).mono ?_
  rintro e w1 ⟨rfl, rfl⟩
  go_wp2_with fail
  go_ret
  refine ⟨?_, rfl⟩
  go_num
set_option maxRecDepth 20000 in
theorem free_any (n : Int) (h1 : 8 ≤ n) (h2 : n ≤ 24) (w : World) : Calls Try.prog 64 #[.int .i64 n] w fun e w' => e = .returned (.int .i64 (8 * (wd n : Int) - n)) ∧ w = w' := by
  have HW := hid (width_any n)
  have hd : wd n ≤ 3 := by unfold wd; split; · omega
                           · split; · omega
                             · split <;> omega
  generalize wd n = d at *
  go_enter Try.func64, Try.ntmps64
  go_wp2_with fail
  refine (HW.out _).mono ?_
  rintro e w1 ⟨rfl, rfl⟩
  go_wp2_with fail
  go_ret
  exact ⟨rfl, rfl⟩
end Go.Proofs.Ytkdpalmdcnpnoaa.Wv
namespace Go.Proofs.Ytkdpalmdcnpnoaa.Wv
open Go.RowKit Gen Fld

theorem bel_new (w : World) (o : Obj) : Below w.heap.size w (w.alloc o) := (Below.refl _ _).alloc (Nat.le_refl _) _
theorem own_at {w : World} {base : Nat} {e size : Nat} {ao : Option Addr} {n cap : Nat} {xs : List Value} (h : w.ownsRow base e size (.slice ao n cap) n xs) :
    (ao = none ∧ n = 0 ∧ cap = 0) ∨ ∃ g, ao = some ⟨g, 0, none⟩ ∧ base ≤ g ∧ g < w.heap.size ∧ n ≤ cap := by
  rcases h.2 with ⟨hv, h0⟩ | ⟨g, c, cur, hv, q1, q2, q3, _⟩
  · cases hv; exact .inl ⟨rfl, rfl, rfl⟩
  · cases hv
    refine .inr ⟨g, rfl, q1, ?_, q3⟩
    rcases Nat.lt_or_ge g w.heap.size with hlt | hge
    · exact hlt
    · rw [Array.getElem?_eq_none hge] at q2; cases q2
theorem uerr_four (v : Nat) (h : v < 4294967296) : uErr v 4 = 0 := by
  unfold uErr
  rw [if_neg (by omega), if_neg]
  have : (2 : Nat) ^ (8 * (4 : Int).toNat) = 4294967296 := by decide
  omega
theorem uerr_one (v : Nat) (h : v < 256) : uErr v 1 = 0 := by
  unfold uErr
  rw [if_neg (by omega), if_neg]
  have : (2 : Nat) ^ (8 * (1 : Int).toNat) = 256 := by decide
  omega
theorem uerr_two (v : Nat) (h : v < 65536) : uErr v 2 = 0 := by
  unfold uErr
  rw [if_neg (by omega), if_neg]
  have : (2 : Nat) ^ (8 * (2 : Int).toNat) = 65536 := by decide
  omega

/-- Bytes in new memory. -/
structure NL (w : World) (ao : Option Addr) (cap : Nat) (l : List Nat) (w' : World) : Prop where
  own : w'.ownsRow w.heap.size 5 1 (.slice ao l.length cap) l.length (bl l)
  bel : Below w.heap.size w w'
  lt : ∀ b ∈ l, b < 256
theorem NL.byts {w w' : World} {ao : Option Addr} {cap : Nat} {l : List Nat} (h : NL w ao cap l w') : Byts w' ao l := Byts.of_row h.lt h.own
theorem NL.cap {w w' : World} {ao : Option Addr} {cap : Nat} {l : List Nat} (h : NL w ao cap l w') : l.length ≤ cap := by
  rcases own_at h.own with ⟨_, h1, h2⟩ | ⟨_, _, _, _, h⟩
  · omega
  · exact h
theorem NL.nil {w w' : World} {ao : Option Addr} {cap : Nat} {l : List Nat} (h : NL w ao cap l w') : ao = none → l.length = 0 ∧ cap = 0 := fun e => by
  rcases own_at h.own with ⟨_, h1, h2⟩ | ⟨g, h1, _⟩
  · exact ⟨h1, h2⟩
  · rw [e] at h1; cases h1
theorem own_mono2 {w : World} {base base' : Nat} {e size : Nat} {v : Value} {n : Nat} {xs : List Value} (h : w.ownsRow base e size v n xs) (hb : base' ≤ base) : w.ownsRow base' e size v n xs :=
  ⟨h.1, h.2.imp id fun ⟨g, cap, cur, h1, h2, h3⟩ => ⟨g, cap, cur, h1, Nat.le_trans hb h2, h3⟩⟩
theorem put_z (l m : List Nat) : put (0, l) 0 m = (0, l ++ m) := put_zero 0 l m rfl
/-- A maker, behind so many bytes. -/
def St (w1 : World) (l : List Nat) (wr : World) : Prop := ∃ ao cap, MkA wr w1.heap.size w1.heap.size ao cap 0 l ∧ Below w1.heap.size w1 wr
theorem St.step {w1 wr w' : World} {l m : List Nat} {e : Nat} {ao : Option Addr} {cap : Nat} (hm : MkA wr w1.heap.size w1.heap.size ao cap 0 l) (hb : Below w1.heap.size w1 wr) (he : e = 0)
    (hA : Aft wr w1.heap.size w1.heap.size ao (put (0, l) e m) w') : St w1 (l ++ m) w' := by
  rw [he, put_z] at hA
  obtain ⟨ao', cap', hm', hP⟩ := hA
  exact ⟨ao', cap', hm', hb.trans (hP.below (Nat.le_refl _) (fun g hg => (hm.rlt g hg).1) hb.size)⟩
theorem St.u {w1 wr : World} {l : List Nat} (h : St w1 l wr) (v n : Nat) (hv : v < 18446744073709551616) (he : uErr v n = 0) (hl : l.length ≤ 1073741824) :
    Calls Try.prog 32 #[.pointer (some ⟨w1.heap.size, 0, none⟩), .int .u64 (v : Int), .int .i64 (n : Int)] wr fun e w' => e = .returned (.tuple #[]) ∧ St w1 (l ++ le v n) w' := by
  obtain ⟨ao, cap, hm, hb⟩ := h
  refine (u_any hm hb.size v n hv (by omega)).mono ?_
  rintro e w' ⟨rfl, hA⟩
  exact ⟨rfl, St.step hm hb he hA⟩
theorem St.i {w1 wr : World} {l : List Nat} (h : St w1 l wr) (v : Int) (n : Nat) (he : iErr v n = 0) (hl : l.length ≤ 1073741824) :
    Calls Try.prog 63 #[.pointer (some ⟨w1.heap.size, 0, none⟩), .int .i64 v, .int .i64 (n : Int)] wr fun e w' => e = .returned (.tuple #[]) ∧ St w1 (l ++ le (u64 v) n) w' := by
  obtain ⟨ao, cap, hm, hb⟩ := h
  refine (i_any hm hb.size v n (by omega)).mono ?_
  rintro e w' ⟨rfl, hA⟩
  exact ⟨rfl, St.step hm hb he hA⟩
theorem St.raw {w1 wr : World} {l : List Nat} (h : St w1 l wr) {a : Option Addr} {m : List Nat} {c n : Nat} (hn : m.length = n) (hb : Byts wr a m) (ha : a = none → m.length = 0 ∧ c = 0) (hl : l.length + m.length ≤ 1073741824) :
    Calls Try.prog 30 #[.pointer (some ⟨w1.heap.size, 0, none⟩), .slice a n c] wr fun e w' => e = .returned (.tuple #[]) ∧ St w1 (l ++ m) w' := by
  subst hn
  obtain ⟨ao, cap, hm, hB⟩ := h
  refine (raw_any hm hb ha hB.size (by omega)).mono ?_
  rintro e w' ⟨rfl, hA⟩
  exact ⟨rfl, St.step hm hB rfl hA⟩
theorem St.bytes {w1 wr : World} {l : List Nat} (h : St w1 l wr) (hl : l.length ≤ 1073741824) :
    Calls Try.prog 36 #[.pointer (some ⟨w1.heap.size, 0, none⟩)] wr fun e w' => ∃ ao cap, e = .returned (.tuple #[.slice ao l.length cap, .int .i64 0]) ∧ NL w1 ao cap l w' := by
  obtain ⟨ao, cap, hm, hB⟩ := h
  have hlt := hm.lt
  refine (mbytes_ok hm (by omega)).mono ?_
  rintro e w' ⟨ao1, cap1, rfl, ho, hb⟩
  exact ⟨ao1, cap1, rfl, ⟨own_mono2 ho hB.size, hB.trans (hb.mono hB.size), hlt⟩⟩
theorem St.below {w1 wr w' : World} {l : List Nat} (h : St w1 l wr) (hb : Below wr.heap.size wr w') : St w1 l w' := by
  obtain ⟨ao, cap, hm, hB⟩ := h
  exact ⟨ao, cap, hm.below hb, hB.trans (hb.mono hB.size)⟩
theorem St.bel {w1 wr : World} {l : List Nat} (h : St w1 l wr) : Below w1.heap.size w1 wr := by
  obtain ⟨_, _, _, hB⟩ := h
  exact hB

/-- A name, and a size. -/
def nsz (s : ByteArray) (n : Nat) : List Nat := sb s ++ le n 4
theorem u64_small (n : Nat) (h : n < 4294967296) : IntKind.u64.wrap (n : Int) = n := by rw [u64_wrap]; unfold u64; omega
set_option maxRecDepth 20000 in
theorem begin_any {w1 wr : World} {l : List Nat} (h : St w1 l wr) (s : ByteArray) (n : Nat) (hs : s.size ≤ 16) (hn : n < 4294967296) (hl : l.length ≤ 536870912) :
    Calls Try.prog 28 #[.pointer (some ⟨w1.heap.size, 0, none⟩), .string s, .int .i64 (n : Int)] wr fun e w' => e = .returned (.tuple #[]) ∧ St w1 (l ++ nsz s n) w' := by
  have hcv := fun W => conv_string W s
  have H := hid h
  have hb := byts_of_string wr s
  have hbl := below_string wr s
  have HB := hid hb
  have HS := hid (h.below hbl)
  have HLS := hid (sb_len s)
  have hu := u64_small n hn
  have HE := hid (uerr_four n hn)
  clear h hb hbl
  go_enter Try.func28, Try.ntmps28
  go_wp2_with fail
  refine (HS.out.raw (HLS.out) HB.out (fun e => by cases e) (by rw [HLS.out]; omega)).mono ?_
  rintro e w2 ⟨rfl, hst⟩
  have HS2 := hid hst
  clear hst
  go_wp2_with fail
  refine (HS2.out.u n 4 (by omega) HE.out (by rw [List.length_append, HLS.out]; omega)).mono ?_
  rintro e w3 ⟨rfl, hst⟩
  have HS3 := hid hst
  clear hst
  go_wp2_with fail
  go_end0
  exact ⟨rfl, by unfold nsz; rw [← List.append_assoc]; exact HS3.out⟩
end Go.Proofs.Ytkdpalmdcnpnoaa.Wv
namespace Go.Proofs.Ytkdpalmdcnpnoaa.Wv
open Go.RowKit Gen Fld

theorem qt {P : Program} {f : FuncId} {args : Array Value} {w : World} {v : Value} (h : Calls P f args w fun e w' => e = .returned v ∧ w = w') : Calls P f args w fun e w' => e = .returned v ∧ w' = w :=
  h.mono fun _ _ ⟨a, b⟩ => ⟨a, b.symm⟩
/-- How many bits are free. -/
def fre (n : Int) : Nat := (8 * (wd n : Int) - n).toNat
/-- A sample's bytes. -/
def smp (n x : Int) : List Nat := if n = 8 then le (x + 128).toNat 1 else le (u64 (x * 2 ^ fre n)) (wd n)
theorem wd_le (n : Int) : wd n ≤ 3 := by
  unfold wd
  split
  · omega
  · split
    · omega
    · split <;> omega
theorem wd_fre {n : Int} (h1 : 8 < n) (h2 : n ≤ 24) : 2 ≤ wd n ∧ 8 * wd n = n.toNat + fre n ∧ fre n ≤ 7 := by
  unfold fre wd
  rw [if_neg (by omega), if_neg (by omega)]
  split <;> omega
theorem smp_len (n x : Int) : (smp n x).length = wd n := by
  unfold smp
  split
  · rename_i h; rw [le_len, h]; rfl
  · exact le_len _ _
theorem smp_err (m F d : Nat) (x : Int) (hm : 1 ≤ m) (hd : 8 * d = m + F) (hd1 : 1 ≤ d) (hd8 : d ≤ 8) (h1 : -(2 ^ (m - 1) : Int) ≤ x) (h2 : x ≤ 2 ^ (m - 1) - 1) : iErr (x * 2 ^ F) (d : Int) = 0 := by
  unfold iErr
  have e : (2 : Int) ^ (8 * ((d : Int).toNat) - 1) = 2 ^ (m - 1) * 2 ^ F := by
    rw [Int.toNat_natCast, hd, show m + F - 1 = (m - 1) + F from by omega, Int.pow_add]
  have p : (0 : Int) < 2 ^ F := Int.pow_pos (by decide)
  have q1 := Int.mul_le_mul_of_nonneg_right h1 (Int.le_of_lt p)
  have q2 := Int.mul_le_mul_of_nonneg_right h2 (Int.le_of_lt p)
  rw [Int.neg_mul] at q1
  rw [Int.sub_mul] at q2
  rw [if_neg (by omega), if_neg]
  rw [e]
  omega
theorem smp_in (m F d : Nat) (x : Int) (hm : 1 ≤ m) (hd : 8 * d = m + F) (hd8 : d ≤ 3) (h1 : -(2 ^ (m - 1) : Int) ≤ x) (h2 : x ≤ 2 ^ (m - 1) - 1) : -8388608 ≤ x * 2 ^ F ∧ x * 2 ^ F ≤ 8388607 := by
  have p : (0 : Int) < 2 ^ F := Int.pow_pos (by decide)
  have q1 := Int.mul_le_mul_of_nonneg_right h1 (Int.le_of_lt p)
  have q2 := Int.mul_le_mul_of_nonneg_right h2 (Int.le_of_lt p)
  rw [Int.neg_mul] at q1
  rw [Int.sub_mul] at q2
  have e : (2 : Int) ^ (m - 1) * 2 ^ F = 2 ^ (8 * d - 1) := by rw [← Int.pow_add]; congr 1; omega
  have h3 : (2 : Int) ^ (8 * d - 1) ≤ 8388608 := by
    have h5 : (2 : Nat) ^ (8 * d - 1) ≤ 2 ^ 23 := Nat.pow_le_pow_right (by decide) (by omega)
    have h6 : ((2 ^ (8 * d - 1) : Nat) : Int) ≤ ((2 ^ 23 : Nat) : Int) := Int.ofNat_le.2 h5
    simpa using h6
  rw [e] at q1 q2
  omega
set_option maxRecDepth 20000 in
theorem lay_any {w1 wr : World} {l : List Nat} (h : St w1 l wr) (x n : Int) (hn1 : 8 ≤ n) (hn2 : n ≤ 24) (h1 : -(2 ^ (n.toNat - 1) : Int) ≤ x) (h2 : x ≤ 2 ^ (n.toNat - 1) - 1) (hl : l.length ≤ 536870912) :
    Calls Try.prog 34 #[.pointer (some ⟨w1.heap.size, 0, none⟩), .int .i64 x, .int .i64 n] wr fun e w' => e = .returned (.tuple #[]) ∧ St w1 (l ++ smp n x) w' := by
  have H := hid h
  by_cases h8 : n = 8
  · subst h8
    have hx1 : -128 ≤ x := h1
    have hx2 : x ≤ 127 := h2
    have HS := hid (show smp 8 x = le (x + 128).toNat 1 from rfl)
    obtain ⟨v, hv⟩ : ∃ v : Nat, x + 128 = v := ⟨(x + 128).toNat, by omega⟩
    rw [hv, Int.toNat_natCast] at HS
    have hvl : v < 256 := by omega
    have hu := u64_small v (by omega)
    have HE := hid (uerr_one v hvl)
    clear h h1 h2 hx1 hx2
    go_enter Try.func34, Try.ntmps34
    go_wp2_with fail
    refine (H.out.u v 1 (by omega) HE.out (by omega)).mono ?_
    rintro e w2 ⟨rfl, hst⟩
    have HF := hid hst
    clear hst
    go_wp2_with fail
    refine bodyPost_ret (results_none Try.results34 _ _ _) rfl ?_
    exact ⟨rfl, by rw [HS.out]; exact HF.out⟩
  · have q8 : (n == 8) = false := by rw [beq_eq_false_iff_ne]; exact h8
    obtain ⟨hd2, hdf, hf7⟩ := wd_fre (n := n) (by omega) hn2
    have hd3 := wd_le n
    have HS := hid (show smp n x = le (u64 (x * 2 ^ fre n)) (wd n) by unfold smp; rw [if_neg h8])
    have HE := hid (smp_err n.toNat (fre n) (wd n) x (by omega) hdf (by omega) (by omega) h1 h2)
    obtain ⟨hy1, hy2⟩ := smp_in n.toNat (fre n) (wd n) x (by omega) hdf hd3 h1 h2
    have HFR := hid fun w => free_any n hn1 hn2 w
    have HWD := hid fun w => width_any n w
    rw [show 8 * (wd n : Int) - n = (fre n : Int) by omega] at HFR
    generalize fre n = F at *
    generalize wd n = d at *
    have hF0 : (0 : Int) ≤ (F : Int) := by omega
    have hF64 : (F : Int) ≤ 64 := by omega
    obtain ⟨y, hy⟩ : ∃ y, y = x * 2 ^ F := ⟨_, rfl⟩
    rw [← hy] at HS HE hy1 hy2
    have hw : wrap64 (x * 2 ^ F) = y := by rw [← hy]; unfold wrap64; omega
    have hw2 : IntKind.i64.wrap (x * 2 ^ F) = y := by rw [← hy, IntKind.wrap_i64]; omega
    clear h h1 h2 hy hdf h8
    go_enter Try.func34, Try.ntmps34
    go_wp2_with fail
    go_still_tail 7, (by kernel_rfl)
    still_call (qt (HFR.out _))
    repeat still_step
    still_call (qt (HWD.out _))
    repeat still_step
    refine wpStill_nil ?_
    change wpList _ _ _ _ _ wr.drew
    have HB := hid (H.out.below (show Below wr.heap.size wr wr.drew from ⟨rfl, rfl, rfl, Nat.le_refl _, fun _ _ => rfl⟩))
    clear H
    generalize wr.drew = W at HB ⊢
    go_wp2_with fail
    refine (HB.out.i y d HE.out (by omega)).mono ?_
    rintro e w2 ⟨rfl, hst⟩
    have HF := hid hst
    clear hst
    go_wp2_with fail
    go_end0
    exact ⟨rfl, by rw [HS.out]; exact HF.out⟩
set_option maxRecDepth 20000 in
theorem bytesof_any (p : Nat) (w : World) : Calls Try.prog 33 #[.int .i64 (p : Int)] w fun e w' => e = .returned (.int .i64 ((if p = 2 ∨ p = 3 then 4 else 2 : Nat) : Int)) ∧ w = w' := by
  by_cases h2 : p = 2
  · subst h2
    go_enter Try.func33, Try.ntmps33
    go_wp2_with fail
    go_ret
    exact ⟨rfl, rfl⟩
  · have q2 : ((p : Int) == 2) = false := by rw [beq_eq_false_iff_ne]; omega
    by_cases h3 : p = 3
    · subst h3
      go_enter Try.func33, Try.ntmps33
      go_wp2_with fail
      go_ret
      exact ⟨rfl, rfl⟩
    · have q3 : ((p : Int) == 3) = false := by rw [beq_eq_false_iff_ne]; omega
      go_enter Try.func33, Try.ntmps33
      go_wp2_with fail
      go_ret
      exact ⟨rfl, rfl⟩
/-- A format's value. -/
def fv (ch bits rate : Int) : Value := .agg #[.int .i64 ch, .int .i64 bits, .int .i64 rate]
set_option maxRecDepth 20000 in
theorem frame_any (ch bits rate : Int) (h1 : 0 ≤ ch) (h2 : ch ≤ 1073741824) (w : World) :
    Calls Try.prog 27 #[.agg #[.int .i64 ch, .int .i64 bits, .int .i64 rate]] w fun e w' => e = .returned (.int .i64 (ch * (wd bits : Int))) ∧ Below w.heap.size w w' := by
  have HB0 := hid (bel_new w (.cells #[.int .i64 ch, .int .i64 bits, .int .i64 rate] 23))
  have HW := hid fun w => width_any bits w
  have hs0 : (w.alloc (.cells #[.int .i64 ch, .int .i64 bits, .int .i64 rate] 23)).cell? ⟨w.heap.size, 0, none⟩ = some (.int .i64 ch) := by simp
  have hs1 : (w.alloc (.cells #[.int .i64 ch, .int .i64 bits, .int .i64 rate] 23)).cell? ⟨w.heap.size, 1, none⟩ = some (.int .i64 bits) := by simp
  have hd := wd_le bits
  generalize wd bits = d at *
  have hm : 0 ≤ ch * (d : Int) ∧ ch * (d : Int) ≤ 4294967296 := by
    have hd4 : d = 0 ∨ d = 1 ∨ d = 2 ∨ d = 3 := by omega
    rcases hd4 with rfl | rfl | rfl | rfl <;> omega
  obtain ⟨hm1, hm2⟩ := hm
  obtain ⟨y, hy⟩ : ∃ y, y = ch * (d : Int) := ⟨_, rfl⟩
  have hw : wrap64 (ch * (d : Int)) = y := by rw [← hy]; unfold wrap64; omega
  rw [← hy] at hm1 hm2 ⊢
  clear hy
  go_enter Try.func27, Try.ntmps27
  go_wp2_with fail
  generalize w.alloc (.cells #[.int .i64 ch, .int .i64 bits, .int .i64 rate] 23) = W at *
  go_quiet (exact Calls.quiet_of_same ((HW.out _).mono fun _ _ ⟨a, b⟩ => ⟨a, b.symm⟩))
  have HF := hid (HB0.out.trans (show Below w.heap.size W (W.drewN nq) from ⟨rfl, rfl, rfl, Nat.le_refl _, fun _ _ => rfl⟩))
  go_wp2_with fail
  go_ret
  refine ⟨?_, HF.out⟩
  show Ending.returned (.int .i64 (wrap64 (ch * (d : Int)))) = _
  rw [hw]
end Go.Proofs.Ytkdpalmdcnpnoaa.Wv
namespace Go.Proofs.Ytkdpalmdcnpnoaa.Wv
open Go.RowKit Gen Fld

/-- Six cells that are stored one by one. -/
theorem six_set (w : World) (q : Nat) (v0 v1 v2 v3 v4 v5 : Value) (h : ∀ i, i < 6 → ∃ u, w.cell? ⟨q, i, none⟩ = some u) :
    let W := (((((w.setCell ⟨q, 0, none⟩ v0).setCell ⟨q, 1, none⟩ v1).setCell ⟨q, 2, none⟩ v2).setCell ⟨q, 3, none⟩ v3).setCell ⟨q, 4, none⟩ v4).setCell ⟨q, 5, none⟩ v5
    W.cell? ⟨q, 0, none⟩ = some v0 ∧ W.cell? ⟨q, 1, none⟩ = some v1 ∧ W.cell? ⟨q, 2, none⟩ = some v2 ∧ W.cell? ⟨q, 3, none⟩ = some v3 ∧ W.cell? ⟨q, 4, none⟩ = some v4 ∧ W.cell? ⟨q, 5, none⟩ = some v5 := by
  have o : ∀ (W : World) (i j : Nat) (v : Value), i ≠ j → (W.setCell ⟨q, j, none⟩ v).cell? ⟨q, i, none⟩ = W.cell? ⟨q, i, none⟩ := fun W i j v hij => World.cell?_setCell_other _ _ _ _ (fun e => hij (congrArg Addr.off e).symm)
  have s : ∀ (W : World) (i : Nat) (v u : Value), W.cell? ⟨q, i, none⟩ = some u → (W.setCell ⟨q, i, none⟩ v).cell? ⟨q, i, none⟩ = some v := fun W i v u hu => World.cell?_setCell_same _ _ _ (by rw [hu])
  obtain ⟨u0, h0⟩ := h 0 (by decide)
  obtain ⟨u1, h1⟩ := h 1 (by decide)
  obtain ⟨u2, h2⟩ := h 2 (by decide)
  obtain ⟨u3, h3⟩ := h 3 (by decide)
  obtain ⟨u4, h4⟩ := h 4 (by decide)
  obtain ⟨u5, h5⟩ := h 5 (by decide)
  refine ⟨?_, ?_, ?_, ?_, ?_, ?_⟩
  · rw [o _ 0 5 _ (by decide), o _ 0 4 _ (by decide), o _ 0 3 _ (by decide), o _ 0 2 _ (by decide), o _ 0 1 _ (by decide)]; exact s _ 0 _ _ h0
  · rw [o _ 1 5 _ (by decide), o _ 1 4 _ (by decide), o _ 1 3 _ (by decide), o _ 1 2 _ (by decide)]; exact s _ 1 _ _ ((o _ 1 0 _ (by decide)).trans h1)
  · rw [o _ 2 5 _ (by decide), o _ 2 4 _ (by decide), o _ 2 3 _ (by decide)]; exact s _ 2 _ _ ((o _ 2 1 _ (by decide)).trans ((o _ 2 0 _ (by decide)).trans h2))
  · rw [o _ 3 5 _ (by decide), o _ 3 4 _ (by decide)]; exact s _ 3 _ _ ((o _ 3 2 _ (by decide)).trans ((o _ 3 1 _ (by decide)).trans ((o _ 3 0 _ (by decide)).trans h3)))
  · rw [o _ 4 5 _ (by decide)]; exact s _ 4 _ _ ((o _ 4 3 _ (by decide)).trans ((o _ 4 2 _ (by decide)).trans ((o _ 4 1 _ (by decide)).trans ((o _ 4 0 _ (by decide)).trans h4))))
  · exact s _ 5 _ _ ((o _ 5 4 _ (by decide)).trans ((o _ 5 3 _ (by decide)).trans ((o _ 5 2 _ (by decide)).trans ((o _ 5 1 _ (by decide)).trans ((o _ 5 0 _ (by decide)).trans h5)))))
/-- The numbers of a format. -/
def nms (c r y n : Nat) : Value := .agg #[.int .u64 1, .int .u64 (c : Int), .int .u64 (r : Int), .int .u64 ((r * y : Nat) : Int), .int .u64 (y : Int), .int .u64 (n : Int)]
set_option maxRecDepth 20000 in
set_option maxHeartbeats 2000000 in
theorem numbers_any (c n r : Nat) (hc : c ≤ 8) (hn : n ≤ 24) (hr : r ≤ 1048575) (w : World) :
    Calls Try.prog 31 #[.agg #[.int .i64 (c : Int), .int .i64 (n : Int), .int .i64 (r : Int)]] w fun e w' => e = .returned (nms c r (c * wd n) n) ∧ Below w.heap.size w w' := by
  have HFR := hid fun w => frame_any (c : Int) (n : Int) (r : Int) (by omega) (by omega) w
  have hd := wd_le (n : Int)
  rw [show (c : Int) * (wd (n : Int) : Int) = ((c * wd (n : Int) : Nat) : Int) by push_cast; rfl] at HFR
  have hy : c * wd (n : Int) ≤ 24 := Nat.le_trans (Nat.mul_le_mul hc hd) (by decide)
  generalize c * wd (n : Int) = y at *
  have hry : r * y ≤ 25165800 := Nat.le_trans (Nat.mul_le_mul hr hy) (by decide)
  have hw1 : wrap64 ((r : Int) * (y : Int)) = ((r * y : Nat) : Int) := by
    rw [← Int.natCast_mul]; unfold wrap64; omega
  have hw2 : IntKind.i64.wrap ((r : Int) * (y : Int)) = ((r * y : Nat) : Int) := by
    rw [← Int.natCast_mul, IntKind.wrap_i64]; omega
  have hu1 := u64_small c (by omega)
  have hu2 := u64_small n (by omega)
  have hu3 := u64_small r (by omega)
  have hu4 := u64_small y (by omega)
  have hu5 := u64_small (r * y) (by omega)
  have HNM := hid (show nms c r y n = .agg #[.int .u64 1, .int .u64 (c : Int), .int .u64 (r : Int), .int .u64 ((r * y : Nat) : Int), .int .u64 (y : Int), .int .u64 (n : Int)] from rfl)
  generalize r * y = z at *
  go_enter Try.func31, Try.ntmps31
  go_wp2_with fail
  have HB0 := hid (show Below w.heap.size w ((w.alloc (.cells #[.int .i64 (c : Int), .int .i64 (n : Int), .int .i64 (r : Int)] 23)).alloc (.cells #[.int .u64 0, .int .u64 0, .int .u64 0, .int .u64 0, .int .u64 0, .int .u64 0] 68)) from (bel_new w _).alloc (bel_new w _).size _)
  have hz0 : ((w.alloc (.cells #[.int .i64 (c : Int), .int .i64 (n : Int), .int .i64 (r : Int)] 23)).alloc (.cells #[.int .u64 0, .int .u64 0, .int .u64 0, .int .u64 0, .int .u64 0, .int .u64 0] 68)).heap.size = w.heap.size + 1 + 1 := by rw [Deep.nblk_alloc, Deep.nblk_alloc]
  have hS0 : (fun w' => w'.cell? ⟨w.heap.size, 0, none⟩ = some (.int .i64 (c : Int)) ∧ w'.cell? ⟨w.heap.size, 1, none⟩ = some (.int .i64 (n : Int)) ∧ w'.cell? ⟨w.heap.size, 2, none⟩ = some (.int .i64 (r : Int))) ((w.alloc (.cells #[.int .i64 (c : Int), .int .i64 (n : Int), .int .i64 (r : Int)] 23)).alloc (.cells #[.int .u64 0, .int .u64 0, .int .u64 0, .int .u64 0, .int .u64 0, .int .u64 0] 68)) := by
    refine ⟨?_, ?_, ?_⟩ <;> (rw [World.cell?_alloc_lt _ _ _ (by simp)]; simp)
  have hP0 : (fun (w' : World) => (w'.cell? ⟨w.heap.size + 1, 0, none⟩ = some (.int .u64 0) ∧ w'.cell? ⟨w.heap.size + 1, 1, none⟩ = some (.int .u64 0) ∧ w'.cell? ⟨w.heap.size + 1, 2, none⟩ = some (.int .u64 0) ∧ w'.cell? ⟨w.heap.size + 1, 3, none⟩ = some (.int .u64 0) ∧ w'.cell? ⟨w.heap.size + 1, 4, none⟩ = some (.int .u64 0) ∧ w'.cell? ⟨w.heap.size + 1, 5, none⟩ = some (.int .u64 0)) ∧ (w'.frozen? ⟨w.heap.size + 1, 0, none⟩ = false ∧ w'.frozen? ⟨w.heap.size + 1, 1, none⟩ = false ∧ w'.frozen? ⟨w.heap.size + 1, 2, none⟩ = false ∧ w'.frozen? ⟨w.heap.size + 1, 3, none⟩ = false ∧ w'.frozen? ⟨w.heap.size + 1, 4, none⟩ = false ∧ w'.frozen? ⟨w.heap.size + 1, 5, none⟩ = false)) ((w.alloc (.cells #[.int .i64 (c : Int), .int .i64 (n : Int), .int .i64 (r : Int)] 23)).alloc (.cells #[.int .u64 0, .int .u64 0, .int .u64 0, .int .u64 0, .int .u64 0, .int .u64 0] 68)) := by
    have e1 := heap_alloc_new (w.alloc (.cells #[.int .i64 (c : Int), .int .i64 (n : Int), .int .i64 (r : Int)] 23)) (.cells #[.int .u64 0, .int .u64 0, .int .u64 0, .int .u64 0, .int .u64 0, .int .u64 0] 68)
    rw [Deep.nblk_alloc] at e1
    refine ⟨⟨?_, ?_, ?_, ?_, ?_, ?_⟩, ⟨?_, ?_, ?_, ?_, ?_, ?_⟩⟩
    all_goals first | (unfold World.cell?; rw [e1]; rfl) | (unfold World.frozen?; rw [e1]; rfl)
  generalize ((w.alloc (.cells #[.int .i64 (c : Int), .int .i64 (n : Int), .int .i64 (r : Int)] 23)).alloc (.cells #[.int .u64 0, .int .u64 0, .int .u64 0, .int .u64 0, .int .u64 0, .int .u64 0] 68)) = W0 at *
  have HS := hid (show ∀ w' : World, Below W0.heap.size W0 w' → (fun w' => w'.cell? ⟨w.heap.size, 0, none⟩ = some (.int .i64 (c : Int)) ∧ w'.cell? ⟨w.heap.size, 1, none⟩ = some (.int .i64 (n : Int)) ∧ w'.cell? ⟨w.heap.size, 2, none⟩ = some (.int .i64 (r : Int))) w' from fun w' hb => by
    obtain ⟨h1, h2, h3⟩ := hS0
    exact ⟨(World.cell?_of_block (a := ⟨w.heap.size, 0, none⟩) (hb.block w.heap.size (by omega))).trans h1, (World.cell?_of_block (a := ⟨w.heap.size, 1, none⟩) (hb.block w.heap.size (by omega))).trans h2, (World.cell?_of_block (a := ⟨w.heap.size, 2, none⟩) (hb.block w.heap.size (by omega))).trans h3⟩)
  have HP := hid (show ∀ w' : World, Below W0.heap.size W0 w' → (w'.cell? ⟨w.heap.size + 1, 0, none⟩ = some (.int .u64 0) ∧ w'.cell? ⟨w.heap.size + 1, 1, none⟩ = some (.int .u64 0) ∧ w'.cell? ⟨w.heap.size + 1, 2, none⟩ = some (.int .u64 0) ∧ w'.cell? ⟨w.heap.size + 1, 3, none⟩ = some (.int .u64 0) ∧ w'.cell? ⟨w.heap.size + 1, 4, none⟩ = some (.int .u64 0) ∧ w'.cell? ⟨w.heap.size + 1, 5, none⟩ = some (.int .u64 0)) ∧ (w'.frozen? ⟨w.heap.size + 1, 0, none⟩ = false ∧ w'.frozen? ⟨w.heap.size + 1, 1, none⟩ = false ∧ w'.frozen? ⟨w.heap.size + 1, 2, none⟩ = false ∧ w'.frozen? ⟨w.heap.size + 1, 3, none⟩ = false ∧ w'.frozen? ⟨w.heap.size + 1, 4, none⟩ = false ∧ w'.frozen? ⟨w.heap.size + 1, 5, none⟩ = false) from fun w' hb => by
    obtain ⟨⟨h1, h2, h3, h4, h5, h6⟩, ⟨k1, k2, k3, k4, k5, k6⟩⟩ := hP0
    have hk := hb.block (w.heap.size + 1) (by omega)
    exact ⟨⟨(World.cell?_of_block (a := ⟨w.heap.size + 1, 0, none⟩) hk).trans h1, (World.cell?_of_block (a := ⟨w.heap.size + 1, 1, none⟩) hk).trans h2, (World.cell?_of_block (a := ⟨w.heap.size + 1, 2, none⟩) hk).trans h3, (World.cell?_of_block (a := ⟨w.heap.size + 1, 3, none⟩) hk).trans h4, (World.cell?_of_block (a := ⟨w.heap.size + 1, 4, none⟩) hk).trans h5, (World.cell?_of_block (a := ⟨w.heap.size + 1, 5, none⟩) hk).trans h6⟩, ⟨(World.frozen?_of_block (a := ⟨w.heap.size + 1, 0, none⟩) hk).trans k1, (World.frozen?_of_block (a := ⟨w.heap.size + 1, 1, none⟩) hk).trans k2, (World.frozen?_of_block (a := ⟨w.heap.size + 1, 2, none⟩) hk).trans k3, (World.frozen?_of_block (a := ⟨w.heap.size + 1, 3, none⟩) hk).trans k4, (World.frozen?_of_block (a := ⟨w.heap.size + 1, 4, none⟩) hk).trans k5, (World.frozen?_of_block (a := ⟨w.heap.size + 1, 5, none⟩) hk).trans k6⟩⟩)
  have HZ := hid hz0
  clear hS0 hP0 hz0 hw1 hc hn hr hd hy hry
  have b0 : Below W0.heap.size W0 W0.drew := ⟨rfl, rfl, rfl, Nat.le_refl _, fun _ _ => rfl⟩
  have S0 := HS.out _ b0
  go_region_held3 (fun w' => w'.cell? ⟨w.heap.size, 0, none⟩ = some (.int .i64 (c : Int)) ∧ w'.cell? ⟨w.heap.size, 1, none⟩ = some (.int .i64 (n : Int)) ∧ w'.cell? ⟨w.heap.size, 2, none⟩ = some (.int .i64 (r : Int)))
    (first | with_reducible exact S0 | with_reducible exact S1 | with_reducible exact S2 | go_keep)
    ((first
      | (go_at_call 27; (with_reducible refine (HFR.out _).mono ?_); rintro e w2 ⟨rfl, hb2⟩; have b2 := b1.trans (hb2.mono b1.size); have S2 := HS.out _ b2; obtain ⟨⟨h1, h2, h3, h4, h5, h6⟩, ⟨k1, k2, k3, k4, k5, k6⟩⟩ := HP.out _ b2)
      | (go_at_call 27; (with_reducible refine (HFR.out _).mono ?_); rintro e w1 ⟨rfl, hb1⟩; have b1 := b0.trans (hb1.mono b0.size); have S1 := HS.out _ b1)))
  have hfs := six_set w2 (w.heap.size + 1) (.int .u64 1) (.int .u64 (c : Int)) (.int .u64 (r : Int)) (.int .u64 (z : Int)) (.int .u64 (y : Int)) (.int .u64 (n : Int)) (fun i hi => by
    match i, hi with
    | 0, _ => exact ⟨_, h1⟩
    | 1, _ => exact ⟨_, h2⟩
    | 2, _ => exact ⟨_, h3⟩
    | 3, _ => exact ⟨_, h4⟩
    | 4, _ => exact ⟨_, h5⟩
    | 5, _ => exact ⟨_, h6⟩)
  have HB2 := hid (HB0.out.trans (b2.mono HB0.out.size))
  have hsb : w.heap.size ≤ w.heap.size + 1 := Nat.le_succ _
  have HBF := hid ((((((HB2.out.setCell (p := ⟨w.heap.size + 1, 0, none⟩) hsb (.int .u64 1)).setCell (p := ⟨w.heap.size + 1, 1, none⟩) hsb (.int .u64 (c : Int))).setCell (p := ⟨w.heap.size + 1, 2, none⟩) hsb (.int .u64 (r : Int))).setCell (p := ⟨w.heap.size + 1, 3, none⟩) hsb (.int .u64 (z : Int))).setCell (p := ⟨w.heap.size + 1, 4, none⟩) hsb (.int .u64 (y : Int))).setCell (p := ⟨w.heap.size + 1, 5, none⟩) hsb (.int .u64 (n : Int)))
  clear h1 h2 h3 h4 h5 h6 k1 k2 k3 k4 k5 k6 S0 S1 S2 b0 b1 b2 hb1 hb2 hsb
  generalize (((((w2.setCell ⟨w.heap.size + 1, 0, none⟩ (.int .u64 1)).setCell ⟨w.heap.size + 1, 1, none⟩ (.int .u64 (c : Int))).setCell ⟨w.heap.size + 1, 2, none⟩ (.int .u64 (r : Int))).setCell ⟨w.heap.size + 1, 3, none⟩ (.int .u64 (z : Int))).setCell ⟨w.heap.size + 1, 4, none⟩ (.int .u64 (y : Int))).setCell ⟨w.heap.size + 1, 5, none⟩ (.int .u64 (n : Int)) = WF at *
  obtain ⟨y0, y1, y2, y3, y4, y5⟩ := hfs
  go_wp2_with fail
  refine bodyPost_ret (v := .agg #[.int .u64 1, .int .u64 (c : Int), .int .u64 (r : Int), .int .u64 (z : Int), .int .u64 (y : Int), .int .u64 (n : Int)]) ?_ rfl ?_
  · simp only [results, show Try.f31.results = #[.cell 2 68] from by kernel_rfl]
    go_simp
  · exact ⟨by rw [HNM.out], HBF.out⟩
end Go.Proofs.Ytkdpalmdcnpnoaa.Wv
namespace Go.Proofs.Ytkdpalmdcnpnoaa.Wv
open Go.RowKit Gen Fld Pcm

/-- A format chunk's bytes. -/
def fmtb (c n r : Nat) : List Nat := le 1 2 ++ le c 2 ++ le r 4 ++ le (r * (c * wd n)) 4 ++ le (c * wd n) 2 ++ le n 2
theorem fmtb_len (c n r : Nat) : (fmtb c n r).length = 16 := by unfold fmtb; simp only [List.length_append, le_len]
/-- A frame's first samples; the first frames. -/
def frp (d : Dat) (k : Nat) : Nat → List Nat
  | 0 => []
  | i + 1 => frp d k i ++ smp d.f.bits (d.X i k)
def dta (d : Dat) : Nat → List Nat
  | 0 => []
  | k + 1 => dta d k ++ frp d k d.n
theorem frp_len (d : Dat) (k : Nat) : ∀ i, (frp d k i).length = i * wd d.f.bits
  | 0 => (Nat.zero_mul _).symm
  | i + 1 => by
    show (frp d k i ++ smp d.f.bits (d.X i k)).length = _
    rw [List.length_append, frp_len d k i, smp_len, Nat.succ_mul]
theorem dta_len (d : Dat) : ∀ k, (dta d k).length = k * (d.n * wd d.f.bits)
  | 0 => (Nat.zero_mul _).symm
  | k + 1 => by
    show (dta d k ++ frp d k d.n).length = _
    rw [List.length_append, dta_len d k, frp_len, Nat.succ_mul]
/-- How many bytes the data have. -/
def dsz (d : Dat) : Nat := d.cnt * (d.n * wd d.f.bits)
/-- What stands ahead of the samples; all. -/
def hdr (d : Dat) : List Nat := nsz ⟨#[82, 73, 70, 70]⟩ (4 + 24 + (8 + dsz d + dsz d % 2)) ++ [87, 65, 86, 69] ++ nsz ⟨#[102, 109, 116, 32]⟩ 16 ++ fmtb d.n d.f.bits.toNat d.f.rate.toNat ++ nsz ⟨#[100, 97, 116, 97]⟩ (dsz d)
def wby (d : Dat) : List Nat := hdr d ++ dta d d.cnt ++ List.replicate (dsz d % 2) 0
theorem nsz_len (s : ByteArray) (n : Nat) : (nsz s n).length = s.size + 4 := by unfold nsz; rw [List.length_append, sb_len, le_len]
theorem hdr_len (d : Dat) : (hdr d).length = 44 := by
  unfold hdr
  simp only [List.length_append, nsz_len, fmtb_len]
  rfl
theorem wby_len (d : Dat) : (wby d).length = 44 + dsz d + dsz d % 2 := by
  unfold wby
  rw [List.length_append, List.length_append, hdr_len, dta_len, List.length_replicate]
  rfl
/-- What is wrong with sound to be written. -/
def wcode (d : Dat) : Int := if d.chk = 0 then (if 268435456 < dsz d then 4 else 0) else d.chk
def wlist (d : Dat) : List Nat := if wcode d = 0 then wby d else []
end Go.Proofs.Ytkdpalmdcnpnoaa.Wv
namespace Go.Proofs.Ytkdpalmdcnpnoaa.Wv
open Go.RowKit Gen Fld Pcm

/-- What Write leaves. -/
def WrP (w : World) (d : Dat) (e : Ending) (w' : World) : Prop := ∃ ao cap, e = .returned (.tuple #[.slice ao (wlist d).length cap, .int .i64 (wcode d)]) ∧ NL w ao cap (wlist d) w'
theorem wrp_no {w w' : World} {d : Dat} {e : Int} (he : wcode d = e) (h0 : e ≠ 0) (hb : Below w.heap.size w w') : WrP w d (.returned (.tuple #[.slice none 0 0, .int .i64 e])) w' := by
  have hl : wlist d = [] := by unfold wlist; rw [he, if_neg h0]
  unfold WrP
  rw [hl, he]
  exact ⟨none, 0, rfl, World.ownsRow_nil _ _ _ _, hb, fun _ h => by cases h⟩
theorem conv4 (w : World) : (convert 29 29 (.slice (some ⟨w.heap.size, 0, none⟩) 4 4)).run Try.prog (w.alloc (.cells #[.int .u8 87, .int .u8 65, .int .u8 86, .int .u8 69] 5)) = .ok (.slice (some ⟨w.heap.size, 0, none⟩) 4 4) (w.alloc (.cells #[.int .u8 87, .int .u8 65, .int .u8 86, .int .u8 69] 5 (4, 5))) :=
  Lib.run_convert_bytes_const (P := Try.prog) w 29 5 #[.int .u8 87, .int .u8 65, .int .u8 86, .int .u8 69] 4 4 Try.underlying29 Try.underlying5
theorem byts4 (w : World) : Byts (w.alloc (.cells #[.int .u8 87, .int .u8 65, .int .u8 86, .int .u8 69] 5 (4, 5))) (some ⟨w.heap.size, 0, none⟩) [87, 65, 86, 69] :=
  ⟨fun b hb => by simp at hb; omega,
   fun j x hj => by
    refine ⟨w.heap.size, 0, rfl, ?_⟩
    rcases j with _ | _ | _ | _ | j
    all_goals first | (simp at hj; subst hj; unfold World.cell?; rw [heap_alloc_new]; rfl) | (simp at hj)⟩

theorem und68 : Try.prog.underlying 68 = some (.array 6 66) := by kernel_rfl
theorem ix_any (c0 c1 c2 c3 c4 c5 : Value) (w : World) : (Instr.index 68 (.agg #[c0, c1, c2, c3, c4, c5]) (.int .i64 0)).run Try.prog w = .ok c0 w ∧ (Instr.index 68 (.agg #[c0, c1, c2, c3, c4, c5]) (.int .i64 1)).run Try.prog w = .ok c1 w ∧ (Instr.index 68 (.agg #[c0, c1, c2, c3, c4, c5]) (.int .i64 2)).run Try.prog w = .ok c2 w ∧ (Instr.index 68 (.agg #[c0, c1, c2, c3, c4, c5]) (.int .i64 3)).run Try.prog w = .ok c3 w ∧ (Instr.index 68 (.agg #[c0, c1, c2, c3, c4, c5]) (.int .i64 4)).run Try.prog w = .ok c4 w ∧ (Instr.index 68 (.agg #[c0, c1, c2, c3, c4, c5]) (.int .i64 5)).run Try.prog w = .ok c5 w := by
  refine ⟨?_, ?_, ?_, ?_, ?_, ?_⟩ <;> simp [Instr.index, run_underlying und68, asIntOf, go_sem]
/-- The numbers of a format chunk, one by one. -/
def nbt (c r y n : Nat) : Nat → List Nat
  | 0 => le 1 2
  | 1 => le c 2
  | 2 => le r 4
  | 3 => le (r * y) 4
  | 4 => le y 2
  | _ => le n 2
def nbs (c r y n : Nat) : Nat → List Nat
  | 0 => []
  | k + 1 => nbs c r y n k ++ nbt c r y n k
theorem nbs_len (c r y n : Nat) : ∀ k, (nbs c r y n k).length ≤ k * 4
  | 0 => Nat.le_refl _
  | k + 1 => by
    show (nbs c r y n k ++ nbt c r y n k).length ≤ _
    rw [List.length_append]
    have h1 := nbs_len c r y n k
    have h2 : (nbt c r y n k).length ≤ 4 := by unfold nbt; split <;> (rw [le_len]; omega)
    omega
set_option maxRecDepth 20000 in
set_option maxHeartbeats 4000000 in
theorem write_ok {w : World} {d : Dat} (h : Snd w d) (hk : d.chk = 0) (nb rt : Nat) (hbits : d.f.bits = (nb : Int)) (hrate : d.f.rate = (rt : Int)) :
    Calls Try.prog 10 #[.agg #[.int .i64 (d.n : Int), .int .i64 (nb : Int), .int .i64 (rt : Int), .slice d.a d.n d.cap]] w (WrP w d) := by
  obtain ⟨hr, hch, hn8, hn0, hcnt, hln, hfar⟩ := chk_ok hk
  have haddr := h.addr hn0
  rw [haddr]
  obtain ⟨hr1, hr2, hr3⟩ := hr
  clear hr1
  rw [hbits] at hr2
  rw [hrate] at hr3
  have H := hid h
  have hdv : d.v = .agg #[.int .i64 (d.n : Int), .int .i64 (nb : Int), .int .i64 (rt : Int), .slice (some ⟨d.b, d.off, none⟩) d.n d.cap] := by unfold Dat.v; rw [← hch, hbits, hrate, haddr]
  have HCK := hid fun (w' : World) (hb : Below w.heap.size w w') => check_any w' d (h.below hb)
  have HCN := hid fun (w' : World) (hb : Below w.heap.size w w') => count_any w' d (h.below hb)
  rw [hdv, hk] at HCK
  rw [hdv] at HCN
  have HFR := hid fun w' => frame_any (d.n : Int) (nb : Int) (rt : Int) (by omega) (by omega) w'
  have HNM := hid fun w' => numbers_any d.n nb rt hn8 (by omega) (by omega) w'
  have hd := wd_le (nb : Int)
  have hyl : d.n * wd (nb : Int) ≤ 24 := Nat.le_trans (Nat.mul_le_mul hn8 hd) (by decide)
  have hS0 : dsz d = d.cnt * (d.n * wd (nb : Int)) := by unfold dsz; rw [hbits]
  rw [show (d.n : Int) * (wd (nb : Int) : Int) = ((d.n * wd (nb : Int) : Nat) : Int) by push_cast; rfl] at HFR
  have HWC := hid (show wcode d = if 268435456 < dsz d then 4 else 0 by unfold wcode; rw [if_pos hk])
  have hSl : dsz d ≤ 4294967295 * 24 := by rw [hS0]; exact Nat.mul_le_mul hcnt hyl
  have HWS := hid (show wrap64 ((d.cnt : Int) * ((d.n * wd (nb : Int) : Nat) : Int)) = (dsz d : Int) by
    rw [← Int.natCast_mul, ← hS0]
    have h9 : dsz d ≤ 103079215080 := hSl
    clear hSl hS0 HFR
    generalize dsz d = S at *
    unfold wrap64; omega)
  have HDT := hid (show ∀ k, k ≤ d.cnt → (dta d k).length ≤ dsz d from fun k hk => by rw [dta_len]; exact Nat.mul_le_mul_right _ hk)
  have HFP := hid (show ∀ k i, i ≤ d.n → (frp d k i).length ≤ 24 from fun k i hi => by rw [frp_len]; exact Nat.le_trans (Nat.mul_le_mul (Nat.le_trans hi hn8) (wd_le _)) (by decide))
  have HXB := hid (show ∀ j k, j < d.n → k < d.cnt → -(2 ^ ((nb : Int).toNat - 1) : Int) ≤ d.X j k ∧ d.X j k ≤ 2 ^ ((nb : Int).toNat - 1) - 1 from fun i j hi hj => by
    rw [← hbits]
    cases hb : beyond (2 ^ (d.f.bits.toNat - 1)) (d.X i j) with
    | true =>
      have h1 : anyB (fun j => beyond (2 ^ (d.f.bits.toNat - 1)) (d.X i j)) (d.ln i) = true := (any_iff _ _).2 ⟨j, by rw [hln i hi]; exact hj, hb⟩
      have h2 : d.far = true := (any_iff (fun i => anyB (fun j => beyond (2 ^ (d.f.bits.toNat - 1)) (d.X i j)) (d.ln i)) d.n).2 ⟨i, hi, h1⟩
      rw [hfar] at h2; cases h2
    | false =>
      unfold beyond at hb
      rw [Bool.not_eq_false', decide_eq_true_eq] at hb
      push_cast at hb
      exact hb)
  have HPD := hid (pad_any (dsz d))
  have HLS := hid (long_any (dsz d) (Nat.le_trans hSl (by decide)))
  have HL16 := hid (long_any 16 (by decide))
  have HYL := hid hyl
  have HFB := hid (show fmtb d.n d.f.bits.toNat d.f.rate.toNat = nbs d.n rt (d.n * wd (nb : Int)) nb 6 by rw [hbits, hrate]; rfl)
  generalize d.n * wd (nb : Int) = y at *
  generalize hSS : dsz d = S at *
  have HB0 := hid (below_new w (.cells #[.int .i64 (d.n : Int), .int .i64 (nb : Int), .int .i64 (rt : Int), .slice (some ⟨d.b, d.off, none⟩) d.n d.cap] 26))
  have hcells : ∀ w', Below (w.alloc (.cells #[.int .i64 (d.n : Int), .int .i64 (nb : Int), .int .i64 (rt : Int), .slice (some ⟨d.b, d.off, none⟩) d.n d.cap] 26)).heap.size (w.alloc (.cells #[.int .i64 (d.n : Int), .int .i64 (nb : Int), .int .i64 (rt : Int), .slice (some ⟨d.b, d.off, none⟩) d.n d.cap] 26)) w' → w'.cell? ⟨w.heap.size, 0, none⟩ = some (.int .i64 (d.n : Int)) ∧ w'.cell? ⟨w.heap.size, 1, none⟩ = some (.int .i64 (nb : Int)) ∧ w'.cell? ⟨w.heap.size, 2, none⟩ = some (.int .i64 (rt : Int)) ∧ w'.cell? ⟨w.heap.size, 3, none⟩ = some (.slice (some ⟨d.b, d.off, none⟩) d.n d.cap) := fun w' hb => by
    have hlt : w.heap.size < (w.alloc (.cells #[.int .i64 (d.n : Int), .int .i64 (nb : Int), .int .i64 (rt : Int), .slice (some ⟨d.b, d.off, none⟩) d.n d.cap] 26)).heap.size := by simp
    have e := (hb.block w.heap.size hlt).trans (heap_alloc_new w _)
    refine ⟨?_, ?_, ?_, ?_⟩ <;> (unfold World.cell?; rw [e]; rfl)
  have HC := hid hcells
  have HCH := hid hch
  have HBI := hid hbits
  have HLN := hid hln
  have HFA := hid hfar
  have HSS := hid hSS
  clear haddr hcells hdv hd hyl hS0 hSl hk hch hbits hrate hln hfar hSS
  obtain ⟨b0, b1, b2, b3⟩ := HC.out _ (Below.refl _ _)
  go_enter Try.func10, Try.ntmps10
  go_wp2_with fail
  generalize w.alloc (.cells #[.int .i64 (d.n : Int), .int .i64 (nb : Int), .int .i64 (rt : Int), .slice (some ⟨d.b, d.off, none⟩) d.n d.cap] 26) = W0 at *
  refine (HCK.out _ HB0.out).mono ?_
  rintro e w1 ⟨rfl, hb1⟩
  have HB1 := hid hb1
  have HBW1 := hid (HB0.out.trans (hb1.mono HB0.out.size))
  clear b0 b1 b2 b3 hb1
  obtain ⟨b0, b1, b2, b3⟩ := HC.out _ HB1.out
  go_wp2_with fail
  have kc := fun p : Kp w1 => HC.out p.w' (HB1.out.trans ((show Below w1.heap.size w1 p.w' from ⟨p.h.os, p.h.tape, p.h.output, p.h.size, fun k hk => p.h.block k hk (fun x => x)⟩).mono HB1.out.size))
  have k0 := fun p => (kc p).1
  have k1 := fun p => (kc p).2.1
  have k2 := fun p => (kc p).2.2.1
  have k3 := fun p => (kc p).2.2.2
  have HCP := hid fun p : Kp w1 => HCN.out p.w' (HBW1.out.trans ((show Below w1.heap.size w1 p.w' from ⟨p.h.os, p.h.tape, p.h.output, p.h.size, fun k hk => p.h.block k hk (fun x => x)⟩).mono HBW1.out.size))
  clear kc b0 b1 b2 b3
  refine wp_region_quiet_kp (by kernel_rfl) (by kernel_rfl) ?_
  repeat (first | go_big_quiet_step ((first | (go_at_call 26; exact kp_below (HCP.out _)) | (go_at_call 27; exact kp_below (HFR.out _)))) | fail)
  refine wpQuiet_nil ?_
  intro wq hw'
  obtain ⟨⟨wp, hq⟩, hw''⟩ := hw'
  have hw3 : wq = wp := hw''
  clear hw''
  subst hw3
  have hbq : Below w1.heap.size w1 wq := ⟨hq.os, hq.tape, hq.output, hq.size, fun k hk => hq.block k hk (fun x => x)⟩
  have HB2 := hid (HB1.out.trans (hbq.mono HB1.out.size))
  have HBW2 := hid (HBW1.out.trans (hbq.mono HBW1.out.size))
  clear hq hbq k0 k1 k2 k3
  rw [HWS.out]
  by_cases hS : 268435456 < S
  · have hSi : (268435456 : Int) < (S : Int) := by omega
    have HF := hid (wrp_no (w := w) (d := d) (e := 4) (by rw [HWC.out, if_pos hS]) (by decide) HBW2.out)
    clear hS
    go_wp2_with fail
    go_ret2
    exact HF.out
  · have hSi : ¬ (268435456 : Int) < (S : Int) := by omega
    have HW0 := hid (show wcode d = 0 by rw [HWC.out, if_neg hS])
    have hS2 : S ≤ 268435456 := by omega
    clear hS HWC HWS HCK
    rw [show ((8 + 16 + 16 % 2 : Nat) : Int) = 24 from rfl, show ((16 : Nat) : Int) = 16 from rfl] at HL16
    have hls : 8 + S + S % 2 ≤ 268435466 := by omega
    have HLE := hid (show 8 + S + S % 2 = 8 + S + S % 2 from rfl)
    obtain ⟨LS, hLS⟩ : ∃ LS, LS = 8 + S + S % 2 := ⟨_, rfl⟩
    rw [← hLS] at hls HLS
    have HLSE := hid hLS
    clear hLS HLE
    have hzn : wq.heap.size < wq.heap.size + 1 := Nat.lt_succ_self _
    have HST0 := hid (show St wq [] (wq.alloc (.cells #[.int .i64 0, .slice none 0 0] 63)) from ⟨none, 0, new_maker wq, bel_new wq _⟩)
    clear hzn
    obtain ⟨b0, b1, b2, b3⟩ := HC.out _ (HB2.out.trans ((bel_new wq (.cells #[.int .i64 0, .slice none 0 0] 63)).mono HB2.out.size))
    go_wp2_with fail
    refine (HL16.out _).mono ?_
    rintro e w3 ⟨rfl, rfl⟩
    go_wp2_with fail
    refine (HLS.out _).mono ?_
    rintro e w3 ⟨rfl, rfl⟩
    go_wp2_with fail
    have hbg1 := begin_any HST0.out ⟨#[82, 73, 70, 70]⟩ (28 + LS) (by decide) (by omega) (by decide)
    rw [show ((28 + LS : Nat) : Int) = 28 + (LS : Int) by omega] at hbg1
    refine hbg1.mono ?_
    rintro e w4 ⟨rfl, hst⟩
    have HL1 := hid (show ([] ++ nsz ⟨#[82, 73, 70, 70]⟩ (28 + LS)).length = 8 by rw [List.nil_append, nsz_len]; rfl)
    obtain ⟨L1, hL1⟩ : ∃ L1, L1 = [] ++ nsz ⟨#[82, 73, 70, 70]⟩ (28 + LS) := ⟨_, rfl⟩
    rw [← hL1] at hst HL1
    have HE1 := hid hL1
    have HS4 := hid hst
    have HS5 := hid (hst.below (bel_new w4 (.cells #[.int .u8 87, .int .u8 65, .int .u8 86, .int .u8 69] 5 (4, 5))))
    have HY5 := hid (byts4 w4)
    have hcv := conv4 w4
    clear hst hL1 hbg1 b0 b1 b2 b3
    go_wp2_with fail
    clear hcv
    change Calls _ _ _ (w4.alloc (.cells #[.int .u8 87, .int .u8 65, .int .u8 86, .int .u8 69] 5 (4, 5))) _
    refine (HS5.out.raw (m := [87, 65, 86, 69]) (n := 4) (c := 4) rfl HY5.out (fun e => by cases e) (by rw [HL1.out]; decide)).mono ?_
    rintro e w6 ⟨rfl, hst⟩
    have HS6 := hid hst
    clear hst
    go_wp2_with fail
    refine (begin_any HS6.out ⟨#[102, 109, 116, 32]⟩ 16 (by decide) (by decide) (by rw [List.length_append, HL1.out]; decide)).mono ?_
    rintro e w7 ⟨rfl, hst⟩
    have HS7 := hid hst
    obtain ⟨b0, b1, b2, b3⟩ := HC.out _ (HB2.out.trans (hst.bel.mono HB2.out.size))
    clear hst
    go_wp2_with fail
    have hnm := HNM.out w7
    unfold nms at hnm
    refine hnm.mono ?_
    rintro e w8 ⟨rfl, hb8⟩
    have HS8 := hid (HS7.out.below hb8)
    have HL8 := hid (show (L1 ++ [87, 65, 86, 69] ++ nsz ⟨#[102, 109, 116, 32]⟩ 16).length = 20 by rw [List.length_append, List.length_append, HL1.out, nsz_len]; rfl)
    clear hnm hb8 b0 b1 b2 b3
    obtain ⟨L8, hL8⟩ : ∃ L8, L8 = L1 ++ [87, 65, 86, 69] ++ nsz ⟨#[102, 109, 116, 32]⟩ 16 := ⟨_, rfl⟩
    rw [← hL8] at HS8 HL8
    have HE8 := hid hL8
    clear hL8
    have HNL := hid (nbs_len d.n rt y nb)
    have hrt : rt ≤ 1048575 := by omega
    have hnb : nb ≤ 24 := by omega
    have hrty : rt * y ≤ 25165800 := Nat.le_trans (Nat.mul_le_mul hrt HYL.out) (by decide)
    have hy24 := HYL.out
    obtain ⟨z, hz⟩ : ∃ z, z = rt * y := ⟨_, rfl⟩
    rw [← hz] at hrty ⊢
    have HZ := hid hz
    clear hz
    go_wp2_with fail
    go_loopg [43] 6 (fun gg i wr => ∃ k : Nat, k ≤ 6 ∧ gg = 6 - k ∧ i = .int .i64 k ∧ Hid (St wq (L8 ++ nbs d.n rt y nb k) wr))
    case atStart => exact ⟨0, by decide, rfl, rfl, hid (by show St wq (L8 ++ []) _; rw [List.append_nil]; exact HS8.out)⟩
    case round =>
      obtain ⟨k, hk, hg, rfl, HS⟩ := hrel
      have HG := hid hg
      clear hg
      by_cases hlt : k < 6
      · have hll := HNL.out k
        have hlen : (L8 ++ nbs d.n rt y nb k).length ≤ 100 := by rw [List.length_append, HL8.out]; omega
        have HLEN := hid hlen
        clear hll hlen
        obtain rfl | rfl | rfl | rfl | rfl | rfl : k = 0 ∨ k = 1 ∨ k = 2 ∨ k = 3 ∨ k = 4 ∨ k = 5 := by omega
        · have hix := (ix_any (.int .u64 1) (.int .u64 (d.n : Int)) (.int .u64 (rt : Int)) (.int .u64 (z : Int)) (.int .u64 (y : Int)) (.int .u64 (nb : Int)) wr).1
          have HBO := hid fun w => (show Calls Try.prog 33 #[.int .i64 0] w fun e w' => e = .returned (.int .i64 2) ∧ w = w' from bytesof_any 0 w)
          have HUE := hid (uerr_two 1 (by decide))
          have HVL := hid (show 1 < 18446744073709551616 by omega)
          clear hrt hnb hrty hy24 hr2 hr3
          go_wp2_with fail
          refine (HBO.out _).mono ?_
          rintro e w5 ⟨rfl, rfl⟩
          go_wp2_with fail
          refine (HS.out.u 1 2 HVL.out HUE.out (Nat.le_trans HLEN.out (by decide))).mono ?_
          rintro e w5 ⟨rfl, hst⟩
          have HS5 := hid hst
          clear hst
          go_wp2_with fail
          go_roundg (6 - (0 + 1))
          case measure => rw [HG.out]; decide
          case rel => exact ⟨0 + 1, by decide, rfl, by go_num, hid (by show St wq (L8 ++ (nbs d.n rt y nb 0 ++ le 1 2)) _; rw [← List.append_assoc]; exact HS5.out)⟩
        · have hix := (ix_any (.int .u64 1) (.int .u64 (d.n : Int)) (.int .u64 (rt : Int)) (.int .u64 (z : Int)) (.int .u64 (y : Int)) (.int .u64 (nb : Int)) wr).2.1
          have HBO := hid fun w => (show Calls Try.prog 33 #[.int .i64 1] w fun e w' => e = .returned (.int .i64 2) ∧ w = w' from bytesof_any 1 w)
          have HUE := hid (uerr_two d.n (by omega))
          have HVL := hid (show d.n < 18446744073709551616 by omega)
          clear hrt hnb hrty hy24 hr2 hr3
          go_wp2_with fail
          refine (HBO.out _).mono ?_
          rintro e w5 ⟨rfl, rfl⟩
          go_wp2_with fail
          refine (HS.out.u d.n 2 HVL.out HUE.out (Nat.le_trans HLEN.out (by decide))).mono ?_
          rintro e w5 ⟨rfl, hst⟩
          have HS5 := hid hst
          clear hst
          go_wp2_with fail
          go_roundg (6 - (1 + 1))
          case measure => rw [HG.out]; decide
          case rel => exact ⟨1 + 1, by decide, rfl, by go_num, hid (by show St wq (L8 ++ (nbs d.n rt y nb 1 ++ le d.n 2)) _; rw [← List.append_assoc]; exact HS5.out)⟩
        · have hix := (ix_any (.int .u64 1) (.int .u64 (d.n : Int)) (.int .u64 (rt : Int)) (.int .u64 (z : Int)) (.int .u64 (y : Int)) (.int .u64 (nb : Int)) wr).2.2.1
          have HBO := hid fun w => (show Calls Try.prog 33 #[.int .i64 2] w fun e w' => e = .returned (.int .i64 4) ∧ w = w' from bytesof_any 2 w)
          have HUE := hid (uerr_four rt (by omega))
          have HVL := hid (show rt < 18446744073709551616 by omega)
          clear hrt hnb hrty hy24 hr2 hr3
          go_wp2_with fail
          refine (HBO.out _).mono ?_
          rintro e w5 ⟨rfl, rfl⟩
          go_wp2_with fail
          refine (HS.out.u rt 4 HVL.out HUE.out (Nat.le_trans HLEN.out (by decide))).mono ?_
          rintro e w5 ⟨rfl, hst⟩
          have HS5 := hid hst
          clear hst
          go_wp2_with fail
          go_roundg (6 - (2 + 1))
          case measure => rw [HG.out]; decide
          case rel => exact ⟨2 + 1, by decide, rfl, by go_num, hid (by show St wq (L8 ++ (nbs d.n rt y nb 2 ++ le rt 4)) _; rw [← List.append_assoc]; exact HS5.out)⟩
        · have hix := (ix_any (.int .u64 1) (.int .u64 (d.n : Int)) (.int .u64 (rt : Int)) (.int .u64 (z : Int)) (.int .u64 (y : Int)) (.int .u64 (nb : Int)) wr).2.2.2.1
          have HBO := hid fun w => (show Calls Try.prog 33 #[.int .i64 3] w fun e w' => e = .returned (.int .i64 4) ∧ w = w' from bytesof_any 3 w)
          have HUE := hid (uerr_four z (by omega))
          have HVL := hid (show z < 18446744073709551616 by omega)
          clear hrt hnb hrty hy24 hr2 hr3
          go_wp2_with fail
          refine (HBO.out _).mono ?_
          rintro e w5 ⟨rfl, rfl⟩
          go_wp2_with fail
          refine (HS.out.u z 4 HVL.out HUE.out (Nat.le_trans HLEN.out (by decide))).mono ?_
          rintro e w5 ⟨rfl, hst⟩
          have HS5 := hid hst
          clear hst
          go_wp2_with fail
          go_roundg (6 - (3 + 1))
          case measure => rw [HG.out]; decide
          case rel => exact ⟨3 + 1, by decide, rfl, by go_num, hid (by show St wq (L8 ++ (nbs d.n rt y nb 3 ++ le (rt * y) 4)) _; rw [← List.append_assoc, ← HZ.out]; exact HS5.out)⟩
        · have hix := (ix_any (.int .u64 1) (.int .u64 (d.n : Int)) (.int .u64 (rt : Int)) (.int .u64 (z : Int)) (.int .u64 (y : Int)) (.int .u64 (nb : Int)) wr).2.2.2.2.1
          have HBO := hid fun w => (show Calls Try.prog 33 #[.int .i64 4] w fun e w' => e = .returned (.int .i64 2) ∧ w = w' from bytesof_any 4 w)
          have HUE := hid (uerr_two y (by omega))
          have HVL := hid (show y < 18446744073709551616 by omega)
          clear hrt hnb hrty hy24 hr2 hr3
          go_wp2_with fail
          refine (HBO.out _).mono ?_
          rintro e w5 ⟨rfl, rfl⟩
          go_wp2_with fail
          refine (HS.out.u y 2 HVL.out HUE.out (Nat.le_trans HLEN.out (by decide))).mono ?_
          rintro e w5 ⟨rfl, hst⟩
          have HS5 := hid hst
          clear hst
          go_wp2_with fail
          go_roundg (6 - (4 + 1))
          case measure => rw [HG.out]; decide
          case rel => exact ⟨4 + 1, by decide, rfl, by go_num, hid (by show St wq (L8 ++ (nbs d.n rt y nb 4 ++ le y 2)) _; rw [← List.append_assoc]; exact HS5.out)⟩
        · have hix := (ix_any (.int .u64 1) (.int .u64 (d.n : Int)) (.int .u64 (rt : Int)) (.int .u64 (z : Int)) (.int .u64 (y : Int)) (.int .u64 (nb : Int)) wr).2.2.2.2.2
          have HBO := hid fun w => (show Calls Try.prog 33 #[.int .i64 5] w fun e w' => e = .returned (.int .i64 2) ∧ w = w' from bytesof_any 5 w)
          have HUE := hid (uerr_two nb (by omega))
          have HVL := hid (show nb < 18446744073709551616 by omega)
          clear hrt hnb hrty hy24 hr2 hr3
          go_wp2_with fail
          refine (HBO.out _).mono ?_
          rintro e w5 ⟨rfl, rfl⟩
          go_wp2_with fail
          refine (HS.out.u nb 2 HVL.out HUE.out (Nat.le_trans HLEN.out (by decide))).mono ?_
          rintro e w5 ⟨rfl, hst⟩
          have HS5 := hid hst
          clear hst
          go_wp2_with fail
          go_roundg (6 - (5 + 1))
          case measure => rw [HG.out]; decide
          case rel => exact ⟨5 + 1, by decide, rfl, by go_num, hid (by show St wq (L8 ++ (nbs d.n rt y nb 5 ++ le nb 2)) _; rw [← List.append_assoc]; exact HS5.out)⟩
      · obtain rfl : k = 6 := by omega
        have HS9 := HS
        have HL9 := hid (show (L8 ++ nbs d.n rt y nb 6).length = 36 by rw [List.length_append, HL8.out]; simp [nbs, nbt, le_len])
        obtain ⟨L9, hL9⟩ : ∃ L9, L9 = L8 ++ nbs d.n rt y nb 6 := ⟨_, rfl⟩
        rw [← hL9] at HS9 HL9
        have HE9 := hid hL9
        clear HG hlt hk hL9 HS hrt hnb hrty hy24
        go_wp2_with fail
        refine (begin_any HS9.out ⟨#[100, 97, 116, 97]⟩ S (by decide) (by omega) (by rw [HL9.out]; decide)).mono ?_
        rintro e w10 ⟨rfl, hst⟩
        have HL10 := hid (show (L9 ++ nsz ⟨#[100, 97, 116, 97]⟩ S).length = 44 by rw [List.length_append, HL9.out, nsz_len]; rfl)
        obtain ⟨L10, hL10⟩ : ∃ L10, L10 = L9 ++ nsz ⟨#[100, 97, 116, 97]⟩ S := ⟨_, rfl⟩
        rw [← hL10] at hst HL10
        have HE10 := hid hL10
        have HS10 := hid hst
        have HBW10 := hid (HBW2.out.trans (hst.bel.mono HBW2.out.size))
        obtain ⟨b0, b1, b2, b3⟩ := HC.out _ (HB2.out.trans (hst.bel.mono HB2.out.size))
        clear hst hL10
        go_wp2_with fail
        refine (HCN.out _ HBW10.out).mono ?_
        rintro e w11 ⟨rfl, hb11⟩
        have HS11 := hid (HS10.out.below hb11)
        clear hb11 b0 b1 b2 b3
        go_wp2_with fail
        go_loopg [58] d.cnt (fun gg i wr => ∃ k : Nat, k ≤ d.cnt ∧ gg = d.cnt - k ∧ i = .int .i64 k ∧ Hid (St wq (L10 ++ dta d k) wr))
        case atStart => exact ⟨0, Nat.zero_le _, rfl, rfl, hid (by show St wq (L10 ++ []) _; rw [List.append_nil]; exact HS11.out)⟩
        case round =>
          obtain ⟨k, hk, hg, rfl, HS⟩ := hrel
          have HG := hid hg
          clear hg
          by_cases hlt : k < d.cnt
          · have hlt2 : (k : Int) < (d.cnt : Int) := by omega
            obtain ⟨b0, b1, b2, b3⟩ := HC.out _ (HB2.out.trans (HS.out.bel.mono HB2.out.size))
            have HDK := hid (show (L10 ++ dta d k).length ≤ 268435500 by
              have h9 := HDT.out k hk
              rw [List.length_append, HL10.out]; omega)
            go_wp2_with fail
            go_loopg [64] d.n (fun gg i wx => ∃ j : Nat, j ≤ d.n ∧ gg = d.n - j ∧ i = .int .i64 j ∧ Hid (St wq (L10 ++ dta d k ++ frp d k j) wx))
            case atStart => exact ⟨0, Nat.zero_le _, rfl, rfl, hid (by show St wq (L10 ++ dta d k ++ []) _; rw [List.append_nil]; exact HS.out)⟩
            case round =>
              clear b0 b1 b2 b3
              obtain ⟨j, hj, hg2, rfl, HX⟩ := hrel
              have HG2 := hid hg2
              clear hg2
              by_cases hjt : j < d.n
              · have hjt2 : (j : Int) < (d.n : Int) := by omega
                have hsn := H.out.below (HBW2.out.trans (HX.out.bel.mono HBW2.out.size))
                have hcl := hsn.c j hjt
                obtain ⟨bl, ol, hI⟩ := hsn.l j hjt
                have hlnj := HLN.out j hjt
                have hal := hI.addr (by rw [hlnj]; omega)
                rw [hal, hlnj] at hcl
                have hcx := hI.c k (by rw [hlnj]; exact hlt)
                obtain ⟨b0, b1, b2, b3⟩ := HC.out _ (HB2.out.trans (HX.out.bel.mono HB2.out.size))
                have HXX := hid (HXB.out j k hjt hlt)
                have HLX := hid (show (L10 ++ dta d k ++ frp d k j).length ≤ 536870912 by
                  have h9 := HFP.out k j (by omega)
                  have h8 := HDK.out
                  rw [List.length_append]; omega)
                have HSM := hid (show frp d k (j + 1) = frp d k j ++ smp (nb : Int) (d.X j k) by rw [← HBI.out]; rfl)
                clear hsn hI hal hlnj
                go_wp2_with fail
                go_still_tail 8, (by kernel_rfl)
                repeat still_step
                change wpList _ _ _ _ _ (World.drew _)
                have HB9 := hid (HX.out.below (show Below wr.heap.size wr wr.drew from ⟨rfl, rfl, rfl, Nat.le_refl _, fun _ _ => rfl⟩))
                clear b0 b1 b2 b3 HX hcl hcx
                generalize wr.drew = W at HB9 ⊢
                go_wp2_with fail
                refine (lay_any HB9.out (d.X j k) (nb : Int) (by omega) (by omega) HXX.out.1 HXX.out.2 HLX.out).mono ?_
                rintro e w12 ⟨rfl, hst⟩
                have HS12 := hid hst
                clear hst
                go_wp2_with fail
                go_roundg (d.n - (j + 1))
                case measure => rw [HG2.out]; omega
                case rel => exact ⟨j + 1, by omega, rfl, by go_num, hid (by rw [HSM.out, ← List.append_assoc]; exact HS12.out)⟩
              · have hge : ¬ (j : Int) < (d.n : Int) := by omega
                have hjn : j = d.n := by omega
                subst hjn
                go_wp2_with fail
                go_roundg (d.cnt - (k + 1))
                case measure => rw [HG.out]; omega
                case rel => exact ⟨k + 1, by omega, rfl, by go_num, hid (by show St wq (L10 ++ (dta d k ++ frp d k d.n)) _; rw [← List.append_assoc]; exact HX.out)⟩
          · have hge : ¬ (k : Int) < (d.cnt : Int) := by omega
            have hkn : k = d.cnt := by omega
            subst hkn
            have HDN := hid (show (L10 ++ dta d d.cnt).length ≤ 268435500 by
              have h9 := HDT.out d.cnt (Nat.le_refl _)
              rw [List.length_append, HL10.out]; omega)
            have hr2' : S % 2 < 2 := Nat.mod_lt _ (by decide)
            obtain ⟨rr, hrr⟩ : ∃ rr, rr = S % 2 := ⟨_, rfl⟩
            rw [← hrr] at HPD hr2'
            have HRR := hid hrr
            clear hrr
            have hmk : ∀ W, (Instr.makeSlice 29 (.int .i64 (rr : Int)) (.int .i64 (rr : Int))).run Try.prog W = .ok (.slice (some ⟨W.heap.size, 0, none⟩) rr rr) (W.alloc (.cells (madeCells #[.int .u8 0] rr) 5)) := fun W =>
              run_make_row' (P := Try.prog) 29 5 (.int .u8 0) 1 Try.underlying29 Try.info5 rfl .i64 .i64 rr (by omega) (by omega) W
            have h0 := World.rowIs_made wr (.int .u8 0) rr 5
            have HY := hid (show Byts (wr.alloc (.cells (madeCells #[.int .u8 0] rr) 5)) (some ⟨wr.heap.size, 0, none⟩) (List.replicate rr 0) from
              ⟨fun b hb => by rw [List.eq_of_mem_replicate hb]; decide, fun j x hj => by
                rw [List.getElem?_replicate] at hj
                split at hj
                · rename_i hjr
                  cases hj
                  exact ⟨wr.heap.size, 0, rfl, by rw [Nat.zero_add]; exact h0.cell hjr⟩
                · cases hj⟩)
            have HSB := hid (HS.out.below (bel_new wr (.cells (madeCells #[.int .u8 0] rr) 5)))
            clear h0
            go_wp2_with fail
            refine (HPD.out _).mono ?_
            rintro e w13 ⟨rfl, rfl⟩
            go_wp2_with fail
            clear hmk
            refine (HSB.out.raw (m := List.replicate rr 0) (n := rr) (c := rr) List.length_replicate HY.out (fun e => by cases e) (by have := HDN.out; rw [List.length_replicate]; omega)).mono ?_
            rintro e w14 ⟨rfl, hst⟩
            have HS14 := hid hst
            clear hst
            go_wp2_with fail
            refine (HS14.out.bytes (by have := HDN.out; rw [List.length_append, List.length_replicate]; omega)).mono ?_
            rintro e w15 ⟨ao, cp, rfl, hnl⟩
            have HN15 := hid hnl
            clear hnl
            go_wp2_with fail
            go_ret2
            have hwl : wlist d = L10 ++ dta d d.cnt ++ List.replicate rr 0 := by
              unfold wlist
              rw [if_pos HW0.out]
              have e1 : hdr d = L10 := by
                rw [HE10.out, HE9.out, HE8.out, HE1.out]
                unfold hdr
                rw [HSS.out, HFB.out, HLSE.out, show 4 + 24 + (8 + S + S % 2) = 28 + (8 + S + S % 2) from rfl]
                simp only [List.nil_append]
              unfold wby
              rw [e1, HSS.out, HRR.out]
            have h15 := HN15.out
            unfold WrP
            rw [HW0.out, hwl, List.length_append, List.length_replicate]
            refine ⟨ao, cp, ?_, ⟨own_mono2 h15.own HBW2.out.size, HBW2.out.trans (h15.bel.mono HBW2.out.size), h15.lt⟩⟩
            rw [show (L10 ++ dta d d.cnt).length + rr = L10.length + ((dta d d.cnt).length + rr) by rw [List.length_append, Nat.add_assoc]]
            rfl
end Go.Proofs.Ytkdpalmdcnpnoaa.Wv
namespace Go.Proofs.Ytkdpalmdcnpnoaa.Wv
open Go.RowKit Gen Fld Pcm

set_option maxRecDepth 20000 in
theorem write_any {w : World} {d : Dat} (h : Snd w d) : Calls Try.prog 10 #[d.v] w (WrP w d) := by
  by_cases hk : d.chk = 0
  · obtain ⟨hr, hch, _⟩ := chk_ok hk
    have hr2 := hr.2.1
    have hr3 := hr.2.2
    have e1 : d.f.bits = ((d.f.bits.toNat : Nat) : Int) := by omega
    have e2 : d.f.rate = ((d.f.rate.toNat : Nat) : Int) := by omega
    have h9 := write_ok h hk d.f.bits.toNat d.f.rate.toNat e1 e2
    rw [← e1, ← e2, hch] at h9
    exact h9
  · have HCK := hid fun (w' : World) (hb : Below w.heap.size w w') => check_any w' d (h.below hb)
    unfold Dat.v at HCK
    have HB0 := hid (below_new w (.cells #[.int .i64 d.f.ch, .int .i64 d.f.bits, .int .i64 d.f.rate, .slice d.a d.n d.cap] 26))
    obtain ⟨b0, b1, b2, b3⟩ := bx_new w d
    have q0 : (d.chk != 0) = true := by rw [bne_iff_ne]; exact hk
    have HW := hid fun (w' : World) (hb : Below w.heap.size w w') => wrp_no (w := w) (w' := w') (d := d) (e := d.chk) (by unfold wcode; rw [if_neg hk]) hk hb
    show Calls Try.prog 10 #[.agg #[.int .i64 d.f.ch, .int .i64 d.f.bits, .int .i64 d.f.rate, .slice d.a d.n d.cap]] w _
    clear hk
    go_enter Try.func10, Try.ntmps10
    go_wp2_with fail
    generalize w.alloc (.cells #[.int .i64 d.f.ch, .int .i64 d.f.bits, .int .i64 d.f.rate, .slice d.a d.n d.cap] 26) = W0 at *
    refine (HCK.out _ HB0.out).mono ?_
    rintro e w1 ⟨rfl, hb1⟩
    have HF := hid (HW.out w1 (HB0.out.trans (hb1.mono HB0.out.size)))
    clear hb1 b0 b1 b2 b3
    go_wp2_with fail
    go_ret2
    exact HF.out
end Go.Proofs.Ytkdpalmdcnpnoaa.Wv
namespace Go.Proofs.Ytkdpalmdcnpnoaa.Wv
open Go.RowKit Gen Fld Pcm

/-- The silence of the fixed calls. -/
structure Sil (d : Dat) : Prop where
  f : d.f = ⟨1, 8, 8000⟩
  n : d.n = 1
  ln : ∀ i, i < d.n → d.ln i = 2 ∧ d.X i = fun _ => 0
theorem Sil.cnt {d : Dat} (h : Sil d) : d.cnt = 2 := by
  unfold Dat.cnt
  rw [if_neg (by rw [h.n]; decide)]
  exact (h.ln 0 (by rw [h.n]; decide)).1
theorem Sil.chk {d : Dat} (h : Sil d) : d.chk = 0 := by
  unfold Dat.chk
  have h1 : d.unlike = false := by
    unfold Dat.unlike
    rw [h.n, h.cnt]
    show (false || ((d.ln 0 : Int) != ((2 : Nat) : Int))) = false
    rw [(h.ln 0 (by rw [h.n]; decide)).1]
    rfl
  have h2 : d.far = false := by
    unfold Dat.far
    rw [h.n, h.f]
    show (false || anyB (fun j => beyond (2 ^ ((8 : Int).toNat - 1)) (d.X 0 j)) (d.ln 0)) = false
    rw [(h.ln 0 (by rw [h.n]; decide)).1, (h.ln 0 (by rw [h.n]; decide)).2]
    decide
  rw [h.f, h.n, h.cnt, h1, h2]
  decide
theorem Sil.dsz {d : Dat} (h : Sil d) : dsz d = 2 := by
  unfold Wv.dsz
  rw [h.cnt, h.n, h.f]
  decide
theorem Sil.wcode {d : Dat} (h : Sil d) : wcode d = 0 := by
  unfold Wv.wcode
  rw [if_pos h.chk, h.dsz]
  decide
theorem Sil.dta {d : Dat} (h : Sil d) : dta d d.cnt = [128, 128] := by
  rw [h.cnt]
  show ([] ++ frp d 0 d.n) ++ frp d 1 d.n = _
  rw [h.n]
  show ([] ++ ([] ++ smp d.f.bits (d.X 0 0))) ++ ([] ++ smp d.f.bits (d.X 0 1)) = _
  rw [h.f, (h.ln 0 (by rw [h.n]; decide)).2]
  decide
theorem Sil.wlist {d : Dat} (h : Sil d) : (wlist d).length = 46 ∧ (wlist d).take 4 = [82, 73, 70, 70] ∧ (wlist d).drop 44 = [128, 128] := by
  have e : Wv.wlist d = wby d := by unfold Wv.wlist; rw [if_pos h.wcode]
  rw [e]
  refine ⟨by rw [wby_len, h.dsz], ?_, ?_⟩
  · unfold wby hdr nsz
    simp only [List.append_assoc]
    rfl
  · unfold wby
    rw [h.dta, h.dsz, List.append_assoc]
    exact List.drop_left' (hdr_len d)
end Go.Proofs.Ytkdpalmdcnpnoaa.Wv
namespace Go.Proofs.Ytkdpalmdcnpnoaa.Wv
open Go.RowKit Gen Fld Pcm

set_option maxRecDepth 20000 in
set_option maxHeartbeats 1000000 in
theorem known_true (w : World) : Calls Try.prog 9 #[] w fun e w' => e = .returned (.bool true) ∧ Below w.heap.size w w' := by
  have HSI := hid (show ∀ w, Calls Try.prog 24 #[.agg #[.int .i64 1, .int .i64 8, .int .i64 8000], .int .i64 2] w fun e w' => ∃ (d : Dat) (G : Nat → Nat), e = .returned d.v ∧ Snd w' d ∧ NewSnd w.heap.size w' d ∧ Below w.heap.size w w' ∧ d.f = ⟨1, 8, 8000⟩ ∧ d.n = 1 ∧ (∀ i, i < d.n → d.ln i = 2 ∧ d.X i = fun _ => 0) ∧ Pcm.Own w.heap.size w' d G from fun w => rsil2_any w ⟨1, 8, 8000⟩ 1 2 rfl (by decide) (by decide))
  go_enter Try.func9, Try.ntmps9
  go_wp2_with fail
  refine (HSI.out _).mono ?_
  rintro e w1 ⟨d, G, rfl, hs, _, hb1, hf, hn, hln, _⟩
  have hsil : Sil d := ⟨hf, hn, hln⟩
  have HW := hid (write_any hs)
  have HC0 := hid hsil.wcode
  have HL := hid hsil.wlist
  have HB1 := hid hb1
  clear hs hb1 hf hn hln hsil
  generalize hv : d.v = V at *
  clear hv
  go_wp2_with fail
  refine HW.out.mono ?_
  intro e w2 hp
  unfold WrP at hp
  rw [HC0.out] at hp
  obtain ⟨ao, c, rfl, hnl⟩ := hp
  have hby := hnl.byts
  obtain ⟨l1, l2, l3⟩ := HL.out
  have hcap := hnl.cap
  have HB2 := hid (HB1.out.trans (hnl.bel.mono HB1.out.size))
  obtain ⟨g, rfl⟩ : ∃ g, ao = some ⟨g, 0, none⟩ := by
    rcases own_at hnl.own with ⟨_, h1, _⟩ | ⟨g, h1, _⟩
    · omega
    · exact ⟨g, h1⟩
  have cvA := (hby.drop 44).conv (c - 44)
  have cvB := (hby.take 4).conv c
  rw [l3] at cvA
  rw [l2] at cvB
  rw [l1] at hcap ⊢
  have cvA2 : (convert 29 9 (.slice (some ⟨g, 44, none⟩) 2 (c - 44))).run Try.prog w2 = .ok (.string ⟨#[128, 128]⟩) w2 := cvA
  have cvB2 : (convert 29 9 (.slice (some ⟨g, 0, none⟩) 4 c)).run Try.prog w2 = .ok (.string ⟨#[82, 73, 70, 70]⟩) w2 := cvB
  have hc1 : 46 ≤ c := hcap
  have hc2 : (46 : Int) ≤ (c : Int) := by omega
  have hc3 : (4 : Int) ≤ (c : Int) := by omega
  have hc4 : ¬ c - 44 = 0 := by omega
  clear cvA cvB hby hnl l1 l2 l3 hcap HL HC0 HW HB1 HSI
  go_wp2_with fail
  go_ret
  exact ⟨rfl, HB2.out⟩
end Go.Proofs.Ytkdpalmdcnpnoaa.Wv
namespace Go.Proofs.Ytkdpalmdcnpnoaa.Wv
open Go.RowKit Gen Fld

set_option maxRecDepth 20000 in
theorem rpow_any (n : Nat) (hn : n ≤ 62) (w : World) : Calls Try.prog 75 #[.int .i64 (n : Int)] w fun e w' => e = .returned (.int .i64 ((2 ^ n : Nat) : Int)) ∧ w = w' := by
  go_enter Try.func75, Try.ntmps75
  go_wp2_with fail
  go_loop [3, 4] (fun p i => ∃ k : Nat, k ≤ n ∧ i = .int .i64 k ∧ p = .int .i64 ((2 ^ k : Nat) : Int)) (fun _ i => 62 - (intOf i).toNat)
  case atStart => exact ⟨0, Nat.zero_le _, rfl, rfl⟩
  case round =>
    obtain ⟨k, hk, rfl, rfl⟩ := hrel
    have hs : 2 * 2 ^ k = 2 ^ (k + 1) := by rw [Nat.pow_succ, Nat.mul_comm]
    by_cases hlt : k < n
    · have h1 : (k : Int) < (n : Int) := by omega
      have h2 : (k : Int) < 62 := by omega
      have HS := hid hs
      clear hs
      have hp2 : 2 ^ k ≤ 2305843009213693952 := Nat.le_trans (Nat.pow_le_pow_right (by decide) (show k ≤ 61 by omega)) (by decide)
      generalize 2 ^ k = p at *
      go_wp2_with fail
      go_round
      case rel => exact ⟨k + 1, by omega, by go_num, congrArg (Value.int .i64) (by rw [← HS.out]; omega)⟩
      case measure => simp [intOf]; omega
    · obtain rfl : k = n := by omega
      have hp0 : ¬ (k : Int) < (k : Int) := by omega
      clear hs
      generalize hpe : 2 ^ k = p at *
      have HPE := hid hpe
      clear hpe
      go_wp2_with fail
      go_ret
      refine ⟨?_, rfl⟩
      show Ending.returned (.int .i64 (p : Int)) = _
      rw [← HPE.out]
      push_cast
      rfl
end Go.Proofs.Ytkdpalmdcnpnoaa.Wv
namespace Go.Proofs.Ytkdpalmdcnpnoaa.Wv
open Go.RowKit Gen Fld

/-- What a call leaves that answers with bytes in new memory. -/
def LP (w : World) (l : List Nat) (e : Ending) (w' : World) : Prop := ∃ ao cap, e = .returned (.slice ao l.length cap) ∧ NL w ao cap l w'
theorem le_one (v : Nat) (h : v < 256) : le v 1 = [v] := by
  show [] ++ [v / 2 ^ (8 * 0) % 256] = [v]
  rw [Nat.mul_zero, Nat.pow_zero, Nat.div_one, Nat.mod_eq_of_lt h]; rfl
set_option maxRecDepth 20000 in
theorem rsample_any (x n : Int) (hn1 : 8 ≤ n) (hn2 : n ≤ 24) (h1 : -(2 ^ (n.toNat - 1) : Int) ≤ x) (h2 : x ≤ 2 ^ (n.toNat - 1) - 1) (w : World) :
    Calls Try.prog 53 #[.int .i64 x, .int .i64 n] w (LP w (smp n x)) := by
  by_cases h8 : n = 8
  · subst h8
    have hx1 : -128 ≤ x := h1
    have hx2 : x ≤ 127 := h2
    obtain ⟨v, hv⟩ : ∃ v : Nat, x + 128 = v := ⟨(x + 128).toNat, by omega⟩
    have hvl : v < 256 := by omega
    have HS := hid (show smp 8 x = [v] by
      show le (x + 128).toNat 1 = [v]
      rw [hv, Int.toNat_natCast, le_one v hvl])
    have HU := hid (show wrap64 (v : Int) % 256 = (v : Int) by unfold wrap64; omega)
    have HF := hid (show LP w [v] (.returned (.slice (some ⟨w.heap.size, 0, none⟩) 1 1)) (w.alloc (.cells #[.int .u8 (v : Int)] 5)) from ⟨some ⟨w.heap.size, 0, none⟩, 1, rfl, World.ownsRow_lit w _ 1 (Nat.le_refl _) (by unfold maxLen; omega) rfl, bel_new w _, fun b hb => by rw [List.mem_singleton.1 hb]; exact hvl⟩)
    clear h1 h2 hx1 hx2 hvl
    go_enter Try.func53, Try.ntmps53
    go_wp2_with fail
    rw [HU.out]
    go_ret
    rw [HS.out]
    exact HF.out
  · have q8 : (n == 8) = false := by rw [beq_eq_false_iff_ne]; exact h8
    obtain ⟨hd2, hdf, hf7⟩ := wd_fre (n := n) (by omega) hn2
    have hd3 := wd_le n
    have HS := hid (show smp n x = le (u64 (x * 2 ^ fre n)) (wd n) by unfold smp; rw [if_neg h8])
    have HE := hid (smp_err n.toNat (fre n) (wd n) x (by omega) hdf (by omega) (by omega) h1 h2)
    obtain ⟨hy1, hy2⟩ := smp_in n.toNat (fre n) (wd n) x (by omega) hdf hd3 h1 h2
    have HWD := hid fun w => rwidth_any n w
    have HPW := hid fun w => rpow_any (fre n) (by omega) w
    have hfr : 8 * (wd n : Int) - n = (fre n : Int) := by omega
    generalize fre n = F at *
    generalize wd n = d at *
    obtain ⟨y, hy⟩ : ∃ y, y = x * 2 ^ F := ⟨_, rfl⟩
    rw [← hy] at HS HE hy1 hy2
    obtain ⟨P, hP⟩ : ∃ P : Nat, P = 2 ^ F := ⟨_, rfl⟩
    rw [← hP] at HPW
    have hw : wrap64 (x * (P : Int)) = y := by rw [hP]; push_cast; rw [← hy]; unfold wrap64; omega
    have HI := hid fun w => ri_any y (d : Int) (by omega) (by omega) w
    rw [HE.out] at HI
    have HW := hid hw
    clear h1 h2 hy hdf h8 hP hw
    go_enter Try.func53, Try.ntmps53
    go_wp2_with fail
    refine (HWD.out _).mono ?_
    rintro e w1 ⟨rfl, rfl⟩
    go_wp2_with fail
    refine (HPW.out _).mono ?_
    rintro e w1 ⟨rfl, rfl⟩
    have hw := HW.out
    go_wp2_with fail
    refine (HI.out _).mono ?_
    rintro e w2 ⟨ao, cap, rfl, ho, hb⟩
    have HF := hid (show LP w (le (u64 y) d) (.returned (.slice ao (le (u64 y) d).length cap)) w2 from ⟨ao, cap, rfl, ho, hb, le_lt _ _⟩)
    clear ho hb hw
    go_wp2_with fail
    go_ret
    rw [HS.out]
    exact HF.out
end Go.Proofs.Ytkdpalmdcnpnoaa.Wv
namespace Go.Proofs.Ytkdpalmdcnpnoaa.Wv
open Go.RowKit Gen Fld

/-- Bytes of a call's own, to which may be appended. -/
structure WR (w : World) (base : Nat) (ao : Option Addr) (cap : Nat) (l : List Nat) : Prop where
  lt : ∀ b ∈ l, b < 256
  row : (ao = none ∧ l = [] ∧ cap = 0) ∨ ∃ g, ao = some ⟨g, 0, none⟩ ∧ base ≤ g ∧ g < w.heap.size ∧ l.length ≤ cap ∧ cap ≤ maxLen ∧
    (∀ j, j < cap → (w.cell? ⟨g, j, none⟩).isSome = true) ∧ (∀ j, j < cap → w.frozen? ⟨g, j, none⟩ = false) ∧ (∀ (j x : Nat), l[j]? = some x → w.cell? ⟨g, j, none⟩ = some (.int .u8 (x : Int)))
theorem WR.byts {w : World} {base : Nat} {ao : Option Addr} {cap : Nat} {l : List Nat} (h : WR w base ao cap l) : Byts w ao l := by
  refine ⟨h.lt, fun j x hj => ?_⟩
  rcases h.row with ⟨_, rfl, _⟩ | ⟨g, e, _, _, _, _, _, _, hc⟩
  · simp at hj
  · exact ⟨g, 0, e, by rw [Nat.zero_add]; exact hc j x hj⟩
theorem WR.cap {w : World} {base : Nat} {ao : Option Addr} {cap : Nat} {l : List Nat} (h : WR w base ao cap l) : l.length ≤ cap := by
  rcases h.row with ⟨_, rfl, rfl⟩ | ⟨g, e, _, _, hn, _⟩
  · exact Nat.le_refl _
  · exact hn
theorem WR.nil {w : World} {base : Nat} {ao : Option Addr} {cap : Nat} {l : List Nat} (h : WR w base ao cap l) : ao = none → l.length = 0 ∧ cap = 0 := fun e => by
  rcases h.row with ⟨_, rfl, rfl⟩ | ⟨g, e2, _⟩
  · exact ⟨rfl, rfl⟩
  · rw [e] at e2; cases e2
theorem WR.blt {w : World} {base : Nat} {ao : Option Addr} {cap : Nat} {l : List Nat} (h : WR w base ao cap l) : ∀ b, blk ao = some b → base ≤ b ∧ b < w.heap.size := fun b hb => by
  rcases h.row with ⟨rfl, _, _⟩ | ⟨g, rfl, h1, h2, _⟩
  · cases hb
  · cases hb; exact ⟨h1, h2⟩
theorem WR.addr {w : World} {base : Nat} {ao : Option Addr} {cap : Nat} {l : List Nat} (h : WR w base ao cap l) (hl : 0 < l.length) : ∃ g, ao = some ⟨g, 0, none⟩ := by
  rcases h.row with ⟨_, rfl, _⟩ | ⟨g, e, _⟩
  · cases hl
  · exact ⟨g, e⟩
theorem WR.block {w w' : World} {base : Nat} {ao : Option Addr} {cap : Nat} {l : List Nat} (h : WR w base ao cap l) (hs : w.heap.size ≤ w'.heap.size) (hb : ∀ g, blk ao = some g → w'.heap[g]? = w.heap[g]?) : WR w' base ao cap l := by
  refine ⟨h.lt, h.row.imp id ?_⟩
  rintro ⟨g, rfl, h1, h2, h3, h4, h5, h6, h7⟩
  have e := hb g rfl
  exact ⟨g, rfl, h1, Nat.lt_of_lt_of_le h2 hs, h3, h4, fun j hj => by rw [World.cell?_of_block (a := ⟨g, j, none⟩) e]; exact h5 j hj, fun j hj => by rw [World.frozen?_of_block (a := ⟨g, j, none⟩) e]; exact h6 j hj,
    fun j x hj => by rw [World.cell?_of_block (a := ⟨g, j, none⟩) e]; exact h7 j x hj⟩
theorem WR.keep {w w' : World} {base : Nat} {ao : Option Addr} {cap : Nat} {l : List Nat} (h : WR w base ao cap l) (hb : Below w.heap.size w w') : WR w' base ao cap l := h.block hb.size fun g hg => hb.block g (h.blt g hg).2
theorem WR.mono {w : World} {base base' : Nat} {ao : Option Addr} {cap : Nat} {l : List Nat} (h : WR w base ao cap l) (hb : base' ≤ base) : WR w base' ao cap l :=
  ⟨h.lt, h.row.imp id fun ⟨g, e, h1, h2⟩ => ⟨g, e, Nat.le_trans hb h1, h2⟩⟩
theorem WR.of_own {w : World} {base : Nat} {ao : Option Addr} {n cap : Nat} {l : List Nat} (hlt : ∀ b ∈ l, b < 256) (h : w.ownsRow base 5 1 (.slice ao n cap) n (bl l)) : WR w base ao cap l := by
  refine ⟨hlt, ?_⟩
  have hl := h.1
  rw [bl_len, Nat.mul_one] at hl
  rcases h.2 with ⟨hv, h0⟩ | ⟨g, c, cur, hv, q1, q2, q3, q4, q5, q6⟩
  · cases hv; exact .inl ⟨rfl, List.eq_nil_of_length_eq_zero (by omega), rfl⟩
  · cases hv
    rw [Nat.mul_one] at q5
    refine .inr ⟨g, rfl, q1, (Array.getElem?_eq_some_iff.1 q2).1, by omega, q4, fun j hj => ?_, fun j hj => ?_, fun j x hj => ?_⟩
    · unfold World.cell?; rw [q2]; simp; omega
    · unfold World.frozen?; rw [q2]; simp
    · exact ownsRow_cell h j _ (by rw [bl_at, hj]; rfl)
/-- A text's bytes in new memory. -/
theorem WR.of_string (w : World) (s : ByteArray) (hs : s.size ≤ 1099511627776) : WR (Lib.bytesWorld w 5 s) w.heap.size (some ⟨w.heap.size, 0, none⟩) (grownCap w s.size 0 5) (sb s) := by
  have hb := byts_of_string w s
  have hat := Lib.bytesWorld_at_new w 5 s
  have hz : (Lib.bytesCells w 5 s).size = grownCap w s.size 0 5 := by
    have := grownCap_ge w s.size 0 5
    have e : s.data.size = s.size := rfl
    simp only [Lib.bytesCells, Array.size_append, Array.size_map, Array.size_replicate, e]
    omega
  refine ⟨hb.lt, .inr ⟨w.heap.size, rfl, Nat.le_refl _, by rw [Lib.bytesWorld_size]; omega, by rw [sb_len]; exact grownCap_ge w s.size 0 5, grownCap_le_maxLen w _ 0 5 (by unfold maxLen; omega), fun j hj => ?_, fun j hj => ?_, fun j x hj => ?_⟩⟩
  · unfold World.cell?; rw [hat]; simp; omega
  · unfold World.frozen?; rw [hat]; simp; omega
  · obtain ⟨b, off, e, hc⟩ := hb.at_ j x hj
    cases e
    rw [Nat.zero_add] at hc; exact hc
theorem setCells_heap (g : Nat) : ∀ (vs : List Value) (o : Nat) (w : World), (w.setCells g o vs).heap.size = w.heap.size ∧ (∀ k, k ≠ g → (w.setCells g o vs).heap[k]? = w.heap[k]?) ∧ (w.setCells g o vs).os = w.os ∧ (w.setCells g o vs).tape = w.tape ∧ (w.setCells g o vs).output = w.output
  | [], _, w => ⟨rfl, fun _ _ => rfl, rfl, rfl, rfl⟩
  | v :: r, o, w => by
    obtain ⟨h1, h2, h3, h4, h5⟩ := setCells_heap g r (o + 1) (w.setCell ⟨g, o, none⟩ v)
    rw [World.setCells]
    exact ⟨h1.trans (by simp [World.setCell]), fun k hk => (h2 k hk).trans (Below.heap_setCell w ⟨g, o, none⟩ v k hk), h3, h4, h5⟩
theorem bl_isb (l : List Nat) (j : Nat) (u : Value) (h : (bl l)[j]? = some u) : ∃ x, l[j]? = some x ∧ u = .int .u8 (x : Int) := by
  rw [bl_at] at h
  cases hx : l[j]? with
  | none => rw [hx] at h; cases h
  | some x => rw [hx] at h; cases h; exact ⟨x, rfl, rfl⟩
theorem run_append_any {P : Program} (w : World) (t ty : TypeId) (base : Nat) (i : TypeInfo) (z : Value) (h1 : P.underlying t = some (.slice 5)) (h2 : P.info? 5 = some i) (h3 : i.zero = some z) (h4 : i.size = 1) (h5 : i.bytes = 1) (h6 : z.cells.size = 1)
    {ao : Option Addr} {cap : Nat} {l : List Nat} (hw : WR w base ao cap l) {bo : Option Addr} {c : Nat} {m : List Nat} (hm : Byts w bo m) (hn : bo = none → m.length = 0 ∧ c = 0) (hb1 : l.length + m.length ≤ 1099511627776) (hbase : base ≤ w.heap.size) :
    ∃ ao' cap' w', (Builtin.append_ #[t, t] ty #[.slice ao l.length cap, .slice bo m.length c]).run P w = .ok (.slice ao' (l.length + m.length) cap') w' ∧ WR w' base ao' cap' (l ++ m) ∧ w.grownBy w' (blk ao) ∧ (blk ao' = blk ao ∨ ∀ g, blk ao' = some g → w.heap.size ≤ g) := by
  have hlt2 : ∀ b ∈ l ++ m, b < 256 := fun b hb => (List.mem_append.1 hb).elim (hw.lt b) (hm.lt b)
  have b1 : l.length + m.length ≤ maxLen := by unfold maxLen; omega
  have b2 : (l.length + m.length) * 1 ≤ 140737488355328 := by omega
  have hnews := hm.cells
  cases bo with
  | none =>
    obtain ⟨h0, rfl⟩ := hn rfl
    obtain rfl : m = [] := List.eq_nil_of_length_eq_zero h0
    refine ⟨ao, cap, w, ?_, by rw [List.append_nil]; exact hw, World.grownBy.refl _ _, .inl rfl⟩
    have hnc := hw.cap
    rcases hw.row with ⟨rfl, rfl, rfl⟩ | ⟨g, rfl, _⟩
    · simp [Builtin.append_, run_underlying h1, sizeOf, typeInfo, h2, Builtin.lenOf, Builtin.firstCells]
    · simp [Builtin.append_, run_underlying h1, sizeOf, typeInfo, h2, Builtin.lenOf, Builtin.firstCells, hnc, storeCells]
  | some ad =>
    rcases hw.row with ⟨rfl, rfl, rfl⟩ | ⟨g, rfl, q1, q2, q3, q4, q5, q6, q7⟩
    · obtain ⟨v', w', hrun, r1, r2, r3⟩ := run_append_own (P := P) w w.heap.size t ty 5 i z 1 1 h1 h2 h3 h4 h5 h6 (by decide) (.slice none 0 0) 0 [] (World.ownsRow_nil w _ 5 1) ad m.length c (bl m) (by rw [bl_len, Nat.mul_one]) (hnews ad rfl) (bl_one m) (by simpa using b1) (by simpa using b2) (Nat.le_refl _)
      rw [List.nil_append] at r1
      have hrun2 : (Builtin.append_ #[t, t] ty #[.slice none ([] : List Nat).length 0, .slice (some ad) m.length c]).run P w = .ok v' w' := hrun
      rcases r1.2 with ⟨rfl, h0⟩ | ⟨g, c', cur, rfl, q⟩
      · refine ⟨none, 0, w', by rw [hrun2]; congr 2; simpa using h0.symm, ?_, r2, .inl rfl⟩
        have : m = [] := List.eq_nil_of_length_eq_zero (by omega)
        subst this
        exact ⟨(fun _ h => by cases h), .inl ⟨rfl, rfl, rfl⟩⟩
      · have hf := World.ownsRow.lt r1 g rfl
        refine ⟨_, c', w', hrun2, by rw [List.nil_append]; exact (WR.of_own (n := 0 + m.length) hm.lt r1).mono hbase, r2, .inr fun g' hg' => ?_⟩
        cases hg'
        exact hf.1
    · by_cases hroom : l.length + m.length ≤ cap
      · have hf := run_firstCells_some (P := P) w 1 m.length ad m.length c (bl m) (by rw [bl_len, Nat.mul_one]) (hnews ad rfl)
        have hst := run_storeCells_cells (P := P) g l.length (bl m) 0 w (fun j hj => q5 _ (by rw [bl_len] at hj; omega)) (fun j hj => q6 _ (by rw [bl_len] at hj; omega)) (bl_one m)
        rw [Nat.add_zero] at hst
        refine ⟨some ⟨g, 0, none⟩, cap, w.setCells g l.length (bl m), ?_, ?_, ?_, .inl rfl⟩
        · simp [Builtin.append_, run_underlying h1, sizeOf, typeInfo, h2, h4, Builtin.lenOf, hroom, hf, Addr.add_lit, hst]
        · obtain ⟨e1, e2, _⟩ := setCells_heap g (bl m) l.length w
          have hin := World.cell?_setCells_in g (bl m) l.length w (fun j hj => q5 _ (by rw [bl_len] at hj; omega))
          have hout := fun j (hj : j < l.length ∨ l.length + m.length ≤ j) => World.cell?_setCells_out g (bl m) l.length w ⟨g, j, none⟩ (fun _ _ => by rw [bl_len]; exact hj)
          have hc : ∀ (j x : Nat), (l ++ m)[j]? = some x → (w.setCells g l.length (bl m)).cell? ⟨g, j, none⟩ = some (.int .u8 (x : Int)) := fun j x hj => by
            by_cases hjl : j < l.length
            · rw [hout j (.inl hjl)]
              exact q7 j x (by rwa [List.getElem?_append_left hjl] at hj)
            · rw [List.getElem?_append_right (by omega)] at hj
              have hjm := (List.getElem?_eq_some_iff.1 hj).1
              have h9 := hin (j - l.length) (by rw [bl_len]; exact hjm)
              rw [show l.length + (j - l.length) = j from by omega] at h9
              rw [h9]
              have h8 := bl_at m (j - l.length)
              rw [hj, List.getElem?_eq_getElem (by rw [bl_len]; exact hjm)] at h8
              exact h8
          refine ⟨hlt2, .inr ⟨g, rfl, q1, by rw [e1]; exact q2, by rw [List.length_append]; exact hroom, q4, fun j hj => ?_, fun j hj => by rw [World.frozen?_setCells]; exact q6 j hj, hc⟩⟩
          by_cases hj2 : j < l.length ∨ l.length + m.length ≤ j
          · rw [hout j hj2]; exact q5 j hj
          · have h9 := hin (j - l.length) (by rw [bl_len]; omega)
            rw [show l.length + (j - l.length) = j from by omega] at h9
            rw [h9]; rfl
        · obtain ⟨e1, e2, e3, e4, e5⟩ := setCells_heap g (bl m) l.length w
          exact ⟨e3, e4, e5, by rw [e1]; exact Nat.le_refl _, fun k _ hk => e2 k (fun e => hk (by rw [e]; rfl))⟩
      · obtain ⟨v', w', hrun, r1, r2⟩ := run_append_arg_grows (P := P) w t ty 5 i z 1 1 h1 h2 h3 h4 h5 h6 (by decide) ⟨g, 0, none⟩ l.length cap (bl l) (by rw [bl_len, Nat.mul_one]) (fun j u hj => by
            obtain ⟨x, hx, rfl⟩ := bl_isb l j u hj
            rw [Addr.add_lit, Nat.zero_add]; exact q7 j x hx) ad m.length c (bl m) (by rw [bl_len, Nat.mul_one]) (hnews ad rfl) (by omega) b1 b2
        rw [← bl_app] at r1
        have hl := r1.lt
        rcases r1.2 with ⟨rfl, h0⟩ | ⟨g', c', cur, rfl, q⟩
        · omega
        · refine ⟨_, c', w', hrun, (WR.of_own hlt2 r1).mono hbase, ⟨r2.os, r2.tape, r2.output, r2.size, fun k hk _ => r2.block k hk (by simp)⟩, .inr fun g2 hg2 => (hl g2 (by rw [ownBlock_slice]; exact hg2)).1⟩
end Go.Proofs.Ytkdpalmdcnpnoaa.Wv
namespace Go.Proofs.Ytkdpalmdcnpnoaa.Wv
open Go.RowKit Gen Fld

section
variable {P : Program} {ops : Array Oper} {o : Oper} {a : Act} {K : Act → World → Prop} {Q : Exit → Act → World → Prop}
theorem wp_append_any (w : World) (s x : Operand) (t : TypeId)
    (hop : o.op = .call { callee := .builtin .append, args := #[s, x], argTypes := #[t, t] })
    (base : Nat) (i : TypeInfo) (z : Value) (h1 : P.underlying t = some (.slice 5)) (h2 : P.info? 5 = some i) (h3 : i.zero = some z) (h4 : i.size = 1) (h5 : i.bytes = 1) (h6 : z.cells.size = 1)
    (ao : Option Addr) (n cap : Nat) (l : List Nat) (hn : l.length = n) (hs : a.eval s = .slice ao n cap) (hw : WR w base ao cap l)
    (bo : Option Addr) (k c : Nat) (m : List Nat) (hk : m.length = k) (hx : a.eval x = .slice bo k c) (hm : Byts w bo m) (hnil : bo = none → m.length = 0 ∧ c = 0)
    (hb : n + k ≤ 1099511627776) (hbase : base ≤ w.heap.size)
    (hK : ∀ ao' cap' w', WR w' base ao' cap' (l ++ m) → w.grownBy w' (blk ao) → (blk ao' = blk ao ∨ ∀ g, blk ao' = some g → w.heap.size ≤ g) → K (a.put o.dst (.slice ao' (n + k) cap')) w') :
    Oper.wp P o a w K Q := by
  subst hn
  subst hk
  obtain ⟨ao', cap', w', hrun, r1, r2, r3⟩ := run_append_any (P := P) w t o.type base i z h1 h2 h3 h4 h5 h6 hw hm hnil hb hbase
  unfold Oper.wp
  simp [execOp, hop, resolve, invoke, builtin, hs, hx, hrun, Result.andThen]
  exact hK ao' cap' w' r1 r2 r3
theorem step_append_any {w : World} {E : Prop} (hgd : o.guard = none) (s x : Operand) (t : TypeId)
    (hop : o.op = .call { callee := .builtin .append, args := #[s, x], argTypes := #[t, t] })
    (base : Nat) (i : TypeInfo) (z : Value) (h1 : P.underlying t = some (.slice 5)) (h2 : P.info? 5 = some i) (h3 : i.zero = some z) (h4 : i.size = 1) (h5 : i.bytes = 1) (h6 : z.cells.size = 1)
    (ao : Option Addr) (n cap : Nat) (l : List Nat) (hn : l.length = n) (hs : a.eval s = .slice ao n cap) (hw : WR w base ao cap l)
    (bo : Option Addr) (k c : Nat) (m : List Nat) (hk : m.length = k) (hx : a.eval x = .slice bo k c) (hm : Byts w bo m) (hnil : bo = none → m.length = 0 ∧ c = 0)
    (hb : n + k ≤ 1099511627776) (hbase : base ≤ w.heap.size)
    (hK : ∀ ao' cap' w', WR w' base ao' cap' (l ++ m) → w.grownBy w' (blk ao) → (blk ao' = blk ao ∨ ∀ g, blk ao' = some g → w.heap.size ≤ g) → K (a.put o.dst (.slice ao' (n + k) cap')) w') :
    if Region.wanted o (yielded ops a.tmps) = true then Oper.wp P o a w K Q else E := by
  have hw' : Region.wanted o (yielded ops a.tmps) = true := by simp [Region.wanted, hgd]
  rw [if_pos hw']
  exact wp_append_any w s x t hop base i z h1 h2 h3 h4 h5 h6 ao n cap l hn hs hw bo k c m hk hx hm hnil hb hbase hK
theorem wpList_append_any (w : World) {rest : List Oper} (hgd : o.guard = none) (s x : Operand) (t : TypeId)
    (hop : o.op = .call { callee := .builtin .append, args := #[s, x], argTypes := #[t, t] })
    (base : Nat) (i : TypeInfo) (z : Value) (h1 : P.underlying t = some (.slice 5)) (h2 : P.info? 5 = some i) (h3 : i.zero = some z) (h4 : i.size = 1) (h5 : i.bytes = 1) (h6 : z.cells.size = 1)
    (ao : Option Addr) (n cap : Nat) (l : List Nat) (hn : l.length = n) (hs : a.eval s = .slice ao n cap) (hw : WR w base ao cap l)
    (bo : Option Addr) (k c : Nat) (m : List Nat) (hk : m.length = k) (hx : a.eval x = .slice bo k c) (hm : Byts w bo m) (hnil : bo = none → m.length = 0 ∧ c = 0)
    (hb : n + k ≤ 1099511627776) (hbase : base ≤ w.heap.size)
    (hK : ∀ ao' cap' w', WR w' base ao' cap' (l ++ m) → w.grownBy w' (blk ao) → (blk ao' = blk ao ∨ ∀ g, blk ao' = some g → w.heap.size ≤ g) → wpList P ops Q rest (a.put o.dst (.slice ao' (n + k) cap')) w') :
    wpList P ops Q (o :: rest) a w :=
  wpList_plain hgd fun _ hK' => wp_append_any w s x t hop base i z h1 h2 h3 h4 h5 h6 ao n cap l hn hs hw bo k c m hk hx hm hnil hb hbase fun ao' cap' w' r1 r2 r3 => hK' _ _ (hK ao' cap' w' r1 r2 r3)
end

/-- Bytes in new memory, to which may be appended. -/
structure NW (w : World) (ao : Option Addr) (cap : Nat) (l : List Nat) (w' : World) : Prop where
  row : WR w' w.heap.size ao cap l
  bel : Below w.heap.size w w'
theorem NL.nw {w w' : World} {ao : Option Addr} {cap : Nat} {l : List Nat} (h : NL w ao cap l w') : NW w ao cap l w' := ⟨WR.of_own h.lt h.own, h.bel⟩
theorem NW.keep {w w1 w' : World} {ao : Option Addr} {cap : Nat} {l : List Nat} (h : NW w ao cap l w1) (hb : Below w1.heap.size w1 w') : NW w ao cap l w' := ⟨h.row.keep hb, h.bel.trans (hb.mono h.bel.size)⟩
theorem NW.app {w w5 w7 : World} {ao ao7 : Option Addr} {cap c7 : Nat} {l m : List Nat} (h : NW w ao cap l w5) (ho : WR w7 w.heap.size ao7 c7 (l ++ m)) (hg : w5.grownBy w7 (blk ao)) : NW w ao7 c7 (l ++ m) w7 :=
  ⟨ho, h.bel.trans ⟨hg.os, hg.tape, hg.output, hg.size, fun k hk => hg.block k (Nat.lt_of_lt_of_le hk h.bel.size) (fun e => by have := (h.row.blt k e.symm).1; omega)⟩⟩
theorem NW.mono {w0 w w' : World} {ao : Option Addr} {cap : Nat} {l : List Nat} (h : NW w ao cap l w') (hb : Below w0.heap.size w0 w) : NW w0 ao cap l w' := ⟨h.row.mono hb.size, hb.trans (h.bel.mono hb.size)⟩
theorem WR.grown {w5 w7 : World} {base : Nat} {ao bo : Option Addr} {cap : Nat} {m : List Nat} (h : WR w5 base bo cap m) (hg : w5.grownBy w7 (blk ao)) (hx : ∀ b, blk ao = some b → blk bo ≠ some b) : WR w7 base bo cap m :=
  h.block hg.size fun g e => hg.block g (h.blt g e).2 (fun e2 => hx g e2.symm e)
/-- What a call leaves that answers with bytes in new memory, to which may be appended. -/
def LW (w : World) (l : List Nat) (e : Ending) (w' : World) : Prop := ∃ ao cap, e = .returned (.slice ao l.length cap) ∧ NW w ao cap l w'
theorem LW.of {w w' : World} {l : List Nat} {ao : Option Addr} {n cap : Nat} (hn : l.length = n) (h : NW w ao cap l w') : LW w l (.returned (.slice ao n cap)) w' := by subst hn; exact ⟨ao, cap, rfl, h⟩
theorem rb_any (v n : Nat) (hv : v < 18446744073709551616) (hn : n ≤ 8) (w : World) :
    Calls Try.prog 51 #[.int .u64 (v : Int), .int .i64 (n : Int)] w fun e w' => e = .returned (.slice (some ⟨w.heap.size, 0, none⟩) n n) ∧ NW w (some ⟨w.heap.size, 0, none⟩) n (le v n) w' :=
  (rbytes_any v n hv hn w).mono fun _ _ ⟨h1, h2, h3⟩ => ⟨h1, WR.of_own (le_lt _ _) h2, h3⟩

/-- A chunk's bytes. -/
def chb (s l : List Nat) : List Nat := s ++ le l.length 4 ++ l ++ List.replicate (l.length % 2) 0
theorem chb_len (s l : List Nat) : (chb s l).length = s.length + 4 + l.length + l.length % 2 := by
  unfold chb; rw [List.length_append, List.length_append, List.length_append, le_len, List.length_replicate]
theorem lit_wr (w : World) (xs : List Nat) (n : Nat) (hn : xs.length = n) (hm : n ≤ 1024) (hlt : ∀ b ∈ xs, b < 256) (fz : Nat × Nat) (hz : fz = (0, 0) ∨ n ≤ fz.1) : WR (w.alloc (.cells (bl xs).toArray 5 fz)) w.heap.size (some ⟨w.heap.size, 0, none⟩) n xs := by
  subst hn
  have hat := heap_alloc_new w (.cells (bl xs).toArray 5 fz)
  have hz' : ∀ j, j < xs.length → ¬ (fz.1 ≤ j ∧ j < fz.2) := fun j hj => by
    rcases hz with rfl | h
    · simp
    · omega
  refine ⟨hlt, .inr ⟨w.heap.size, rfl, Nat.le_refl _, by simp, Nat.le_refl _, by unfold maxLen; omega, fun j hj => ?_, fun j hj => ?_, fun j x hj => ?_⟩⟩
  · unfold World.cell?; rw [hat]; simp [bl_len]; exact hj
  · unfold World.frozen?; rw [hat]; have := hz' j hj; simp; omega
  · unfold World.cell?; rw [hat]; simp [bl_at, hj]
set_option maxRecDepth 20000 in
theorem rchunk_any {w : World} (s : ByteArray) (hs : s.size ≤ 16) {a : Option Addr} {c n : Nat} {l : List Nat} (hb : Byts w a l) (hn : l.length = n) (hnil : a = none → l.length = 0 ∧ c = 0) (hlt : ∀ ad, a = some ad → ad.block < w.heap.size) (hl : n ≤ 1073741824) :
    Calls Try.prog 20 #[.string s, .slice a n c] w (LW w (chb (sb s) l)) := by
  obtain ⟨i0, hi, hz0, hz1, hz2⟩ := info_parts Try.info5
  have hcv := fun W => conv_string W s
  have HS0 := hid (show NW w (some ⟨w.heap.size, 0, none⟩) (grownCap w s.size 0 5) (sb s) (Lib.bytesWorld w 5 s) from ⟨WR.of_string w s (by omega), below_string w s⟩)
  have HBY := hid fun w' (h : Below w.heap.size w w') => hb.keep h
  have HNIL := hid hnil
  have HLT := hid hlt
  have hu := u64_small n (by omega)
  have HRB := hid fun w => (show Calls Try.prog 51 #[.int .u64 (n : Int), .int .i64 4] w fun e w' => e = .returned (.slice (some ⟨w.heap.size, 0, none⟩) 4 4) ∧ NW w (some ⟨w.heap.size, 0, none⟩) 4 (le n 4) w' from rb_any n 4 (by omega) (by decide) w)
  have HN := hid hn
  have HSL := hid (sb_len s)
  have HCH := hid (show chb (sb s) l = sb s ++ le n 4 ++ l ++ List.replicate (n % 2) 0 by unfold chb; rw [hn])
  clear hb hnil hlt hn
  go_enter Try.func20, Try.ntmps20
  go_wp2_with fail
  generalize hG : grownCap w s.size 0 5 = G at *
  generalize hW1 : Lib.bytesWorld w 5 s = w1 at *
  clear hG hW1 hcv
  refine (HRB.out _).mono ?_
  rintro e w2 ⟨rfl, h2⟩
  have HS2 := hid (HS0.out.keep h2.bel)
  have HB2 := hid h2.row
  have h2s := HS2.out.bel.size
  clear h2
  go_wp2_with (at_builtin; (refine (wpList_append_any w2 (by rfl) _ _ _ (by rfl) w.heap.size i0 _ Try.underlying29 hi hz0 hz1 hz2 rfl _ s.size G (sb s) HSL.out (by rfl) HS2.out.row _ 4 4 (le n 4) (le_len _ _) (by rfl) HB2.out.byts (fun e => by cases e) (by omega) h2s ?_)))
  intro ao3 c3 w3 ho3 hg3 _
  have HN3 := hid (HS2.out.app ho3 hg3)
  have HL3 := hid (show (sb s ++ le n 4).length = s.size + 4 by rw [List.length_append, le_len, HSL.out])
  have h3s := HN3.out.bel.size
  clear ho3 hg3 h2s HS2 HB2 HS0
  obtain ⟨L3, hL3⟩ : ∃ L3, L3 = sb s ++ le n 4 := ⟨_, rfl⟩
  rw [← hL3] at HN3 HL3 HCH
  clear hL3
  have HBY3 := hid (HBY.out _ HN3.out.bel)
  go_wp2_with (at_builtin; (refine (wpList_append_any w3 (by rfl) _ _ _ (by rfl) w.heap.size i0 _ Try.underlying29 hi hz0 hz1 hz2 rfl ao3 (s.size + 4) c3 L3 HL3.out (by rfl) HN3.out.row a n c l HN.out (by rfl) HBY3.out HNIL.out (by omega) h3s ?_)))
  intro ao4 c4 w4 ho4 hg4 _
  have HN4 := hid (HN3.out.app ho4 hg4)
  have HL4 := hid (show (L3 ++ l).length = s.size + 4 + n by rw [List.length_append, HL3.out, HN.out])
  clear ho4 hg4 HN3 HBY3 h3s
  obtain ⟨L4, hL4⟩ : ∃ L4, L4 = L3 ++ l := ⟨_, rfl⟩
  rw [← hL4] at HN4 HL4 HCH
  clear hL4
  by_cases hodd : n % 2 = 1
  · rw [hodd] at HCH
    have hodd2 : ((n : Int) % 2 == 1) = true := by rw [beq_iff_eq]; omega
    have HN5 := hid (HN4.out.keep (bel_new w4 (.cells #[.int .u8 0] 5)))
    have HZ5 := hid (show WR (w4.alloc (.cells #[.int .u8 0] 5)) w4.heap.size (some ⟨w4.heap.size, 0, none⟩) 1 [0] from lit_wr w4 [0] 1 rfl (by decide) (by decide) (0, 0) (.inl rfl))
    have h5s := HN5.out.bel.size
    clear hodd
    go_wp2_with (at_builtin; (refine (wpList_append_any (w4.alloc (.cells #[.int .u8 0] 5)) (by rfl) _ _ _ (by rfl) w.heap.size i0 _ Try.underlying29 hi hz0 hz1 hz2 rfl ao4 (s.size + 4 + n) c4 L4 HL4.out (by rfl) HN5.out.row _ 1 1 [0] rfl (by rfl) HZ5.out.byts (fun e => by cases e) (by omega) h5s ?_)))
    intro ao6 c6 w6 ho6 hg6 _
    have HN6 := hid (HN5.out.app ho6 hg6)
    have HL6 := hid (show (L4 ++ [0]).length = s.size + 4 + n + 1 by rw [List.length_append, HL4.out]; rfl)
    clear ho6 hg6
    go_wp2_with fail
    go_ret
    rw [HCH.out]
    exact LW.of HL6.out HN6.out
  · have h0 : n % 2 = 0 := by omega
    rw [h0] at HCH
    have hodd2 : ((n : Int) % 2 == 1) = false := by rw [beq_eq_false_iff_ne]; omega
    clear hodd h0
    go_wp2_with fail
    go_ret
    rw [HCH.out]
    show LW w (L4 ++ []) _ _
    rw [List.append_nil]
    exact LW.of HL4.out HN4.out
end Go.Proofs.Ytkdpalmdcnpnoaa.Wv
namespace Go.Proofs.Ytkdpalmdcnpnoaa.Wv
open Go.RowKit Gen Fld

set_option maxRecDepth 20000 in
set_option maxHeartbeats 1000000 in
theorem rformat_any (c n r : Nat) (hc : c ≤ 8) (hn : n ≤ 24) (hr : r ≤ 1048575) (w : World) : Calls Try.prog 21 #[.agg #[.int .i64 (c : Int), .int .i64 (n : Int), .int .i64 (r : Int)]] w (LW w (fmtb c n r)) := by
  obtain ⟨i0, hi, hz0, hz1, hz2⟩ := info_parts Try.info5
  have HW := hid fun w => rwidth_any (n : Int) w
  have hd := wd_le (n : Int)
  have HF := hid (show fmtb c n r = le 1 2 ++ le c 2 ++ le r 4 ++ le (r * (c * wd n)) 4 ++ le (c * wd n) 2 ++ le n 2 from rfl)
  generalize wd (n : Int) = d at *
  obtain ⟨y, hy⟩ : ∃ y, y = c * d := ⟨_, rfl⟩
  have hy24 : y ≤ 24 := by rw [hy]; exact Nat.le_trans (Nat.mul_le_mul hc hd) (by decide)
  have HY := hid (show wrap64 ((c : Int) * (d : Int)) = (y : Int) by rw [← Int.natCast_mul, ← hy]; unfold wrap64; omega)
  rw [← hy] at HF
  obtain ⟨z, hz⟩ : ∃ z, z = r * y := ⟨_, rfl⟩
  have hzl : z ≤ 25165800 := by rw [hz]; exact Nat.le_trans (Nat.mul_le_mul hr hy24) (by decide)
  have hzw : wrap64 ((r : Int) * (y : Int)) = (z : Int) := by rw [← Int.natCast_mul, ← hz]; unfold wrap64; omega
  rw [← hz] at HF
  clear hy hz
  have u1 := u64_small c (by omega)
  have u2 := u64_small r (by omega)
  have u3 := u64_small z (by omega)
  have u4 := u64_small y (by omega)
  have u5 := u64_small n (by omega)
  have HR0 := hid fun w => (show Calls Try.prog 51 #[.int .u64 1, .int .i64 2] w fun e w' => e = .returned (.slice (some ⟨w.heap.size, 0, none⟩) 2 2) ∧ NW w (some ⟨w.heap.size, 0, none⟩) 2 (le 1 2) w' from rb_any 1 2 (by omega) (by decide) w)
  have HR1 := hid fun w => (show Calls Try.prog 51 #[.int .u64 (c : Int), .int .i64 2] w fun e w' => e = .returned (.slice (some ⟨w.heap.size, 0, none⟩) 2 2) ∧ NW w (some ⟨w.heap.size, 0, none⟩) 2 (le c 2) w' from rb_any c 2 (by omega) (by decide) w)
  have HR2 := hid fun w => (show Calls Try.prog 51 #[.int .u64 (r : Int), .int .i64 4] w fun e w' => e = .returned (.slice (some ⟨w.heap.size, 0, none⟩) 4 4) ∧ NW w (some ⟨w.heap.size, 0, none⟩) 4 (le r 4) w' from rb_any r 4 (by omega) (by decide) w)
  have HR3 := hid fun w => (show Calls Try.prog 51 #[.int .u64 (z : Int), .int .i64 4] w fun e w' => e = .returned (.slice (some ⟨w.heap.size, 0, none⟩) 4 4) ∧ NW w (some ⟨w.heap.size, 0, none⟩) 4 (le z 4) w' from rb_any z 4 (by omega) (by decide) w)
  have HR4 := hid fun w => (show Calls Try.prog 51 #[.int .u64 (y : Int), .int .i64 2] w fun e w' => e = .returned (.slice (some ⟨w.heap.size, 0, none⟩) 2 2) ∧ NW w (some ⟨w.heap.size, 0, none⟩) 2 (le y 2) w' from rb_any y 2 (by omega) (by decide) w)
  have HR5 := hid fun w => (show Calls Try.prog 51 #[.int .u64 (n : Int), .int .i64 2] w fun e w' => e = .returned (.slice (some ⟨w.heap.size, 0, none⟩) 2 2) ∧ NW w (some ⟨w.heap.size, 0, none⟩) 2 (le n 2) w' from rb_any n 2 (by omega) (by decide) w)
  have HB0 := hid (bel_new w (.cells #[.int .i64 (c : Int), .int .i64 (n : Int), .int .i64 (r : Int)] 23))
  have hcs : ∀ w', Below (w.alloc (.cells #[.int .i64 (c : Int), .int .i64 (n : Int), .int .i64 (r : Int)] 23)).heap.size (w.alloc (.cells #[.int .i64 (c : Int), .int .i64 (n : Int), .int .i64 (r : Int)] 23)) w' → w'.cell? ⟨w.heap.size, 0, none⟩ = some (.int .i64 (c : Int)) ∧ w'.cell? ⟨w.heap.size, 1, none⟩ = some (.int .i64 (n : Int)) ∧ w'.cell? ⟨w.heap.size, 2, none⟩ = some (.int .i64 (r : Int)) := fun w' hb => by
    have hlt : w.heap.size < (w.alloc (.cells #[.int .i64 (c : Int), .int .i64 (n : Int), .int .i64 (r : Int)] 23)).heap.size := by simp
    have e := (hb.block w.heap.size hlt).trans (heap_alloc_new w _)
    refine ⟨?_, ?_, ?_⟩ <;> (unfold World.cell?; rw [e]; rfl)
  have HC := hid hcs
  clear hcs hd
  obtain ⟨b0, b1, b2⟩ := HC.out _ (Below.refl _ _)
  go_enter Try.func21, Try.ntmps21
  go_wp2_with fail
  generalize w.alloc (.cells #[.int .i64 (c : Int), .int .i64 (n : Int), .int .i64 (r : Int)] 23) = W0 at *
  go_quiet (exact Calls.quiet_of_same ((HW.out _).mono fun _ _ ⟨a, b⟩ => ⟨a, b.symm⟩))
  have bq : Below W0.heap.size W0 (W0.drewN nq) := ⟨rfl, rfl, rfl, Nat.le_refl _, fun _ _ => rfl⟩
  clear b0 b1 b2
  generalize hWq : W0.drewN nq = Wq at *
  clear hWq
  have HBQ := hid (HB0.out.trans (bq.mono HB0.out.size))
  have HC2 := hid fun w' (h : Below Wq.heap.size Wq w') => HC.out w' (bq.trans (h.mono bq.size))
  clear bq HC HB0
  obtain ⟨b0, b1, b2⟩ := HC2.out _ (Below.refl _ _)
  go_wp2_with fail
  rw [HY.out]
  have d0 : Below Wq.heap.size Wq Wq.drew := ⟨rfl, rfl, rfl, Nat.le_refl _, fun _ _ => rfl⟩
  have s0 := (HC2.out _ d0).1
  clear b0 b1 b2
  go_region_held3 (fun w' => w'.cell? ⟨w.heap.size, 0, none⟩ = some (.int .i64 (c : Int)))
    (first | with_reducible exact s0 | with_reducible exact s1 | with_reducible exact s2 | with_reducible exact s3 | go_keep)
    ((first
      | (go_at_call 51; (with_reducible refine (HR0.out _).mono ?_); rintro e w1 ⟨rfl, h1⟩; have d1 := d0.trans (h1.bel.mono d0.size); have s1 := (HC2.out _ d1).1)
      | (go_at_call 51; (with_reducible refine (HR1.out _).mono ?_); rintro e w2 ⟨rfl, h2⟩; have d2 := d1.trans (h2.bel.mono d1.size); have s2 := (HC2.out _ d2).1; have n2 := (h1.mono d0).keep h2.bel)
      | (refine step_append_any (by rfl) _ _ _ (by rfl) Wq.heap.size i0 _ Try.underlying29 hi hz0 hz1 hz2 rfl _ 2 2 (le 1 2) (le_len _ _) (by rfl) n2.row _ 2 2 (le c 2) (le_len _ _) (by rfl) h2.row.byts (fun e => by cases e) (by omega) d2.size ?_; intro ao3 c3 w3 ho3 hg3 _; have n3 := n2.app ho3 hg3; have s3 := (HC2.out _ n3.bel).1)))
  have HN3 := hid n3
  have HL3 := hid (show (le 1 2 ++ le c 2).length = 4 by rw [List.length_append, le_len, le_len])
  clear s0 s1 s2 s3 d0 d1 d2 h1 h2 n2 n3 ho3 hg3
  obtain ⟨L3, hL3⟩ : ∃ L3, L3 = le 1 2 ++ le c 2 := ⟨_, rfl⟩
  rw [← hL3] at HN3 HL3 HF
  clear hL3
  have HM0 := hid (le_len r 4)
  obtain ⟨M0, hM0⟩ : ∃ M0, M0 = le r 4 := ⟨_, rfl⟩
  rw [← hM0] at HM0 HR2 HF
  clear hM0
  have HM1 := hid (le_len z 4)
  obtain ⟨M1, hM1⟩ : ∃ M1, M1 = le z 4 := ⟨_, rfl⟩
  rw [← hM1] at HM1 HR3 HF
  clear hM1
  have HM2 := hid (le_len y 2)
  obtain ⟨M2, hM2⟩ : ∃ M2, M2 = le y 2 := ⟨_, rfl⟩
  rw [← hM2] at HM2 HR4 HF
  clear hM2
  have HM3 := hid (le_len n 2)
  obtain ⟨M3, hM3⟩ : ∃ M3, M3 = le n 2 := ⟨_, rfl⟩
  rw [← hM3] at HM3 HR5 HF
  clear hM3
  obtain ⟨b0, b1, b2⟩ := HC2.out _ HN3.out.bel
  go_wp2_with fail
  refine (HR2.out _).mono ?_
  rintro e w4 ⟨rfl, h4⟩
  have HS4 := hid (HN3.out.keep h4.bel)
  have HB4 := hid h4.row
  have h4s := HS4.out.bel.size
  clear h4 b0 b1 b2 HN3
  go_wp2_with (at_builtin; (refine (wpList_append_any w4 (by rfl) _ _ _ (by rfl) Wq.heap.size i0 _ Try.underlying29 hi hz0 hz1 hz2 rfl _ 4 _ L3 HL3.out (by rfl) HS4.out.row _ 4 4 M0 HM0.out (by rfl) HB4.out.byts (fun e => by cases e) (by omega) h4s ?_)))
  intro ao5 c5 w5 ho5 hg5 _
  have HN5 := hid (HS4.out.app ho5 hg5)
  have HL5 := hid (show (L3 ++ M0).length = 8 by rw [List.length_append, HL3.out, HM0.out])
  clear ho5 hg5 HS4 HB4 h4s
  obtain ⟨L5, hL5⟩ : ∃ L5, L5 = L3 ++ M0 := ⟨_, rfl⟩
  rw [← hL5] at HN5 HL5 HF
  clear hL5
  obtain ⟨b0, b1, b2⟩ := HC2.out _ HN5.out.bel
  go_wp2_with fail
  refine (HR3.out _).mono ?_
  rintro e w6 ⟨rfl, h6⟩
  have HS6 := hid (HN5.out.keep h6.bel)
  have HB6 := hid h6.row
  have h6s := HS6.out.bel.size
  clear h6 b0 b1 b2 HN5
  go_wp2_with (at_builtin; (refine (wpList_append_any w6 (by rfl) _ _ _ (by rfl) Wq.heap.size i0 _ Try.underlying29 hi hz0 hz1 hz2 rfl _ 8 _ L5 HL5.out (by rfl) HS6.out.row _ 4 4 M1 HM1.out (by rfl) HB6.out.byts (fun e => by cases e) (by omega) h6s ?_)))
  intro ao7 c7 w7 ho7 hg7 _
  have HN7 := hid (HS6.out.app ho7 hg7)
  have HL7 := hid (show (L5 ++ M1).length = 12 by rw [List.length_append, HL5.out, HM1.out])
  clear ho7 hg7 HS6 HB6 h6s
  obtain ⟨L7, hL7⟩ : ∃ L7, L7 = L5 ++ M1 := ⟨_, rfl⟩
  rw [← hL7] at HN7 HL7 HF
  clear hL7
  obtain ⟨b0, b1, b2⟩ := HC2.out _ HN7.out.bel
  go_wp2_with fail
  refine (HR4.out _).mono ?_
  rintro e w8 ⟨rfl, h8⟩
  have HS8 := hid (HN7.out.keep h8.bel)
  have HB8 := hid h8.row
  have h8s := HS8.out.bel.size
  clear h8 b0 b1 b2 HN7
  go_wp2_with (at_builtin; (refine (wpList_append_any w8 (by rfl) _ _ _ (by rfl) Wq.heap.size i0 _ Try.underlying29 hi hz0 hz1 hz2 rfl _ 12 _ L7 HL7.out (by rfl) HS8.out.row _ 2 2 M2 HM2.out (by rfl) HB8.out.byts (fun e => by cases e) (by omega) h8s ?_)))
  intro ao9 c9 w9 ho9 hg9 _
  have HN9 := hid (HS8.out.app ho9 hg9)
  have HL9 := hid (show (L7 ++ M2).length = 14 by rw [List.length_append, HL7.out, HM2.out])
  clear ho9 hg9 HS8 HB8 h8s
  obtain ⟨L9, hL9⟩ : ∃ L9, L9 = L7 ++ M2 := ⟨_, rfl⟩
  rw [← hL9] at HN9 HL9 HF
  clear hL9
  obtain ⟨b0, b1, b2⟩ := HC2.out _ HN9.out.bel
  go_wp2_with fail
  refine (HR5.out _).mono ?_
  rintro e w10 ⟨rfl, h10⟩
  have HS10 := hid (HN9.out.keep h10.bel)
  have HB10 := hid h10.row
  have h10s := HS10.out.bel.size
  clear h10 b0 b1 b2 HN9
  go_wp2_with (at_builtin; (refine (wpList_append_any w10 (by rfl) _ _ _ (by rfl) Wq.heap.size i0 _ Try.underlying29 hi hz0 hz1 hz2 rfl _ 14 _ L9 HL9.out (by rfl) HS10.out.row _ 2 2 M3 HM3.out (by rfl) HB10.out.byts (fun e => by cases e) (by omega) h10s ?_)))
  intro ao11 c11 w11 ho11 hg11 _
  have HN11 := hid (HS10.out.app ho11 hg11)
  have HL11 := hid (show (L9 ++ M3).length = 16 by rw [List.length_append, HL9.out, HM3.out])
  clear ho11 hg11 HS10 HB10 h10s
  obtain ⟨L11, hL11⟩ : ∃ L11, L11 = L9 ++ M3 := ⟨_, rfl⟩
  rw [← hL11] at HN11 HL11 HF
  clear hL11
  go_wp2_with fail
  go_ret
  rw [HF.out]
  exact LW.of HL11.out (HN11.out.mono HBQ.out)
end Go.Proofs.Ytkdpalmdcnpnoaa.Wv
namespace Go.Proofs.Ytkdpalmdcnpnoaa.Wv
open Go.RowKit Gen Fld

/-- A chunk: its name's bytes, where its own lie, how many. -/
structure Chk where
  nm : List Nat
  at_ : Nat
  sz : Nat
/-- How many bytes the next chunk tells. -/
def nsz4 (r : List Nat) : Nat := lev ((r.drop 4).take 4)
/-- How many bytes it takes in all. -/
def nlen (r : List Nat) : Nat := 8 + nsz4 r + nsz4 r % 2
/-- What is wrong with it. -/
def ncode (r : List Nat) : Nat := if r.length < nlen r then 10 else if nsz4 r % 2 = 1 ∧ r[8 + nsz4 r]? ≠ some 0 then 11 else 0
def nchk (r : List Nat) (p : Nat) : Chk := ⟨r.take 4, p + 8, nsz4 r⟩
/-- All chunks, one behind the other, up to one that may not be. -/
def cks : Nat → List Nat → Nat → List (Chk × Nat)
  | 0, _, _ => []
  | f + 1, r, p => if r = [] then [] else if ncode r = 0 then (nchk r p, 0) :: cks f (r.drop (nlen r)) (p + nlen r) else [(⟨[], 0, 0⟩, ncode r)]
theorem ncode_short {r : List Nat} (h : r.length < 8) : ncode r = 10 := by
  unfold ncode nlen
  rw [if_pos (by omega)]
theorem nlen_8 (r : List Nat) : 8 ≤ nlen r := by unfold nlen; omega
theorem ncode_zero {r : List Nat} (h : ncode r = 0) : nlen r ≤ r.length ∧ ¬ (nsz4 r % 2 = 1 ∧ r[8 + nsz4 r]? ≠ some 0) := by
  unfold ncode at h
  split at h
  · cases h
  · split at h
    · cases h
    · rename_i h1 h2
      exact ⟨by omega, h2⟩
theorem cks_nil (f p : Nat) : cks f [] p = [] := by
  cases f
  · rfl
  · rw [cks, if_pos rfl]
theorem cks_good {f : Nat} {r : List Nat} {p : Nat} (hf : r.length ≤ f) (hr : r ≠ []) (hc : ncode r = 0) : cks f r p = (nchk r p, 0) :: cks (f - 1) (r.drop (nlen r)) (p + nlen r) := by
  cases f with
  | zero => exact absurd (List.eq_nil_of_length_eq_zero (by omega)) hr
  | succ f => rw [cks, if_neg hr, if_pos hc]; rfl
theorem cks_bad {f : Nat} {r : List Nat} {p : Nat} (hf : r.length ≤ f) (hr : r ≠ []) (hc : ncode r ≠ 0) : cks f r p = [(⟨[], 0, 0⟩, ncode r)] := by
  cases f with
  | zero => exact absurd (List.eq_nil_of_length_eq_zero (by omega)) hr
  | succ f => rw [cks, if_neg hr, if_neg hc]
theorem drop_fuel {f : Nat} {r : List Nat} (hf : r.length ≤ f) : (r.drop (nlen r)).length ≤ f - 1 := by
  have := nlen_8 r
  rw [List.length_drop]
  omega
/-- What is wrong with the last one, and else all chunks. -/
def ends (all : List (Chk × Nat)) : Nat × List Chk :=
  match all.getLast? with
  | none => (0, [])
  | some (_, e) => if e = 0 then (0, all.map Prod.fst) else (e, [])
theorem ends_good {all : List (Chk × Nat)} (h : ∀ x ∈ all, x.2 = 0) : ends all = (0, all.map Prod.fst) := by
  unfold ends
  cases hl : all.getLast? with
  | none => rw [List.getLast?_eq_none_iff.1 hl]; rfl
  | some x => exact if_pos (h x (List.mem_of_getLast? hl))
theorem ends_bad (pre : List (Chk × Nat)) (c : Chk) {e : Nat} (h : e ≠ 0) : ends (pre ++ [(c, e)]) = (e, []) := by
  unfold ends
  rw [List.getLast?_append, List.getLast?_singleton]
  exact if_neg h
/-- One that is wrong is the last one. -/
theorem cks_last : ∀ (f : Nat) (r : List Nat) (p : Nat) (pre : List (Chk × Nat)) (x : Chk × Nat), pre ++ [x] <+: cks f r p → x.2 ≠ 0 → pre ++ [x] = cks f r p
  | 0, r, p, pre, x, h, _ => by
    rw [cks] at h
    have := List.prefix_nil.1 h
    simp at this
  | f + 1, r, p, pre, x, h, hx => by
    rw [cks] at h ⊢
    split at h
    · have := List.prefix_nil.1 h
      simp at this
    · split at h
      · rename_i h1 h2
        rw [if_neg h1, if_pos h2]
        cases pre with
        | nil =>
          obtain ⟨t, ht⟩ := h
          simp only [List.nil_append, List.singleton_append] at ht
          injection ht with e1 _
          rw [e1] at hx
          exact absurd rfl hx
        | cons y pre =>
          obtain ⟨t, ht⟩ := h
          simp only [List.cons_append] at ht
          injection ht with e1 e2
          rw [e1, List.cons_append, cks_last f _ _ pre x ⟨t, e2⟩ hx]
      · rename_i h1 h2
        rw [if_neg h1, if_neg h2]
        obtain ⟨t, ht⟩ := h
        have hl := congrArg List.length ht
        simp only [List.length_append, List.length_cons, List.length_nil] at hl
        obtain rfl := List.eq_nil_of_length_eq_zero (show t.length = 0 by omega)
        rw [List.append_nil] at ht
        exact ht
/-- Bytes go on with a name of four, as far as there are some. -/
def Bgn (l m : List Nat) : Prop := l.take 4 = m.take l.length
instance (l m : List Nat) : Decidable (Bgn l m) := by unfold Bgn; exact inferInstance
/-- What is wrong with how a WAV begins. -/
def hcode (l : List Nat) : Nat := if ¬ Bgn l [82, 73, 70, 70] ∨ ¬ Bgn (l.drop 8) [87, 65, 86, 69] then 50 else if l.length < 12 then 10 else if lev ((l.drop 4).take 4) ≠ l.length - 8 then 34 else 0
/-- What is wrong with a WAV's chunks, and else all of them. -/
def chunks (l : List Nat) : Nat × List Chk := if hcode l = 0 then ends (cks l.length (l.drop 12) 12) else (hcode l, [])
end Go.Proofs.Ytkdpalmdcnpnoaa.Wv
namespace Go.Proofs.Ytkdpalmdcnpnoaa.Wv
open Go.RowKit Gen Fld

theorem tos_ext (m : List Nat) (k : Nat) : ((tos m).extract 0 k).toList = (m.take k).map UInt8.ofNat := by
  rw [ByteArray.toList_eq, ByteArray.data_extract]
  unfold tos
  simp [List.extract_eq_take_drop, List.map_take]
theorem u8_beq {l m : List Nat} (hl : ∀ b ∈ l, b < 256) (hm : ∀ b ∈ m, b < 256) : (l.map UInt8.ofNat == m.map UInt8.ofNat) = decide (l = m) := by
  rw [← toList_tos, ← toList_tos]; exact tos_beq hl hm
set_option maxRecDepth 20000 in
theorem begins_any {w : World} {a : Option Addr} {n cap : Nat} {l m : List Nat} (hb : Byts w a l) (hn : l.length = n) (hm4 : m.length = 4) (hm : ∀ b ∈ m, b < 256) (hc : n ≤ cap) (hl : n ≤ 1099511627776) :
    Calls Try.prog 38 #[.slice a n cap, .string (tos m)] w fun e w' => e = .returned (.bool (decide (Bgn l m))) ∧ w = w' := by
  have HB := hid (show decide (Bgn l m) = decide (l.take (min n 4) = m.take (min n 4)) from decide_eq_decide.2 (by
    unfold Bgn
    have e1 : l.take (min n 4) = l.take 4 := by
      rw [← hn, Nat.min_comm, ← List.take_take]; simp
    have e2 : m.take (min n 4) = m.take l.length := by
      rw [← hm4, ← hn, ← List.take_take]; simp
    rw [e1, e2]))
  obtain ⟨k, hk⟩ : ∃ k, k = min n 4 := ⟨_, rfl⟩
  rw [← hk] at HB
  have hlk : (l.take k).length = k := by rw [List.length_take]; omega
  have hcv := (hb.take k).conv cap
  rw [hlk] at hcv
  have hs : (tos (l.take k)).size = k := by rw [tos_size, hlk]
  have hs4 : (tos m).size = 4 := by rw [tos_size, hm4]
  have hls : (tos (l.take k)).toList = (l.take k).map UInt8.ofNat := toList_tos _
  have hms := tos_ext m k
  have HQ := hid (u8_beq (l := l.take k) (m := m.take k) (hb.take k).lt (fun b hb => hm b (List.mem_of_mem_take hb)))
  have hkc : k ≤ cap := by omega
  clear hb hm4 hm hlk hn
  generalize tos (l.take k) = t at *
  generalize tos m = s at *
  generalize l.take k = lx at *
  generalize m.take k = mx at *
  by_cases h4 : n ≤ 4
  · obtain rfl : k = n := by omega
    have h42 : (k : Int) ≤ 4 := by omega
    clear hk h4
    go_enter Try.func38, Try.ntmps38
    go_wp2_with fail
    go_ret
    refine ⟨?_, rfl⟩
    show Ending.returned (.bool (lx.map UInt8.ofNat == mx.map UInt8.ofNat)) = _
    rw [HQ.out, HB.out]
  · obtain rfl : k = 4 := by omega
    have h42 : ¬ (n : Int) ≤ 4 := by omega
    have h43 : ¬ (n : Int) < 4 := by omega
    have hmin : min (n : Int) 4 = 4 := by omega
    clear hk h4
    go_enter Try.func38, Try.ntmps38
    go_wp2_with fail
    go_ret
    refine ⟨?_, rfl⟩
    show Ending.returned (.bool (lx.map UInt8.ofNat == mx.map UInt8.ofNat)) = _
    rw [HQ.out, HB.out]
theorem bgn_iff {l m : List Nat} (hm4 : m.length = 4) (p : Nat) : Bgn (l.drop p) m ↔ ∀ i, i < 4 → p + i < l.length → l[p + i]? = m[i]? := by
  unfold Bgn
  constructor
  · intro h i hi hpi
    have := congrArg (fun x : List Nat => x[i]?) h
    simp only [List.getElem?_take, List.getElem?_drop, List.length_drop] at this
    rw [if_pos hi, if_pos (by omega)] at this
    exact this
  · intro h
    apply List.ext_getElem?
    intro i
    simp only [List.getElem?_take, List.getElem?_drop, List.length_drop]
    by_cases hi : i < 4
    · rw [if_pos hi]
      by_cases hpi : p + i < l.length
      · rw [if_pos (by omega)]; exact h i hi hpi
      · rw [if_neg (by omega)]; exact List.getElem?_eq_none (by omega)
    · rw [if_neg hi]
      split
      · exact (List.getElem?_eq_none (by omega)).symm
      · rfl
theorem bgn_yes {l m : List Nat} (hm4 : m.length = 4) {p i : Nat} (h : ∀ j, j < i → l[p + j]? = m[j]?) (hi : i = 4 ∨ l.length ≤ p + i) : Bgn (l.drop p) m := (bgn_iff hm4 p).2 fun j hj hpj => h j (by omega)
theorem bgn_no {l m : List Nat} (hm4 : m.length = 4) {p i x : Nat} (hi : i < 4) (hx : l[p + i]? = some x) (hne : m[i]? ≠ some x) : ¬ Bgn (l.drop p) m := fun h => by
  have h1 := (bgn_iff hm4 p).1 h i hi (List.getElem?_eq_some_iff.1 hx).1
  rw [hx] at h1
  exact hne h1.symm
/-- A text's byte. -/
theorem six_any (m : List Nat) (i y : Nat) (hy : m[i]? = some y) (hyl : y < 256) (w : World) : (Instr.index 9 (.string (tos m)) (.int .i64 (i : Int))).run Try.prog w = .ok (.int .u8 (y : Int)) w := by
  have hil := (List.getElem?_eq_some_iff.1 hy).1
  have hie := (List.getElem?_eq_some_iff.1 hy).2
  rw [run_index_string w 9 (tos m) .i64 i Try.underlying9, dif_pos ⟨by omega, by rw [tos_size]; omega⟩]
  have h2 : (tos m)[(i : Int).toNat]'(by rw [tos_size]; omega) = UInt8.ofNat y := by
    show (m.map UInt8.ofNat).toArray[(i : Int).toNat]'(by simp; omega) = _
    simp [hie]
  rw [h2]
  simp
  omega
set_option maxRecDepth 20000 in
set_option maxHeartbeats 800000 in
theorem ris_any {w : World} {a : Option Addr} {n cap : Nat} {l m : List Nat} (hb : Byts w a l) (hn : l.length = n) (hm4 : m.length = 4) (hm : ∀ b ∈ m, b < 256) (hl : n ≤ 1099511627776) (p : Nat) (hp : p ≤ 8) :
    Calls Try.prog 42 #[.slice a n cap, .int .i64 (p : Int), .string (tos m)] w fun e w' => e = .returned (.bool (decide (Bgn (l.drop p) m))) ∧ Below w.heap.size w w' := by
  have HY := hid fun (i : Nat) (h : ∀ j, j < i → l[p + j]? = m[j]?) (hi : i = 4 ∨ n ≤ p + i) => bgn_yes hm4 h (by rw [hn]; exact hi)
  have HNO := hid fun (i x : Nat) (hi : i < 4) (hx : l[p + i]? = some x) (hne : m[i]? ≠ some x) => bgn_no hm4 hi hx hne
  have HIX := hid fun (i y : Nat) (hy : m[i]? = some y) w => six_any m i y hy (hm y (List.mem_of_getElem? hy)) w
  have HML := hid hm4
  have HN := hid hn
  have H := hid hb
  clear hb hn hm4 hm
  generalize tos m = s at *
  go_enter Try.func42, Try.ntmps42
  go_wp2_with fail
  go_loopg [7] 4 (fun gg i wr => ∃ k : Nat, k ≤ 4 ∧ gg = 4 - k ∧ i = .int .i64 k ∧ Below w.heap.size w wr ∧ Hid (∀ j, j < k → l[p + j]? = m[j]?))
  case atStart => exact ⟨0, by decide, rfl, rfl, Below.refl _ _, hid fun j hj => absurd hj (Nat.not_lt_zero _)⟩
  case round =>
    obtain ⟨k, hk, hg, rfl, hbw, HA⟩ := hrel
    have HBW := hid hbw
    have HG := hid hg
    clear hbw hg
    by_cases h4 : k < 4
    · have h42 : (k : Int) < 4 := by omega
      by_cases hlt : p + k < n
      · have hlt2 : (p : Int) + (k : Int) < (n : Int) := by omega
        obtain ⟨x, hx⟩ : ∃ x, l[p + k]? = some x := ⟨_, List.getElem?_eq_getElem (by rw [HN.out]; exact hlt)⟩
        obtain ⟨y, hy⟩ : ∃ y, m[k]? = some y := ⟨_, List.getElem?_eq_getElem (by rw [HML.out]; exact h4)⟩
        obtain ⟨b, off, rfl, hc⟩ := (H.out.keep HBW.out).at_ _ x hx
        have hix := HIX.out k y hy
        have hxl := H.out.lt x (List.mem_of_getElem? hx)
        have HX := hid hx
        have HYY := hid hy
        clear hx hy
        by_cases hxy : x = y
        · subst hxy
          have q0 : ((x : Int) != (x : Int)) = false := by simp
          go_wp2_with fail
          go_quiet (fail)
          have HB2 := hid (HBW.out.trans ((show Below wr.heap.size wr (wr.drewN nq) from ⟨rfl, rfl, rfl, Nat.le_refl _, fun _ _ => rfl⟩).mono HBW.out.size))
          go_wp2_with fail
          go_roundg (4 - (k + 1))
          case measure => rw [HG.out]; omega
          case rel => exact ⟨k + 1, by omega, rfl, by go_num, HB2.out, hid fun j hj => by
            by_cases e : j = k
            · subst e; rw [HX.out, HYY.out]
            · exact HA.out j (by omega)⟩
        · have q0 : ((x : Int) != (y : Int)) = true := by rw [bne_iff_ne]; omega
          have HF := hid (HNO.out k x h4 HX.out (by rw [HYY.out]; intro e; cases e; exact hxy rfl))
          clear hxy
          go_wp2_with fail
          go_quiet (fail)
          have HB2 := hid (HBW.out.trans ((show Below wr.heap.size wr (wr.drewN nq) from ⟨rfl, rfl, rfl, Nat.le_refl _, fun _ _ => rfl⟩).mono HBW.out.size))
          go_wp2_with fail
          go_ret
          exact ⟨by rw [decide_eq_false HF.out]; rfl, HB2.out⟩
      · have hge : ¬ (p : Int) + (k : Int) < (n : Int) := by omega
        have HF := hid (HY.out k HA.out (.inr (by omega)))
        go_wp2_with fail
        go_ret
        exact ⟨by rw [decide_eq_true HF.out]; rfl, HBW.out⟩
    · have h42 : ¬ (k : Int) < 4 := by omega
      have HF := hid (HY.out k HA.out (.inl (by omega)))
      go_wp2_with fail
      go_ret
      exact ⟨by rw [decide_eq_true HF.out]; rfl, HBW.out⟩
end Go.Proofs.Ytkdpalmdcnpnoaa.Wv
namespace Go.Proofs.Ytkdpalmdcnpnoaa.Wv
open Go.RowKit Gen Fld

theorem nx_late {s : TS} (n : Int) (f : Bool) (h : s.F ≠ 0) : nx s n f = ([], s) := by unfold nx; rw [if_pos h]
theorem nx_short {s : TS} {k : Nat} {f : Bool} (hF : s.F = 0) (hg : f = true → 1 ≤ k ∧ k ≤ 8) (hl : s.l.length < k) : nx s (k : Int) f = ([], ⟨10, [], s.pos⟩) := by
  have h2 : ¬ ((k : Int) < 0 ∨ (f = true ∧ ((k : Int) < 1 ∨ 8 < (k : Int)))) := by
    rintro (h | ⟨hf, h⟩)
    · omega
    · have := hg hf; omega
  have h3 : (s.l.length : Int) < (k : Int) := by omega
  unfold nx
  simp only [hF, ne_eq, not_true_eq_false, if_false, h2, h3, if_true]
/-- The four steps. -/
def q1 (r : List Nat) (p : Nat) : List Nat × TS := nx ⟨0, r, p⟩ (4 : Nat) false
def q2 (r : List Nat) (p : Nat) : List Nat × TS := nx (q1 r p).2 (4 : Nat) true
def q3 (r : List Nat) (p : Nat) : List Nat × TS := nx (q2 r p).2 (lev (q2 r p).1 : Nat) false
def q4 (r : List Nat) (p : Nat) : List Nat × TS := nx (q3 r p).2 (lev (q2 r p).1 % 2 : Nat) false
theorem q1_ok {r : List Nat} {p : Nat} (h : 4 ≤ r.length) : q1 r p = (r.take 4, ⟨0, r.drop 4, p + 4⟩) := nx_ok rfl (fun e => by cases e) h
theorem q2_ok {r : List Nat} {p : Nat} (h : 8 ≤ r.length) : q2 r p = ((r.drop 4).take 4, ⟨0, r.drop 8, p + 8⟩) := by
  unfold q2
  rw [q1_ok (by omega), nx_ok rfl (fun _ => by omega) (by rw [List.length_drop]; omega)]
  simp only [List.drop_drop]
theorem q2_bad {r : List Nat} {p : Nat} (h : r.length < 8) : (q2 r p).1 = [] ∧ (q2 r p).2.F = 10 := by
  unfold q2
  by_cases h4 : 4 ≤ r.length
  · rw [q1_ok h4, nx_short rfl (fun _ => by omega) (by show (r.drop 4).length < 4; rw [List.length_drop]; omega)]
    exact ⟨rfl, rfl⟩
  · have e : q1 r p = ([], ⟨10, [], p⟩) := nx_short rfl (fun e => by cases e) (by show r.length < 4; omega)
    rw [e, nx_late _ _ (show (10 : Nat) ≠ 0 by decide)]
    exact ⟨rfl, rfl⟩
theorem q4_bad {r : List Nat} {p : Nat} (h : r.length < nlen r) : (q4 r p).2.F = 10 := by
  unfold q4 q3
  by_cases h8 : 8 ≤ r.length
  · have e2 := q2_ok (p := p) h8
    have ev : lev (q2 r p).1 = nsz4 r := by rw [e2]; rfl
    rw [ev, e2]
    unfold nlen at h
    by_cases hv : r.length < 8 + nsz4 r
    · rw [nx_short (s := ⟨0, r.drop 8, p + 8⟩) (k := nsz4 r) (f := false) rfl (fun e => by cases e) (by show (r.drop 8).length < _; rw [List.length_drop]; omega), nx_late _ _ (by show (10 : Nat) ≠ 0; decide)]
    · rw [nx_ok (s := ⟨0, r.drop 8, p + 8⟩) (k := nsz4 r) (f := false) rfl (fun e => by cases e) (by show _ ≤ (r.drop 8).length; rw [List.length_drop]; omega)]
      rw [nx_short rfl (fun e => by cases e) (by show ((r.drop 8).drop _).length < _; rw [List.length_drop, List.length_drop]; omega)]
  · obtain ⟨e1, e2⟩ := q2_bad (r := r) (p := p) (by omega)
    rw [e1, nx_late (s := (q2 r p).2) _ _ (by rw [e2]; decide), nx_late (s := (q2 r p).2) _ _ (by rw [e2]; decide)]
    exact e2
theorem q4_ok {r : List Nat} {p : Nat} (h : nlen r ≤ r.length) : (q1 r p).1 = r.take 4 ∧ lev (q2 r p).1 = nsz4 r ∧ (q2 r p).2.pos = p + 8 ∧ q4 r p = ((r.drop (8 + nsz4 r)).take (nsz4 r % 2), ⟨0, r.drop (nlen r), p + nlen r⟩) := by
  unfold nlen at h
  have e2 := q2_ok (r := r) (p := p) (by omega)
  have ev : lev (q2 r p).1 = nsz4 r := by rw [e2]; rfl
  refine ⟨by rw [q1_ok (by omega)], ev, by rw [e2], ?_⟩
  unfold q4 q3
  rw [ev, e2, nx_ok (s := ⟨0, r.drop 8, p + 8⟩) (k := nsz4 r) (f := false) rfl (fun e => by cases e) (by show _ ≤ (r.drop 8).length; rw [List.length_drop]; omega)]
  rw [nx_ok rfl (fun e => by cases e) (by show _ ≤ ((r.drop 8).drop _).length; rw [List.length_drop, List.length_drop]; omega)]
  simp only [List.drop_drop]
  unfold nlen
  simp only [Nat.add_assoc]
theorem q2_lt {r : List Nat} {p : Nat} (hlt : ∀ b ∈ r, b < 256) : lev (q2 r p).1 < 4294967296 := by
  by_cases h8 : 8 ≤ r.length
  · rw [q2_ok h8]
    have := lev_lt ((r.drop 4).take 4) fun b hb => hlt b (List.mem_of_mem_drop (List.mem_of_mem_take hb))
    have hl : ((r.drop 4).take 4).length = 4 := by rw [List.length_take, List.length_drop]; omega
    rw [hl] at this
    exact this
  · rw [(q2_bad (by omega)).1]; decide
/-- The bytes behind an odd size. -/
theorem behind_any {r : List Nat} (h : nlen r ≤ r.length) : (nsz4 r % 2 = 0 ∧ (r.drop (8 + nsz4 r)).take (nsz4 r % 2) = []) ∨ (nsz4 r % 2 = 1 ∧ ∃ x, r[8 + nsz4 r]? = some x ∧ (r.drop (8 + nsz4 r)).take (nsz4 r % 2) = [x]) := by
  unfold nlen at h
  have h2 : nsz4 r % 2 = 0 ∨ nsz4 r % 2 = 1 := by omega
  rcases h2 with e | e
  · exact .inl ⟨e, by rw [e]; rfl⟩
  · refine .inr ⟨e, r[8 + nsz4 r]'(by omega), List.getElem?_eq_getElem _, ?_⟩
    rw [e, List.take_one, List.head?_drop, List.getElem?_eq_getElem (by omega)]
    rfl
end Go.Proofs.Ytkdpalmdcnpnoaa.Wv
namespace Go.Proofs.Ytkdpalmdcnpnoaa.Wv
open Go.RowKit Gen Fld

/-- A chunk's box. -/
structure Cb (w : World) (g : Nat) (v0 v1 v2 : Value) : Prop where
  c0 : w.cell? ⟨g, 0, none⟩ = some v0
  c1 : w.cell? ⟨g, 1, none⟩ = some v1
  c2 : w.cell? ⟨g, 2, none⟩ = some v2
  f0 : w.frozen? ⟨g, 0, none⟩ = false
  f1 : w.frozen? ⟨g, 1, none⟩ = false
  f2 : w.frozen? ⟨g, 2, none⟩ = false
theorem Cb.lt {w : World} {g : Nat} {v0 v1 v2 : Value} (h : Cb w g v0 v1 v2) : g < w.heap.size := World.block_lt_of_cell? w _ h.c0
theorem Cb.fr {w w' : World} {g : Nat} {v0 v1 v2 : Value} (h : Cb w g v0 v1 v2) {X : Nat → Prop} (hf : Fr X w w') (hg : ¬ X g) : Cb w' g v0 v1 v2 :=
  ⟨(hf.cell (p := ⟨g, 0, none⟩) h.lt hg).trans h.c0, (hf.cell (p := ⟨g, 1, none⟩) h.lt hg).trans h.c1, (hf.cell (p := ⟨g, 2, none⟩) h.lt hg).trans h.c2,
   (hf.frozen (p := ⟨g, 0, none⟩) h.lt hg).trans h.f0, (hf.frozen (p := ⟨g, 1, none⟩) h.lt hg).trans h.f1, (hf.frozen (p := ⟨g, 2, none⟩) h.lt hg).trans h.f2⟩
theorem fr_bel {w w' : World} {X : Nat → Prop} (hb : Below w.heap.size w w') : Fr X w w' := ⟨hb.os, hb.tape, hb.output, hb.size, fun k hk _ => hb.block k hk⟩
theorem Cb.below {w w' : World} {g : Nat} {v0 v1 v2 : Value} (h : Cb w g v0 v1 v2) (hb : Below w.heap.size w w') : Cb w' g v0 v1 v2 := h.fr (X := fun _ => False) (fr_bel hb) (fun x => x)
theorem Cb.new (w : World) (v0 v1 v2 : Value) (t : TypeId) : Cb (w.alloc (.cells #[v0, v1, v2] t)) w.heap.size v0 v1 v2 := by
  have e := heap_alloc_new w (.cells #[v0, v1, v2] t)
  refine ⟨?_, ?_, ?_, ?_, ?_, ?_⟩
  all_goals first | (unfold World.cell?; rw [e]; rfl) | (unfold World.frozen?; rw [e]; rfl)
theorem Cb.set {w : World} {g : Nat} {v0 v1 v2 : Value} (h : Cb w g v0 v1 v2) (u0 u1 u2 : Value) : Cb (((w.setCell ⟨g, 0, none⟩ u0).setCell ⟨g, 1, none⟩ u1).setCell ⟨g, 2, none⟩ u2) g u0 u1 u2 := by
  refine ⟨?_, ?_, ?_, ?_, ?_, ?_⟩
  · rw [World.cell?_setCell_other _ _ _ _ (by intro e; simp at e), World.cell?_setCell_other _ _ _ _ (by intro e; simp at e)]
    exact World.cell?_setCell_same _ _ _ h.c0
  · rw [World.cell?_setCell_other _ _ _ _ (by intro e; simp at e)]
    exact World.cell?_setCell_same _ _ _ (by rw [World.cell?_setCell_other _ _ _ _ (by intro e; simp at e)]; exact h.c1)
  · exact World.cell?_setCell_same _ _ _ (by rw [World.cell?_setCell_other _ _ _ _ (by intro e; simp at e), World.cell?_setCell_other _ _ _ _ (by intro e; simp at e)]; exact h.c2)
  · simp [h.f0]
  · simp [h.f1]
  · simp [h.f2]
theorem Cb.set1 {w : World} {g : Nat} {v0 v1 v2 : Value} (h : Cb w g v0 v1 v2) (u1 : Value) : Cb (w.setCell ⟨g, 1, none⟩ u1) g v0 u1 v2 := by
  refine ⟨?_, ?_, ?_, ?_, ?_, ?_⟩
  · rw [World.cell?_setCell_other _ _ _ _ (by intro e; simp at e)]; exact h.c0
  · exact World.cell?_setCell_same _ _ _ h.c1
  · rw [World.cell?_setCell_other _ _ _ _ (by intro e; simp at e)]; exact h.c2
  · simp [h.f0]
  · simp [h.f1]
  · simp [h.f2]
theorem fr_set3 (w : World) (g : Nat) (u0 u1 u2 : Value) : Fr (fun b => b = g) w (((w.setCell ⟨g, 0, none⟩ u0).setCell ⟨g, 1, none⟩ u1).setCell ⟨g, 2, none⟩ u2) :=
  ((((Fr.refl (fun b => b = g) w).setCell (p := ⟨g, 0, none⟩) rfl u0).setCell (p := ⟨g, 1, none⟩) rfl u1).setCell (p := ⟨g, 2, none⟩) rfl u2)
theorem TkS.other {w w' : World} {q g : Nat} {s : TS} (h : TkS w q s) (hf : Fr (fun b => b = g) w w') (hg : q < g) : TkS w' q s := by
  obtain ⟨a, cap, ht, h1, h2⟩ := h
  exact ⟨a, cap, ht.keep hf (by omega) (fun b off e => by
    obtain ⟨b', off', e1, e2, _⟩ := ht.spot _ e
    have := e2.1
    cases e1; omega), h1, h2⟩
theorem fr_tail {W0 w2 w3 : World} {X : Nat → Prop} {g : Nat} (h : Fr X W0 w2) (k : Fr (fun b => b = g) w2 w3) (hg : W0.heap.size ≤ g) : Fr X W0 w3 :=
  ⟨k.os.trans h.os, k.tape.trans h.tape, k.output.trans h.output, Nat.le_trans h.size k.size, fun i hi hx => (k.block i (Nat.lt_of_lt_of_le hi h.size) (by omega)).trans (h.block i hi hx)⟩
/-- A chunk's cells. -/
def cv (c : Chk) : Value := .agg #[.string (tos c.nm), .int .i64 (c.at_ : Int), .int .i64 (c.sz : Int)]
def NxP (w : World) (q : Nat) (r : List Nat) (p : Nat) (e : Ending) (w' : World) : Prop :=
  Fr (fun b => b = q) w w' ∧ ((ncode r = 0 ∧ e = .returned (.tuple #[cv (nchk r p), .int .i64 0]) ∧ TkS w' q ⟨0, r.drop (nlen r), p + nlen r⟩) ∨ (ncode r ≠ 0 ∧ e = .returned (.tuple #[cv ⟨[], 0, 0⟩, .int .i64 (ncode r : Int)])))
set_option maxRecDepth 20000 in
set_option maxHeartbeats 2000000 in
theorem next_any {w : World} {q : Nat} {r : List Nat} {p : Nat} (h : TkS w q ⟨0, r, p⟩) (hlt : ∀ b ∈ r, b < 256) : Calls Try.prog 72 #[.pointer (some ⟨q, 0, none⟩)] w (NxP w q r p) := by
  have hql := h.lt
  have HV := hid (q2_lt (p := p) hlt)
  have HRAW := hid fun w' (h : TkS w' q ⟨0, r, p⟩) => (show Calls Try.prog 70 #[.pointer (some ⟨q, 0, none⟩), .int .i64 4] w' (RawPost w' q ⟨0, r, p⟩ (4 : Nat)) from traw_any h (4 : Nat))
  have HU := hid fun w' (h : TkS w' q (q1 r p).2) => (show Calls Try.prog 40 #[.pointer (some ⟨q, 0, none⟩), .int .i64 4] w' (Took w' q (q2 r p).2 (.int .u64 (lev (q2 r p).1 : Int))) from tku_any h (4 : Nat))
  unfold RawPost at HRAW
  unfold Took at HU
  have HBX := hid (Cb.new w (.string ⟨#[]⟩) (.int .i64 0) (.int .i64 0) 42)
  have HT0 := hid (h.below (bel_new w (.cells #[.string ⟨#[]⟩, .int .i64 0, .int .i64 0] 42)))
  have hB0 := bel_new w (.cells #[.string ⟨#[]⟩, .int .i64 0, .int .i64 0] 42)
  have HB0 := hid hB0
  have hq0 : q < (w.alloc (.cells #[.string ⟨#[]⟩, .int .i64 0, .int .i64 0] 42)).heap.size := Nat.lt_of_lt_of_le hql hB0.size
  obtain ⟨v, hv⟩ : ∃ v, v = lev (q2 r p).1 := ⟨_, rfl⟩
  obtain ⟨m, hm⟩ : ∃ m, m = (q1 r p).1 := ⟨_, rfl⟩
  rw [← hv] at HV HU
  have hvl := HV.out
  have hvw : wrap64 (v : Int) = v := by unfold wrap64; omega
  have hvw2 : IntKind.i64.wrap (v : Int) = v := by rw [IntKind.wrap_i64]; omega
  have HVW := hid hvw2
  have HVE := hid hv
  have HME := hid hm
  have HRAW2 := hid fun w' (h : TkS w' q ⟨0, r, p⟩) => (show Calls Try.prog 70 #[.pointer (some ⟨q, 0, none⟩), .int .i64 4] w' (fun e w2 => ∃ ao cap, e = .returned (.slice ao m.length cap) ∧ (convert 29 9 (.slice ao m.length cap)).run Try.prog w2 = .ok (.string (tos m)) w2 ∧ Byts w2 ao m ∧ TkS w2 q (q1 r p).2 ∧ Fr (fun b => b = q) w' w2 ∧ ∀ b off, ao = some ⟨b, off, none⟩ → w'.heap.size ≤ b) from (HRAW.out w' h).mono fun e w2 ⟨ao, cap, h1, h2, h3, h4, h5⟩ => by rw [hm]; exact ⟨ao, cap, h1, h2.conv cap, h2, h3, h4, h5⟩)
  clear hv hm h HRAW
  generalize (q1 r p).2 = s1 at *
  generalize hs2 : (q2 r p).2 = s2 at *
  go_enter Try.func72, Try.ntmps72
  go_wp2_with fail
  generalize w.alloc (.cells #[.string ⟨#[]⟩, .int .i64 0, .int .i64 0] 42) = W0 at *
  go_cut [4] (fun pv wx => ∃ g, pv = .pointer (some ⟨g, 0, none⟩) ∧ W0.heap.size ≤ g ∧ Cb wx g (.string (tos m)) (.int .i64 0) (.int .i64 (v : Int)) ∧ TkS wx q s2 ∧ Fr (fun b => b = q) W0 wx)
  case first =>
    have t0 := HT0.out.below (show Below W0.heap.size W0 W0.drew from ⟨rfl, rfl, rfl, Nat.le_refl _, fun _ _ => rfl⟩)
    have hb0a : Below W0.heap.size W0 ((W0.alloc (.cells #[.string ⟨#[]⟩, .int .i64 0, .int .i64 0] 42)).drew) := (bel_new W0 _).drew
    have t0a := HT0.out.below hb0a
    have x0 : Cb (W0.alloc (.cells #[.string ⟨#[]⟩, .int .i64 0, .int .i64 0] 42)).drew W0.heap.size (.string ⟨#[]⟩) (.int .i64 0) (.int .i64 0) := (Cb.new W0 _ _ _ _).below ⟨rfl, rfl, rfl, Nat.le_refl _, fun _ _ => rfl⟩
    have hfd : Fr (fun b => b = q) W0 W0.drew := fr_bel ⟨rfl, rfl, rfl, Nat.le_refl _, fun _ _ => rfl⟩
    have hfa : Fr (fun b => b = q) W0 (W0.alloc (.cells #[.string ⟨#[]⟩, .int .i64 0, .int .i64 0] 42)).drew := fr_bel hb0a
    go_region_with (first
      | (go_at_call 70; (with_reducible refine (HRAW2.out _ t0).mono ?_); rintro e w1 ⟨ao, cap, rfl, cv1, by1, t1, fr1, hn1⟩; have t1a := t1.below (bel_new w1 (.cells #[.string ⟨#[]⟩, .int .i64 0, .int .i64 0] 42)); have cv1a := (by1.keep (bel_new w1 (.cells #[.string ⟨#[]⟩, .int .i64 0, .int .i64 0] 42))).conv cap; have f1 := hfd.trans fr1)
      | (go_at_call 70; (with_reducible refine (HRAW2.out _ t0a).mono ?_); rintro e w1 ⟨ao, cap, rfl, cv1, by1, t1b, fr1, hn1⟩; have x1 := x0.fr fr1 (by omega); have f1 := hfa.trans fr1)
      | (go_at_call 40; (with_reducible refine (HU.out _ t1).mono ?_); rintro e w2 ⟨rfl, t2, fr2⟩; have by2 := by1.stay fr2 (fun b off e e2 => by have := hn1 b off e; have := hfd.size; omega); have cv2 := by2.conv cap; have cv2a := (by2.keep (bel_new w2 (.cells #[.string ⟨#[]⟩, .int .i64 0, .int .i64 0] 42))).conv cap; have f2 := f1.trans fr2)
      | (go_at_call 40; (with_reducible refine (HU.out _ t1a).mono ?_); rintro e w2 ⟨rfl, t2, fr2⟩; have by2 := (by1.keep (bel_new w1 (.cells #[.string ⟨#[]⟩, .int .i64 0, .int .i64 0] 42))).stay fr2 (fun b off e e2 => by have := hn1 b off e; have := hfd.size; omega); have cv2 := by2.conv cap; have f2 := (f1.alloc (.cells #[.string ⟨#[]⟩, .int .i64 0, .int .i64 0] 42)).trans fr2; have x2 := (Cb.new w1 (.string ⟨#[]⟩) (.int .i64 0) (.int .i64 0) 42).fr fr2 (by have := f1.size; omega); have x2' := x2; obtain ⟨xa, xb, xc, xd, xe, xf⟩ := x2')
      | (go_at_call 40; (with_reducible refine (HU.out _ t1b).mono ?_); rintro e w2 ⟨rfl, t2, fr2⟩; have by2 := by1.stay fr2 (fun b off e e2 => by have := hn1 b off e; have := hfa.size; omega); have cv2 := by2.conv cap; have f2 := f1.trans fr2; have x2 := x1.fr fr2 (by omega); have x2' := x2; obtain ⟨xa, xb, xc, xd, xe, xf⟩ := x2'))
    all_goals
      go_wp2_with fail
      go_meet
      try rw [HVW.out]
      first
        | exact ⟨w2.heap.size, rfl, f2.size, Cb.new _ _ _ _ _, TkS.below t2 (bel_new _ _), f2.alloc _⟩
        | exact ⟨w1.heap.size, rfl, f1.size, x2.set _ _ _, TkS.other t2 (fr_set3 _ _ _ _ _) (by have := f1.size; omega), fr_tail f2 (fr_set3 _ _ _ _ _) f1.size⟩
        | exact ⟨W0.heap.size, rfl, Nat.le_refl _, x2.set _ _ _, TkS.other t2 (fr_set3 _ _ _ _ _) (by omega), fr_tail f2 (fr_set3 _ _ _ _ _) (Nat.le_refl _)⟩
  case rest =>
    rename World => wx
    obtain ⟨g, rfl, hg, hcb, ht, hf⟩ := hcut
    have HF := hid hf
    have HCB := hid hcb
    obtain ⟨c0, c1, c2, f0, f1, f2⟩ := hcb
    have hat := tat_any ht
    have HT := hid ht
    clear ht hf HRAW2 HU
    go_wp2_with fail
    refine hat.mono ?_
    rintro e w3 ⟨rfl, rfl⟩
    go_wp2_with fail
    have HCB3 := hid (HCB.out.set1 (.int .i64 (s2.pos : Int)))
    have hfs := (Fr.refl (fun b => b = g) wx).setCell (p := ⟨g, 1, none⟩) rfl (.int .i64 (s2.pos : Int))
    have HT3 := hid (TkS.other HT.out hfs (by omega))
    have HF3 := hid (fr_tail HF.out hfs hg)
    clear c0 c1 c2 f0 f1 f2 hat hfs HCB HT HF
    generalize wx.setCell ⟨g, 1, none⟩ (.int .i64 (s2.pos : Int)) = W3 at *
    obtain ⟨c0, c1, c2, f0, f1, f2⟩ := HCB3.out
    go_wp2_with fail
    refine (traw_any HT3.out (v : Int)).mono ?_
    intro e w4 hx4
    obtain ⟨ao4, cp4, rfl, -, ht4, hf4, -⟩ := hx4
    have HCB4 := hid (HCB3.out.fr hf4 (by omega))
    have HT4 := hid ht4
    have HF4 := hid (HF3.out.trans hf4)
    clear ht4 hf4 c0 c1 c2 f0 f1 f2 HCB3 HT3 HF3
    obtain ⟨c0, c1, c2, f0, f1, f2⟩ := HCB4.out
    obtain ⟨s3, hs3⟩ : ∃ s3, s3 = (nx s2 (v : Int) false).2 := ⟨_, rfl⟩
    rw [← hs3] at HT4
    go_wp2_with fail
    refine (pad_any v _).mono ?_
    rintro e w5 ⟨rfl, rfl⟩
    go_wp2_with fail
    refine (traw_any HT4.out ((v % 2 : Nat) : Int)).mono ?_
    intro e w5 hx5
    obtain ⟨ao5, cp5, rfl, by5, ht5, hf5, -⟩ := hx5
    have HCB5 := hid (HCB4.out.fr hf5 (by omega))
    have HT5 := hid ht5
    have HF5 := hid (HF4.out.trans hf5)
    have HY5 := hid by5
    clear by5 ht5 hf5 c0 c1 c2 f0 f1 f2 HCB4 HT4 HF4
    have H4 := hid (show q4 r p = nx s3 ((v % 2 : Nat) : Int) false by rw [hs3, HVE.out, ← hs2]; rfl)
    obtain ⟨x4, hx4⟩ : ∃ x4, x4 = nx s3 ((v % 2 : Nat) : Int) false := ⟨_, rfl⟩
    rw [← hx4] at HT5 HY5 H4
    rw [← hx4]
    clear hx4 hs3
    have HR5 := hid (HBX.out.fr HF5.out (by omega))
    have HFW := hid ((fr_bel (X := fun b => b = q) HB0.out).trans HF5.out)
    have hqw : w.heap.size ≤ w.heap.size := Nat.le_refl _
    by_cases hlen : nlen r ≤ r.length
    · obtain ⟨g1, g2, g3, g4⟩ := q4_ok (p := p) hlen
      have hz := behind_any hlen
      rw [← HME.out] at g1
      rw [← HVE.out] at g2
      rw [hs2] at g3
      rw [H4.out] at g4
      subst g4
      have hF0 : (0 : Nat) = 0 := rfl
      have her : Calls Try.prog 88 #[.pointer (some ⟨q, 0, none⟩)] w5 fun e w' => e = .returned (.int .i64 0) ∧ w5 = w' := terr_any HT5.out
      have HER := hid her
      clear her
      rw [← g2] at hz
      have HNC := hid (show ncode r = if v % 2 = 1 ∧ r[8 + v]? ≠ some 0 then 11 else 0 by unfold ncode; rw [if_neg (by omega), ← g2])
      have HCV := hid (show cv (nchk r p) = .agg #[.string (tos m), .int .i64 (s2.pos : Int), .int .i64 (v : Int)] by unfold cv nchk; rw [g1, g2, g3])
      have HTF := hid HT5.out
      clear hlen H4 HT5 hF0
      rw [← g2] at HY5 ⊢
      obtain ⟨c0, c1, c2, f0, f1, f2⟩ := HCB5.out
      obtain ⟨d0, d1, d2, e0, e1, e2⟩ := HR5.out
      generalize (r.drop (8 + v)).take (v % 2) = B at *
      clear g1 g2 g3
      rcases hz with ⟨z1, rfl⟩ | ⟨z1, x, z2, rfl⟩
      · have HN0 := hid (show ncode r = 0 by rw [HNC.out, if_neg (by omega)])
        obtain ⟨y0, y1, y2, _, _, _⟩ := HR5.out.set (.string (tos m)) (.int .i64 (s2.pos : Int)) (.int .i64 (v : Int))
        go_wp2_with fail
        refine HER.out.mono ?_
        rintro e w6 ⟨rfl, rfl⟩
        go_wp2_with fail
        obtain ⟨V, hV⟩ : ∃ V : Value, V = .tuple #[.agg #[.string (tos m), .int .i64 (s2.pos : Int), .int .i64 (v : Int)], .int .i64 0] := ⟨_, rfl⟩
        refine bodyPost_ret (v := V) ?_ rfl ?_
        · rw [hV, results_cell_tmp (p := 2) (u := 3) (ty := 42) (by kernel_rfl)]
          go_simp
        · exact ⟨fr_tail HFW.out (fr_set3 _ _ _ _ _) (Nat.le_refl _), .inl ⟨HN0.out, by rw [hV, HCV.out], TkS.other HTF.out (fr_set3 _ _ _ _ _) hql⟩⟩
      · obtain ⟨b, off, rfl, hcx⟩ := HY5.out.at_ 0 x rfl
        rw [Nat.add_zero] at hcx
        by_cases hx : x = 0
        · subst hx
          have HN0 := hid (show ncode r = 0 by rw [HNC.out, if_neg (by rw [z2]; simp)])
          obtain ⟨y0, y1, y2, _, _, _⟩ := HR5.out.set (.string (tos m)) (.int .i64 (s2.pos : Int)) (.int .i64 (v : Int))
          clear z2
          go_wp2_with fail
          refine HER.out.mono ?_
          rintro e w6 ⟨rfl, rfl⟩
          go_wp2_with fail
          obtain ⟨V, hV⟩ : ∃ V : Value, V = .tuple #[.agg #[.string (tos m), .int .i64 (s2.pos : Int), .int .i64 (v : Int)], .int .i64 0] := ⟨_, rfl⟩
          refine bodyPost_ret (v := V) ?_ rfl ?_
          · rw [hV, results_cell_tmp (p := 2) (u := 3) (ty := 42) (by kernel_rfl)]
            go_simp
          · exact ⟨fr_tail HFW.out (fr_set3 _ _ _ _ _) (Nat.le_refl _), .inl ⟨HN0.out, by rw [hV, HCV.out], TkS.other HTF.out (fr_set3 _ _ _ _ _) hql⟩⟩
        · have HN0 := hid (show ncode r = 11 by rw [HNC.out, if_pos ⟨z1, by rw [z2]; intro e; cases e; exact hx rfl⟩])
          have qx : ((x : Int) != 0) = true := by rw [bne_iff_ne]; omega
          obtain ⟨y0, y1, y2, _, _, _⟩ := HR5.out.set (.string ⟨#[]⟩) (.int .i64 0) (.int .i64 0)
          clear z2 hx
          go_wp2_with fail
          refine HER.out.mono ?_
          rintro e w6 ⟨rfl, rfl⟩
          go_wp2_with fail
          refine bodyPost_ret (v := .tuple #[.agg #[.string ⟨#[]⟩, .int .i64 0, .int .i64 0], .int .i64 11]) ?_ rfl ?_
          · rw [results_cell_tmp (p := 2) (u := 3) (ty := 42) (by kernel_rfl)]
            go_simp
          · exact ⟨fr_tail HFW.out (fr_set3 _ _ _ _ _) (Nat.le_refl _), .inr ⟨by rw [HN0.out]; decide, by rw [HN0.out]; rfl⟩⟩
    · have HF10 := hid (show x4.2.F = 10 by rw [← H4.out]; exact q4_bad (by omega))
      have HNC := hid (show ncode r = 10 by unfold ncode; rw [if_pos (by omega)])
      have her := terr_any HT5.out
      rw [HF10.out] at her
      have HER := hid (show Calls Try.prog 88 #[.pointer (some ⟨q, 0, none⟩)] w5 fun e w' => e = .returned (.int .i64 10) ∧ w5 = w' from her)
      obtain ⟨d0, d1, d2, e0, e1, e2⟩ := HR5.out
      obtain ⟨y0, y1, y2, _, _, _⟩ := HR5.out.set (.string ⟨#[]⟩) (.int .i64 0) (.int .i64 0)
      clear her hlen H4
      go_wp2_with fail
      refine HER.out.mono ?_
      rintro e w6 ⟨rfl, rfl⟩
      go_wp2_with fail
      refine HER.out.mono ?_
      rintro e w6 ⟨rfl, rfl⟩
      go_wp2_with fail
      refine bodyPost_ret (v := .tuple #[.agg #[.string ⟨#[]⟩, .int .i64 0, .int .i64 0], .int .i64 10]) ?_ rfl ?_
      · rw [results_cell_tmp (p := 2) (u := 3) (ty := 42) (by kernel_rfl)]
        go_simp
      · exact ⟨fr_tail HFW.out (fr_set3 _ _ _ _ _) (Nat.le_refl _), .inr ⟨by rw [HNC.out]; decide, by rw [HNC.out]; rfl⟩⟩
end Go.Proofs.Ytkdpalmdcnpnoaa.Wv
namespace Go.Proofs.Ytkdpalmdcnpnoaa.Wv
open Go.RowKit Go.Shelf Gen Fld
attribute [local go_sem] Oper.semAt_some

/-- All that was there stands, but for takers that were made behind N. -/
structure Tk (N : Nat) (A B : World) : Prop where
  os : B.os = A.os
  tape : B.tape = A.tape
  output : B.output = A.output
  size : A.heap.size ≤ B.heap.size
  block : ∀ k, k < A.heap.size → (¬ (N ≤ k ∧ ∃ s, TkS A k s)) → B.heap[k]? = A.heap[k]?
theorem Tk.of_below {N : Nat} {A B : World} (h : Below A.heap.size A B) : Tk N A B := ⟨h.os, h.tape, h.output, h.size, fun k hk _ => h.block k hk⟩
theorem Tk.of_fr {N : Nat} {A B : World} {q : Nat} {s : TS} (hq : N ≤ q) (ht : TkS A q s) (h : Fr (fun b => b = q) A B) : Tk N A B :=
  ⟨h.os, h.tape, h.output, h.size, fun k hk hn => h.block k hk fun e => hn ⟨by rw [e]; exact hq, s, by rw [e]; exact ht⟩⟩
theorem TkS.cells {w : World} {q : Nat} {s : TS} (h : TkS w q s) : ∃ o, w.heap[q]? = some o ∧ o.isCells = true := by
  obtain ⟨a, cap, ht, _⟩ := h
  have hc := ht.c0
  unfold World.cell? at hc
  cases ho : w.heap[q]? with
  | none => simp [ho] at hc
  | some o => exact ⟨o, rfl, by cases o <;> simp_all [Obj.isCells]⟩
theorem Tk.other {N : Nat} {A B : World} (h : Tk N A B) {k : Nat} {o : Obj} (hk : A.heap[k]? = some o) (ho : o.isCells = false) : B.heap[k]? = some o := by
  rw [h.block k (Array.getElem?_eq_some_iff.1 hk).1, hk]
  rintro ⟨_, s, hs⟩
  obtain ⟨o', h1, h2⟩ := TkS.cells hs
  rw [hk] at h1; cases h1
  rw [ho] at h2; cases h2
/-- What is kept of all takers. -/
def Kt (A B : World) : Prop := ∀ q s, TkS A q s → TkS B q s
theorem Kt.trans {A B C : World} (h : Kt A B) (k : Kt B C) : Kt A C := fun q s ht => k q s (h q s ht)
theorem Kt.refl (A : World) : Kt A A := fun _ _ h => h
theorem Kt.of_below {A B : World} (h : Below A.heap.size A B) : Kt A B := fun _ _ ht => ht.below h
/-- What changes no row of bytes, and no taker's own cells, keeps all takers. -/
theorem Kt.of_fr {A B : World} {X : Nat → Prop} (h : Fr X A B) (h5 : ∀ k c z, X k → A.heap[k]? ≠ some (.cells c 5 z)) (hq : ∀ q s, TkS A q s → ¬ X q) : Kt A B := fun q s ht => by
  have hX := hq q s ht
  obtain ⟨a, cap, hk, h1, h2⟩ := ht
  refine ⟨a, cap, hk.keep h hX (fun b off e hx => ?_), h1, h2⟩
  obtain ⟨b', off', e1, e2, _⟩ := hk.spot _ e
  cases e1
  obtain ⟨_, c, z, h3⟩ := e2
  exact h5 b c z hx h3
theorem Kt.put (W : World) (l : Nat) (o o' : Obj) (hl : W.heap[l]? = some o) (ho : o.isCells = false) : Kt W (W.putObj l o') := by
  refine Kt.of_fr (X := fun k => k = l) ⟨rfl, rfl, rfl, by simp, fun k _ hk => World.putObj_heap_other hk⟩ (fun k c z e h => ?_) (fun q s ht e => ?_)
  · subst e; rw [hl] at h; cases h; cases ho
  · subst e
    obtain ⟨o2, h1, h2⟩ := TkS.cells ht
    rw [hl] at h1; cases h1
    rw [ho] at h2; cases h2

/-- **THE CONTRACT OF AN ITERATOR WITH A TAKER OF ITS OWN.** -/
def SeqTakes {α : Type} (n : Nat) (g : Nat) (lb : Array Value) (encs : α → Array Value) (all : List α) (w : World) : Prop :=
  ∀ (l : Nat) (J Jx : List α → World → Prop) (W : World), Below w.heap.size w W → (∀ s A B, J s A → Tk w.heap.size A B → J s B) →
    (∀ pre x W1, J pre W1 → pre ++ [x] <+: all → YieldAt Fence.wide (n - 1) Try.prog l (encs x) W1 fun e W' =>
      (e = .returned (.bool true) ∧ J (pre ++ [x]) W' ∧ Kt W1 W') ∨ (e = .returned (.bool false) ∧ Jx (pre ++ [x]) W')) →
    J [] W →
    CallsIn Fence.wide n Try.prog g (#[.func (.yield l) #[] #[]] ++ lb) W fun e W' => (∃ v, e = .returned v) ∧ (J all W' ∨ (∃ pre, pre <+: all ∧ Jx pre W'))

/-- **A RANGE OVER SUCH AN ITERATOR.** -/
theorem range_takes {α : Type} {g : Operand} {ps : Array Tmp} {assign body : Code} {Q : Exit → Act → World → Prop} {a : Act} {w : World} {n : Nat} (h1 : 1 ≤ n) {gf : Nat} {lb : Array Value} (hg : a.eval g = .func (.func gf) #[] lb)
    (eg : ∀ args w, (callFunc gf args).run Try.prog w = .ok (.enter gf args) w) {encs : α → Array Value} {all : List α} (hseq : SeqTakes (n - 1) gf lb encs all w)
    (hps : ∀ x, (encs x).size = ps.size) (I : List α → World → Prop) (Ix : Code → List α → World → Prop) (hI : OwnFrom w.heap.size I) (hIx : ∀ c, OwnFrom w.heap.size (Ix c)) (hIT : ∀ s A B, I s A → Tk w.heap.size A B → I s B) (h0 : I [] w)
    (Ax : α → Act → World → Prop) (hAx : ∀ x a', OwnFrom w.heap.size (fun (_ : Unit) W => Ax x a' W))
    (hassign : ∀ (l : Nat) (pre : List α) (x : α) (W : World) (K : Act → World → Prop), I pre W → (∀ a' W', KeepsFrom w.heap.size W W' → Kt W W' → I pre W' → Ax x a' W' → K a' W') →
      assign.wpIn (Fence.wide.inRound l) (n - 1 - 1) Try.prog (Exit.then K (fun _ _ _ => False)) { tmps := (ps.zip (encs x)).foldl (fun t (p, v) => t.setIfInBounds p v) a.tmps, defers := [] } W)
    (hbody : ∀ (l : Nat) (pre : List α) (x : α) (a' : Act) (W : World), I pre W → Ax x a' W → pre ++ [x] <+: all → body.wpIn (Fence.wide.inRound l) (n - 1 - 1) Try.prog (ownPostG w.heap.size Kt I Ix (pre ++ [x]) W) a' W)
    (hdone : ∀ (D : Nat) (W : World), w.heap.size ≤ D → I all W → W.heap[D]? = some (.deferred (some [])) → Q .normal { a with defers := { target := .collected D, args := #[] } :: a.defers } W)
    (hstop : ∀ (D : Nat) (c : Code) (pre : List α) (W : World), w.heap.size ≤ D → pre <+: all → Ix c pre W → W.heap[D]? = some (.deferred (some [])) → c.wpIn Fence.wide n Try.prog Q { a with defers := { target := .collected D, args := #[] } :: a.defers } W) :
    (Code.rangeFunc g ps assign body).wpIn Fence.wide n Try.prog Q a w := by
  refine wpIn_rangeFunc ?_
  intro fn hfn
  rw [show Fence.wide.round = none from rfl]
  obtain ⟨rec, hrec⟩ : ∃ rec : LoopState → Option Code → Loop, rec = fun st pe => { state := st, pending := pe, fn, tmps := a.tmps, params := ps, assign, body, defers := w.heap.size } := ⟨_, rfl⟩
  obtain ⟨W1, hW1⟩ : ∃ W1, (w.alloc (.deferred (some []))).alloc (.loop (rec .ready none)) = W1 := ⟨_, rfl⟩
  have hL1 : W1.heap[w.heap.size + 1]? = some (.loop (rec .ready none)) := by
    rw [← hW1]; have := World.alloc_heap_new (w.alloc (.deferred (some []))) (.loop (rec .ready none)); rwa [World.size_alloc] at this
  have hK1 : W1.heap[w.heap.size]? = some (.deferred (some [])) := by
    rw [← hW1]; exact (Below.heap_alloc _ _ _ (by simp)).trans (World.alloc_heap_new w _)
  have hI1 : I [] W1 := by rw [← hW1]; exact hI.alloc _ (hI.alloc _ h0)
  have hb1 : Below w.heap.size w W1 := by
    rw [← hW1]; exact (((Below.refl _ w).alloc (Nat.le_refl _) _).alloc (by simp) _)
  refine ⟨w.heap.size + 1, [{ target := .collected w.heap.size, args := #[] }], W1, { target := .fn (.func gf) lb, args := #[.func (.yield (w.heap.size + 1)) #[] #[]] }, W1, gf,
    #[.func (.yield (w.heap.size + 1)) #[] #[]] ++ lb, W1, ?_, ?_, ?_, ?_, fun _ => h1, ?_⟩
  · rw [← hW1, hrec]; exact run_enterLoop_outer _ _ _ _ _
  · simp only [resolve, hg]
    simp [go_sem]
  · intro f' hf'; simp [Target.leads] at hf'; subst hf'; trivial
  · simp [invoke, go_sem, eg]
  · refine (hseq (w.heap.size + 1)
      (fun pre W => I pre W ∧ W.heap[w.heap.size + 1]? = some (.loop (rec .ready none)) ∧ W.heap[w.heap.size]? = some (.deferred (some [])))
      (fun pre W => ∃ c, Ix c pre W ∧ W.heap[w.heap.size + 1]? = some (.loop (rec .done (some c))) ∧ W.heap[w.heap.size]? = some (.deferred (some [])))
      W1 hb1
      (fun s A B hs ht => ⟨hIT s A B hs.1 ht, ht.other hs.2.1 rfl, ht.other hs.2.2 rfl⟩)
      ?_ ⟨hI1, hL1, hK1⟩).mono ?_
    · rintro pre x W ⟨hi, hl, hk⟩ hnx
      have hlt : w.heap.size + 1 < W.heap.size := (Array.getElem?_eq_some_iff.1 hl).1
      have hy := run_yield (P := Try.prog) (args := encs x) hl (by rw [hrec]; exact hps x)
      rw [hrec] at hy
      refine ⟨fn, _, assign, body, hy, roundIn_of_wpIn hfn (hassign _ pre x W _ hi ?_)⟩
      clear hy
      intro a' Wa hkfa hkpa hia hax
      replace hl := hkfa.same _ _ (by omega) hl rfl
      replace hk := hkfa.same _ _ (Nat.le_refl _) hk rfl
      replace hlt : w.heap.size + 1 < Wa.heap.size := (Array.getElem?_eq_some_iff.1 hl).1
      replace hi := hia
      clear hia
      revert hkpa hkfa
      generalize W = Wb
      intro hkfa hkpa
      obtain ⟨W, rfl⟩ : ∃ W, W = Wa := ⟨_, rfl⟩
      refine ⟨_, run_beginRound hl (by rw [hrec]), ?_⟩
      have hl2 : (W.putObj (w.heap.size + 1) (.loop { rec .ready none with state := .busy })).heap[w.heap.size + 1]? = some (.loop { rec .ready none with state := .busy }) := World.putObj_heap_same hlt
      have hk2 : (W.putObj (w.heap.size + 1) (.loop { rec .ready none with state := .busy })).heap[w.heap.size]? = some (.deferred (some [])) := (World.putObj_heap_other (by omega)).trans hk
      have hw2 : Kt W (W.putObj (w.heap.size + 1) (.loop { rec .ready none with state := .busy })) := Kt.put _ _ _ _ hl rfl
      refine wpIn_mono (hbody _ pre x a' _ (hI.putObj _ hi (by omega) hl rfl) ((hAx x a').putObj (s := ()) _ hax (by omega) hl rfl) hnx) ?_
      have fin : ∀ (jump : Option Code) (W3 : World), KeepsFrom w.heap.size (W.putObj (w.heap.size + 1) (.loop { rec .ready none with state := .busy })) W3 →
          (Instr.endRound (w.heap.size + 1) jump).run Try.prog W3 = .ok (.bool jump.isNone) (W3.putObj (w.heap.size + 1) (.loop (rec (if jump.isNone then .ready else .done) jump))) ∧
          W3.heap[w.heap.size + 1]? = some (.loop { rec .ready none with state := .busy }) ∧
          (W3.putObj (w.heap.size + 1) (.loop (rec (if jump.isNone then .ready else .done) jump))).heap[w.heap.size + 1]? = some (.loop (rec (if jump.isNone then .ready else .done) jump)) ∧
          (W3.putObj (w.heap.size + 1) (.loop (rec (if jump.isNone then .ready else .done) jump))).heap[w.heap.size]? = some (.deferred (some [])) := fun jump W3 hk3 => by
        have hl3 := hk3.same _ _ (by omega) hl2 rfl
        have := run_endRound (P := Try.prog) jump hl3
        rw [hrec] at this ⊢
        exact ⟨this, by rw [hrec] at hl3; exact hl3, World.putObj_heap_same (Array.getElem?_eq_some_iff.1 hl3).1, (World.putObj_heap_other (by omega)).trans (hk3.same _ _ (Nat.le_refl _) hk2 rfl)⟩
      rintro e a3 W3 hp
      cases e with
      | normal =>
        obtain ⟨hk3, hkp3, hi3⟩ := hp
        obtain ⟨hr, hl3, hl4, hk4⟩ := fin none W3 hk3
        exact ⟨_, _, hr, .inl ⟨rfl, ⟨hI.putObj _ hi3 (by omega) hl3 rfl, hl4, hk4⟩, hkpa.trans ((hw2.trans hkp3).trans (Kt.put _ _ _ _ hl3 rfl))⟩⟩
      | ret =>
        obtain ⟨hk3, hi3⟩ := hp
        obtain ⟨hr, hl3, hl4, hk4⟩ := fin (some .ret) W3 hk3
        exact ⟨_, _, hr, .inr ⟨rfl, .ret, (hIx _).putObj _ hi3 (by omega) hl3 rfl, hl4, hk4⟩⟩
      | exit id =>
        obtain ⟨hk3, hi3⟩ := hp
        obtain ⟨hr, hl3, hl4, hk4⟩ := fin (some (.exit id)) W3 hk3
        exact ⟨_, _, hr, .inr ⟨rfl, .exit id, (hIx _).putObj _ hi3 (by omega) hl3 rfl, hl4, hk4⟩⟩
      | goto t =>
        obtain ⟨hk3, hi3⟩ := hp
        obtain ⟨hr, hl3, hl4, hk4⟩ := fin (some (.goto t)) W3 hk3
        exact ⟨_, _, hr, .inr ⟨rfl, .goto t, (hIx _).putObj _ hi3 (by omega) hl3 rfl, hl4, hk4⟩⟩
      | panic ch => exact hp.elim
      | outgrown => exact hp.elim
    · rintro e W2 ⟨⟨v, rfl⟩, (⟨hi, hl, hk⟩ | ⟨pre, hSp, c, hi, hl, hk⟩)⟩
      · exact ⟨none, _, by have := run_endLoop (P := Try.prog) hl (by rw [hrec]; simp); rw [hrec] at this; exact this, hdone _ _ (Nat.le_refl _) (hI.putObj _ hi (by omega) hl rfl) ((World.putObj_heap_other (by omega)).trans hk)⟩
      · exact ⟨some c, _, by have := run_endLoop (P := Try.prog) hl (by rw [hrec]; simp); rw [hrec] at this; exact this, hstop _ c pre _ (Nat.le_refl _) hSp ((hIx c).putObj _ hi (by omega) hl rfl) ((World.putObj_heap_other (by omega)).trans hk)⟩
end Go.Proofs.Ytkdpalmdcnpnoaa.Wv
namespace Go.Proofs.Ytkdpalmdcnpnoaa.Wv
open Go.RowKit Go.Shelf Gen Fld
attribute [local go_sem] Oper.semAt_some

/-- What is handed on. -/
def encC (x : Chk × Nat) : Array Value := #[cv x.1, .int .i64 (x.2 : Int)]
theorem each_any (a : Option Addr) (n c : Nat) (w : World) : Calls Try.prog 41 #[.slice a n c] w fun e w' => e = .returned (.func (.func 69) #[] #[.pointer (some ⟨w.heap.size, 0, none⟩)]) ∧ w' = w.alloc (.cells #[.slice a n c] 29) := by
  go_enter Try.func41, Try.ntmps41
  go_wp2_with fail
  go_ret
  exact ⟨rfl, rfl⟩
def EaPost (J Jx : List (Chk × Nat) → World → Prop) (all : List (Chk × Nat)) (e : Ending) (W' : World) : Prop := (∃ v, e = .returned v) ∧ (J all W' ∨ (∃ pre, pre <+: all ∧ Jx pre W'))
set_option maxRecDepth 100000 in
set_option maxHeartbeats 2000000 in
theorem each_in (l bx : Nat) {a : Option Addr} {len cap : Nat} {b : List Nat} (hlen : b.length = len) (h12 : 12 ≤ len) (hl5 : len ≤ 549755813888) (hn : a = none → b.length = 0 ∧ cap = 0) (J Jx : List (Chk × Nat) → World → Prop) (n : Nat)
    {N : Nat} (hJ : ∀ s A B, J s A → Tk N A B → J s B)
    (hY : ∀ pre x W1, J pre W1 → pre ++ [x] <+: cks len (b.drop 12) 12 → YieldAt Fence.wide (n - 1) Try.prog l (encC x) W1 fun e W' =>
      (e = .returned (.bool true) ∧ J (pre ++ [x]) W' ∧ Kt W1 W') ∨ (e = .returned (.bool false) ∧ Jx (pre ++ [x]) W'))
    (W : World) (hNW : N ≤ W.heap.size) (hb : Byts W a b) (h1 : W.cell? ⟨bx, 0, none⟩ = some (.slice a len cap)) (h0 : J [] W) :
    CallsIn Fence.wide n Try.prog 69 #[.func (.yield l) #[] #[], .pointer (some ⟨bx, 0, none⟩)] W (EaPost J Jx (cks len (b.drop 12) 12)) := by
  refine callsIn_of_wp Try.func69 rfl trivial ?_ rfl
  simp only [Try.ntmps69, List.size_toArray, List.length_cons, List.length_nil, Nat.reduceAdd, Nat.reduceSub, Array.replicate_succ, Array.replicate_zero, List.push_toArray, List.append_toArray, List.nil_append, List.cons_append]
  have htk := take_any hb hn (by omega)
  rw [hlen] at htk
  have HTK := hid htk
  have HLT := hid hb.lt
  have HLEN := hid hlen
  have H0 := hid h0
  clear hb hn htk hlen h0
  gi_wp2_with fail
  refine ⟨trivial, fun h => (by cases h), ?_⟩
  refine (callsIn_wide.2 HTK.out).mono ?_
  rintro e w1 ⟨q, rfl, hq, ht1, hb1⟩
  have HT1 := hid ht1
  have HJ1 := hid (hJ _ _ _ H0.out (Tk.of_below hb1))
  clear ht1 hb1 h1 H0 HTK
  gi_wp2_with fail
  refine ⟨trivial, fun h => (by cases h), ?_⟩
  have hraw := traw_any HT1.out ((12 : Nat) : Int)
  refine (callsIn_wide.2 hraw).mono ?_
  intro e w2 hx2
  obtain ⟨ao2, cp2, rfl, -, ht2, hf2, -⟩ := hx2
  have HJ2 := hid (hJ _ _ _ HJ1.out (Tk.of_fr (by omega) HT1.out hf2))
  rw [nx_ok (s := ⟨0, b, 0⟩) (k := 12) rfl (fun e => by cases e) (by show 12 ≤ b.length; rw [HLEN.out]; exact h12)] at ht2
  have HT2 := hid ht2
  clear ht2 hf2 HT1 HJ1 hraw
  gi_wp2_with fail
  gi_loopg [] (len - 12) (fun gg wr => ∃ (pre : List (Chk × Nat)) (r : List Nat) (p f : Nat), gg = r.length ∧ Hid (J pre wr) ∧ Hid (TkS wr q ⟨0, r, p⟩) ∧ Hid (cks len (b.drop 12) 12 = pre ++ cks f r p) ∧ r.length ≤ f ∧ Hid (∀ x ∈ r, x < 256))
  case atStart => exact ⟨[], b.drop 12, 12, len, by rw [List.length_drop]; have := HLEN.out; omega, HJ2, HT2, hid rfl, by rw [List.length_drop]; have := HLEN.out; omega, hid fun x hx => HLT.out x (List.mem_of_mem_drop hx)⟩
  case round =>
    obtain ⟨pre, r, p, f, hg, HJ, HT, HA, hf, HR⟩ := hrel
    have HG := hid hg
    have HF := hid hf
    clear hg hf HJ2 HT2
    have hleft := tleft_any HT.out
    by_cases hr : r = []
    · subst hr
      have HE := hid HA.out
      rw [cks_nil, List.append_nil] at HE
      have hfin : EaPost J Jx (cks len (b.drop 12) 12) (.returned (.tuple #[])) wr := ⟨⟨_, rfl⟩, .inl (by rw [HE.out]; exact HJ.out)⟩
      have HFIN := hid hfin
      clear hfin
      gi_wp2_with fail
      refine ⟨trivial, fun h => (by cases h), ?_⟩
      refine (callsIn_wide.2 hleft).mono ?_
      rintro e w3 ⟨rfl, rfl⟩
      gi_wp2_with fail
      go_end0
      exact HFIN.out
    · have hpos : (0 : Int) < (r.length : Int) := by have := List.length_pos_iff.2 hr; omega
      have HNX := hid (next_any HT.out HR.out)
      have HNE := hid hr
      clear hr
      gi_wp2_with fail
      refine ⟨trivial, fun h => (by cases h), ?_⟩
      refine (callsIn_wide.2 hleft).mono ?_
      rintro e w3 ⟨rfl, rfl⟩
      gi_wp2_with fail
      refine ⟨trivial, fun h => (by cases h), ?_⟩
      refine (callsIn_wide.2 HNX.out).mono ?_
      rintro e w3 ⟨hf3, (⟨hc, rfl, ht3⟩ | ⟨hc, rfl⟩)⟩
      · obtain ⟨v0, hv0⟩ : ∃ v0 : ByteArray, v0 = tos (nchk r p).nm := ⟨_, rfl⟩
        obtain ⟨v1, hv1⟩ : ∃ v1 : Int, v1 = ((nchk r p).at_ : Int) := ⟨_, rfl⟩
        obtain ⟨v2, hv2⟩ : ∃ v2 : Int, v2 = ((nchk r p).sz : Int) := ⟨_, rfl⟩
        have hb4 := bel_new w3 (.cells #[.string v0, .int .i64 v1, .int .i64 v2] 42)
        have hJ4 := hJ _ _ _ (hJ _ _ _ HJ.out (Tk.of_fr (by omega) HT.out hf3)) (Tk.of_below hb4)
        have HT4 := hid (TkS.below ht3 hb4)
        have hA2 := HA.out
        rw [cks_good HF.out HNE.out hc] at hA2
        have hpx : pre ++ [(nchk r p, 0)] <+: cks len (b.drop 12) 12 := ⟨cks (f - 1) (r.drop (nlen r)) (p + nlen r), by rw [hA2]; simp⟩
        have HA2 := hid (show cks len (b.drop 12) 12 = (pre ++ [(nchk r p, 0)]) ++ cks (f - 1) (r.drop (nlen r)) (p + nlen r) by rw [hA2]; simp)
        have HPX := hid hpx
        obtain ⟨fn, tmps, assign, body, hyl, hR⟩ := hY pre _ _ hJ4 hpx
        unfold encC at hyl
        unfold cv at hyl ⊢
        rw [← hv0, ← hv1, ← hv2] at hyl
        rw [← hv0, ← hv1, ← hv2]
        have hyl2 : (Instr.yield l #[.agg #[.string v0, .int .i64 v1, .int .i64 v2], .int .i64 0]).run Try.prog (w3.alloc (.cells #[.string v0, .int .i64 v1, .int .i64 v2] 42)) = _ := hyl
        have HC := hid hc
        clear hyl ht3 hf3 hb4 hJ4 hA2 hpx hv0 hv1 hv2 hc
        gi_wp2_with fail
        refine ⟨fun h => (by cases h), ?_⟩
        refine hR.mono ?_
        rintro e W3 (⟨rfl, hJ3, hk3⟩ | ⟨rfl, hJx3⟩)
        · gi_wp2_with fail
          gi_roundg (r.drop (nlen r)).length
          case measure => rw [HG.out, List.length_drop]; have := nlen_8 r; omega
          case rel => exact ⟨pre ++ [(nchk r p, 0)], r.drop (nlen r), p + nlen r, f - 1, rfl, hid hJ3, hid (hk3 _ _ HT4.out), HA2, drop_fuel HF.out, hid fun x hx => HR.out x (List.mem_of_mem_drop hx)⟩
        · have hfin : EaPost J Jx (cks len (b.drop 12) 12) (.returned (.tuple #[])) W3 := ⟨⟨_, rfl⟩, .inr ⟨_, HPX.out, hJx3⟩⟩
          gi_wp2_with fail
          refine bodyPost_ret (results_none rfl _ _ _) rfl ?_
          exact hfin
      · obtain ⟨v0, hv0⟩ : ∃ v0 : ByteArray, v0 = tos (⟨[], 0, 0⟩ : Chk).nm := ⟨_, rfl⟩
        obtain ⟨v1, hv1⟩ : ∃ v1 : Int, v1 = ((⟨[], 0, 0⟩ : Chk).at_ : Int) := ⟨_, rfl⟩
        have hb4 := bel_new w3 (.cells #[.string v0, .int .i64 v1, .int .i64 v1] 42)
        have hJ4 := hJ _ _ _ (hJ _ _ _ HJ.out (Tk.of_fr (by omega) HT.out hf3)) (Tk.of_below hb4)
        have hA2 := HA.out
        rw [cks_bad HF.out HNE.out hc] at hA2
        have hpx : pre ++ [((⟨[], 0, 0⟩ : Chk), ncode r)] <+: cks len (b.drop 12) 12 := ⟨[], by rw [hA2]; simp⟩
        have HPX := hid hpx
        have HA2 := hid hA2
        obtain ⟨fn, tmps, assign, body, hyl, hR⟩ := hY pre _ _ hJ4 hpx
        unfold encC at hyl
        unfold cv at hyl ⊢
        rw [← hv0, ← hv1] at hyl
        rw [← hv0, ← hv1]
        have hyl2 : (Instr.yield l #[.agg #[.string v0, .int .i64 v1, .int .i64 v1], .int .i64 (ncode r : Int)]).run Try.prog (w3.alloc (.cells #[.string v0, .int .i64 v1, .int .i64 v1] 42)) = _ := hyl
        have qE : ((ncode r : Int) != 0) = true := by rw [bne_iff_ne]; omega
        clear hyl hf3 hb4 hJ4 hA2 hpx hv0 hv1 hc
        generalize ncode r = E at *
        gi_wp2_with fail
        refine ⟨fun h => (by cases h), ?_⟩
        refine hR.mono ?_
        rintro e W3 (⟨rfl, hJ3, hk3⟩ | ⟨rfl, hJx3⟩)
        · have hfin : EaPost J Jx (cks len (b.drop 12) 12) (.returned (.tuple #[])) W3 := ⟨⟨_, rfl⟩, .inl (by rw [HA2.out]; exact hJ3)⟩
          gi_wp2_with fail
          refine bodyPost_ret (results_none rfl _ _ _) rfl ?_
          exact hfin
        · have hfin : EaPost J Jx (cks len (b.drop 12) 12) (.returned (.tuple #[])) W3 := ⟨⟨_, rfl⟩, .inr ⟨_, HPX.out, hJx3⟩⟩
          gi_wp2_with fail
          refine bodyPost_ret (results_none rfl _ _ _) rfl ?_
          exact hfin
/-- **THE ITERATOR's CONTRACT.** -/
theorem each_takes (n bx : Nat) {a : Option Addr} {len cap : Nat} {b : List Nat} (hlen : b.length = len) (h12 : 12 ≤ len) (hl5 : len ≤ 549755813888) (hn : a = none → b.length = 0 ∧ cap = 0) (w : World) (hbx : bx < w.heap.size)
    (hb : Byts w a b) (h1 : w.cell? ⟨bx, 0, none⟩ = some (.slice a len cap)) : SeqTakes n 69 #[.pointer (some ⟨bx, 0, none⟩)] encC (cks len (b.drop 12) 12) w := fun l J Jx W hW hJ hY h0 =>
  each_in l bx hlen h12 hl5 hn J Jx n hJ hY W hW.size (hb.keep hW) ((hW.cell (p := ⟨bx, 0, none⟩) hbx).trans h1) h0
end Go.Proofs.Ytkdpalmdcnpnoaa.Wv
namespace Go.Proofs.Ytkdpalmdcnpnoaa.Wv
open Go.RowKit Gen Fld

def bcut (a : Option Addr) (cap k : Nat) : Option Addr := if cap = k then a else a.map (·.add (k * 1))
theorem bcut_run_l (a : Option Addr) (len cap k : Nat) (h1 : k ≤ len) : ∀ W, (Instr.sliceAt 29 (.slice a len cap) (some (.int .i64 (k : Int))) none none).run Try.prog W = .ok (.slice (bcut a cap k) (len - k) (cap - k)) W := fun W => by
  have ht : Try.prog.underlying 29 = some (.slice (Try.prog.elem 29)) := by kernel_rfl
  have he : Try.prog.elem 29 = 5 := by kernel_rfl
  rw [run_sliceAt_slice W 29 _ _ _ _ ht, run_slice_l W 29 a len cap ht .i64 k (by omega) (by omega), he]
  have hs : Try.t5.size = 1 := by kernel_rfl
  simp [sizeOf, hs, sliced, bcut, Result.andThen]
theorem bcut_run (a : Option Addr) (len cap l h : Nat) (h1 : l ≤ h) (h3 : h ≤ cap) : ∀ W, (Instr.sliceAt 29 (.slice a len cap) (some (.int .i64 (l : Int))) (some (.int .i64 (h : Int))) none).run Try.prog W = .ok (.slice (bcut a cap l) (h - l) (cap - l)) W := fun W => by
  have ht : Try.prog.underlying 29 = some (.slice (Try.prog.elem 29)) := by kernel_rfl
  have he : Try.prog.elem 29 = 5 := by kernel_rfl
  rw [run_sliceAt_slice W 29 _ _ _ _ ht, run_slice_lh W 29 a len cap ht .i64 .i64 l h (by omega) (by omega) (by omega), he]
  have hs : Try.t5.size = 1 := by kernel_rfl
  simp [sizeOf, hs, sliced, bcut, Result.andThen]
theorem bcut_byts {w : World} {a : Option Addr} {cap : Nat} {l : List Nat} (h : Byts w a l) (k : Nat) (hc : l.length ≤ cap) : Byts w (bcut a cap k) (l.drop k) := by
  unfold bcut
  by_cases e : l.drop k = []
  · rw [e]; exact Byts.nil _ _
  · have hl : k < l.length := by
      rcases Nat.lt_or_ge k l.length with h | h
      · exact h
      · exact absurd (List.drop_eq_nil_of_le h) e
    rw [if_neg (by omega)]
    cases l with
    | nil => simp at hl
    | cons x t =>
      obtain ⟨b, off, rfl, _⟩ := h.at_ 0 x rfl
      rw [Nat.mul_one, Option.map_some, Addr.add_lit]
      exact h.drop k
theorem bcut_nil {a : Option Addr} {cap k n : Nat} (h : a = none → n = 0 ∧ cap = 0) : bcut a cap k = none → n - k = 0 ∧ cap - k = 0 := fun e => by
  unfold bcut at e
  have ha : a = none := by
    split at e
    · exact e
    · exact Option.map_eq_none_iff.1 e
  obtain ⟨h1, h2⟩ := h ha
  omega
/-- Chunks as cells. -/
def crow (l : List Chk) : List Value := (l.map fun c => [.string (tos c.nm), .int .i64 (c.at_ : Int), .int .i64 (c.sz : Int)]).flatten
theorem crow_len (l : List Chk) : (crow l).length = l.length * 3 := by
  induction l with
  | nil => rfl
  | cons c l ih =>
    show ([_, _, _] ++ crow l).length = _
    rw [List.length_append, ih, List.length_cons]
    simp only [List.length_cons, List.length_nil]
    omega
theorem crow_app (l m : List Chk) : crow (l ++ m) = crow l ++ crow m := by unfold crow; rw [List.map_append, List.flatten_append]
theorem crow_one (c : Chk) : crow [c] = [.string (tos c.nm), .int .i64 (c.at_ : Int), .int .i64 (c.sz : Int)] := rfl
theorem crow_cells (l : List Chk) : ∀ u ∈ crow l, u.oneCell' = true := by
  intro u hu
  unfold crow at hu
  obtain ⟨t, ht, hu⟩ := List.mem_flatten.1 hu
  obtain ⟨c, _, rfl⟩ := List.mem_map.1 ht
  simp only [List.mem_cons, List.not_mem_nil, or_false] at hu
  rcases hu with rfl | rfl | rfl <;> rfl
theorem crow_at (l : List Chk) : ∀ (i : Nat) (c : Chk), l[i]? = some c → (crow l)[i * 3]? = some (.string (tos c.nm)) ∧ (crow l)[i * 3 + 1]? = some (.int .i64 (c.at_ : Int)) ∧ (crow l)[i * 3 + 2]? = some (.int .i64 (c.sz : Int)) := by
  induction l with
  | nil => intro i c h; simp at h
  | cons d l ih =>
    intro i c h
    show ([_, _, _] ++ crow l)[i * 3]? = _ ∧ ([_, _, _] ++ crow l)[i * 3 + 1]? = _ ∧ ([_, _, _] ++ crow l)[i * 3 + 2]? = _
    cases i with
    | zero =>
      simp at h; subst h
      exact ⟨rfl, rfl, rfl⟩
    | succ i =>
      obtain ⟨h1, h2, h3⟩ := ih i c (by simpa using h)
      refine ⟨?_, ?_, ?_⟩
      · rw [List.getElem?_append_right (by simp only [List.length_cons, List.length_nil]; omega)]; rw [← h1]; congr 1; simp only [List.length_cons, List.length_nil]; omega
      · rw [List.getElem?_append_right (by simp only [List.length_cons, List.length_nil]; omega)]; rw [← h2]; congr 1; simp only [List.length_cons, List.length_nil]; omega
      · rw [List.getElem?_append_right (by simp only [List.length_cons, List.length_nil]; omega)]; rw [← h3]; congr 1; simp only [List.length_cons, List.length_nil]; omega
theorem cks_length : ∀ (f : Nat) (r : List Nat) (p : Nat), (cks f r p).length ≤ f
  | 0, _, _ => Nat.le_refl _
  | f + 1, r, p => by
    rw [cks]
    split
    · exact Nat.zero_le _
    · split
      · rw [List.length_cons]; have := cks_length f (r.drop (nlen r)) (p + nlen r); omega
      · simp
end Go.Proofs.Ytkdpalmdcnpnoaa.Wv
namespace Go.Proofs.Ytkdpalmdcnpnoaa.Wv
open Go.RowKit Go.Shelf Gen Fld

theorem results_cells2 {P : Program} {fn : Func} {a b : Tmp} {ta tb : TypeId} (h : fn.results = #[.cell a ta, .cell b tb]) (tmps : Array Value) (w : World) {p1 p2 : Addr} {v1 v2 : Value} (h1 : tmps.getD a undef = .pointer (some p1)) (h2 : tmps.getD b undef = .pointer (some p2))
    (c1 : (loadVar ta p1).run P w = .ok v1 w) (c2 : (loadVar tb p2).run P w = .ok v2 w) : (results fn tmps).run P w = .ok (.tuple #[v1, v2]) w := by
  simp only [results, h]
  simp at h1 h2
  simp [Sem.run_bind, Result.andThen, h1, h2, asAddr, c1, c2]
theorem ld34 {w : World} {a : Addr} {v : Value} (h : w.cell? a = some v) : (loadVar 34 a).run Try.prog w = .ok v w := by
  simp [go_sem, loadVar, h]
theorem ld30 {w : World} {a : Addr} {v : Value} (h : w.cell? a = some v) : (loadVar 30 a).run Try.prog w = .ok v w := by
  simp [go_sem, loadVar, h]
/-- A box of one cell. -/
theorem box_cell {w : World} {k t : Nat} {v : Value} (h : w.heap[k]? = some (.cells #[v] t)) : w.cell? ⟨k, 0, none⟩ = some v := by unfold World.cell?; simp only [h]; rfl
theorem box_fz {w : World} {k t : Nat} {v : Value} (h : w.heap[k]? = some (.cells #[v] t)) : w.frozen? ⟨k, 0, none⟩ = false := by unfold World.frozen?; simp only [h]; rfl
theorem box_set {w : World} {k t : Nat} {v : Value} (h : w.heap[k]? = some (.cells #[v] t)) (u : Value) : (w.setCell ⟨k, 0, none⟩ u).heap[k]? = some (.cells #[u] t) := by
  unfold World.setCell
  simp [Array.getElem?_modify, h]
theorem box_other {w : World} {k j : Nat} (u : Value) (h : j ≠ k) : (w.setCell ⟨k, 0, none⟩ u).heap[j]? = w.heap[j]? := Below.heap_setCell w ⟨k, 0, none⟩ u j h
/-- What the loop keeps. -/
structure CI (w : World) (bL : Nat) (pre : List (Chk × Nat)) (W : World) : Prop where
  bel : Below w.heap.size w W
  ha : W.heap[w.heap.size]? = some (.cells #[.slice none 0 0] 34)
  hb : W.heap[w.heap.size + 1]? = some (.cells #[.int .i64 0] 30)
  row : ∃ ao cap, W.heap[bL]? = some (.cells #[.slice ao pre.length cap] 34) ∧ W.ownsRow w.heap.size 42 3 (.slice ao pre.length cap) pre.length (crow (pre.map Prod.fst)) ∧ (pre = [] → ao = none)
  ok : ∀ x ∈ pre, x.2 = 0
theorem row3_at {w : World} {base : Nat} {ao : Option Addr} {cap : Nat} {pre : List (Chk × Nat)} (h : w.ownsRow base 42 3 (.slice ao pre.length cap) pre.length (crow (pre.map Prod.fst))) (hn : pre = [] → ao = none) :
    ao = none ∨ ∃ g c s, ao = some ⟨g, 0, none⟩ ∧ base ≤ g ∧ w.heap[g]? = some (.cells c 42) ∧ w.cell? ⟨g, 0, none⟩ = some (.string s) := by
  rcases h.2 with ⟨hv, _⟩ | ⟨g, c, cur, hv, q1, q2, _⟩
  · injection hv with e1 _ _
    exact .inl e1
  · injection hv with e1 _ _
    subst e1
    cases pre with
    | nil => cases hn rfl
    | cons x l =>
      refine .inr ⟨g, cur, tos x.1.nm, rfl, q1, q2, ?_⟩
      have := h.cells (g := g) rfl 0 (.string (tos x.1.nm)) rfl
      rwa [Addr.add_lit] at this
theorem CI.stay {w A B : World} {bL N : Nat} {pre : List (Chk × Nat)} (h : CI w bL pre A) (h1 : w.heap.size + 1 < N) (h2 : bL < N) (ho : B.os = A.os) (ht : B.tape = A.tape) (hu : B.output = A.output) (hs : A.heap.size ≤ B.heap.size)
    (hk : ∀ k, k < N → k < A.heap.size → B.heap[k]? = A.heap[k]?) (hr : ∀ g c s, A.heap[g]? = some (.cells c 42) → A.cell? ⟨g, 0, none⟩ = some (.string s) → B.heap[g]? = A.heap[g]?) : CI w bL pre B := by
  obtain ⟨ao, cap, r1, r2, r3⟩ := h.row
  have z1 := (Array.getElem?_eq_some_iff.1 h.ha).1
  have z2 := (Array.getElem?_eq_some_iff.1 h.hb).1
  have z3 := (Array.getElem?_eq_some_iff.1 r1).1
  refine ⟨h.bel.trans ⟨ho, ht, hu, hs, fun k hk2 => hk k (by omega) (by omega)⟩, (hk _ (by omega) z1).trans h.ha, (hk _ h1 z2).trans h.hb, ⟨ao, cap, (hk _ h2 z3).trans r1, ?_, r3⟩, h.ok⟩
  rcases row3_at r2 r3 with rfl | ⟨g, c, s, rfl, _, e1, e2⟩
  · obtain ⟨l, h3⟩ := r2
    refine ⟨l, ?_⟩
    rcases h3 with h3 | ⟨g, c, cur, hv, _⟩
    · exact .inl h3
    · injection hv with e1 _ _
      cases e1
  · obtain ⟨l, h3⟩ := r2
    refine ⟨l, ?_⟩
    rcases h3 with h3 | ⟨g', c', cur, hv, q1, q2, q3⟩
    · exact .inl h3
    · injection hv with e3 _ e4
      cases e3
      subst e4
      exact .inr ⟨g, cap, cur, rfl, q1, (hr g c s e1 e2).trans q2, q3⟩
theorem CI.below {w A B : World} {bL : Nat} {pre : List (Chk × Nat)} (h : CI w bL pre A) (hb : Below A.heap.size A B) : CI w bL pre B := by
  obtain ⟨ao, cap, r1, r2, r3⟩ := h.row
  have h1 := (Array.getElem?_eq_some_iff.1 h.hb).1
  have h2 := (Array.getElem?_eq_some_iff.1 r1).1
  exact h.stay (N := A.heap.size) h1 h2 hb.os hb.tape hb.output hb.size (fun k hk _ => hb.block k hk) fun g c s e _ => hb.block g (Array.getElem?_eq_some_iff.1 e).1
theorem ci_own (w : World) (bL N : Nat) (h1 : w.heap.size + 1 < N) (h2 : bL < N) : OwnFrom N (CI w bL) := fun s A B row hs hg hr =>
  hs.stay h1 h2 hg.os hg.tape hg.output hg.size
    (fun k hk hA => hg.block k hA fun e => by have := (hr k e.symm).1; omega)
    (fun g c s e _ => hg.block g (Array.getElem?_eq_some_iff.1 e).1 fun e2 => by
      obtain ⟨o, h3, h4⟩ := (hr g e2.symm).2
      rw [e] at h3; cases h3; cases h4)
theorem CI.tk {w A B : World} {bL N : Nat} {pre : List (Chk × Nat)} (h1 : w.heap.size + 1 < N) (h2 : bL < N) (hs : CI w bL pre A) (ht : Tk N A B) : CI w bL pre B :=
  hs.stay h1 h2 ht.os ht.tape ht.output ht.size (fun k hk hA => ht.block k hA fun ⟨e, _⟩ => by omega)
    (fun g c s e e2 => ht.block g (Array.getElem?_eq_some_iff.1 e).1 fun ⟨_, s2, hq⟩ => by
      obtain ⟨a, cap, hk, _⟩ := hq
      have := hk.c0
      rw [e2] at this; cases this)
/-- No taker lies where the loop writes. -/
theorem CI.kt_row {w A B : World} {pre : List (Chk × Nat)} {ao : Option Addr} {cap : Nat} (hrow : A.ownsRow w.heap.size 42 3 (.slice ao pre.length cap) pre.length (crow (pre.map Prod.fst))) (hn : pre = [] → ao = none) (hg : A.grownBy B (blk ao)) : Kt A B := by
  refine Kt.of_fr (X := fun k => blk ao = some k) ⟨hg.os, hg.tape, hg.output, hg.size, fun k hk hx => hg.block k hk fun e => hx e.symm⟩ (fun k c z hx e => ?_) (fun q s hq hx => ?_)
  all_goals
    rcases row3_at hrow hn with rfl | ⟨g, c', s', rfl, _, e1, e2⟩
    · cases hx
    · cases hx
      first
        | (rw [e1] at e; cases e)
        | (obtain ⟨a, cap2, hk, _⟩ := hq
           have := hk.c0
           rw [e2] at this; cases this)
theorem kt_box {A : World} {k : Nat} {ao : Option Addr} {n c : Nat} (h : A.heap[k]? = some (.cells #[.slice ao n c] 34)) (u : Value) : Kt A (A.setCell ⟨k, 0, none⟩ u) := by
  refine Kt.of_fr (X := fun j => j = k) ((Fr.refl (fun j => j = k) A).setCell (p := ⟨k, 0, none⟩) rfl u) (fun j c z hx e => ?_) (fun q s hq hx => ?_)
  · rw [hx, h] at e; cases e
  · obtain ⟨a, cap2, hk, _⟩ := hq
    have := hk.c0
    rw [hx, box_cell h] at this; cases this
theorem keeps_fr {X : Nat → Prop} {A A' : World} (hf : Fr X A A') (B : Nat) (hX : ∀ k ob, X k → A.heap[k]? = some ob → ob.isCells = true) : KeepsFrom B A A' :=
  ⟨hf.size, fun k o _ hk ho => (hf.block k (Array.getElem?_eq_some_iff.1 hk).1 fun hx => by rw [hX k o hx hk] at ho; cases ho).trans hk⟩
theorem CI.app {w A B : World} {bL : Nat} {pre : List (Chk × Nat)} {ao : Option Addr} {cap g5 cap5 : Nat} {xc : Chk} (h : CI w bL pre A) (hbL : w.heap.size + 1 < bL) (hl : A.heap[bL]? = some (.cells #[.slice ao pre.length cap] 34))
    (hr : A.ownsRow w.heap.size 42 3 (.slice ao pre.length cap) pre.length (crow (pre.map Prod.fst))) (hn : pre = [] → ao = none)
    (ho : B.ownsRow w.heap.size 42 3 (.slice (some ⟨g5, 0, none⟩) (pre.length + 1) cap5) (pre.length + 1) (crow (pre.map Prod.fst) ++ [.string (tos xc.nm), .int .i64 (xc.at_ : Int), .int .i64 (xc.sz : Int)])) (hg : A.grownBy B (blk ao)) :
    B.heap[bL]? = some (.cells #[.slice ao pre.length cap] 34) ∧ CI w bL (pre ++ [(xc, 0)]) (B.setCell ⟨bL, 0, none⟩ (.slice (some ⟨g5, 0, none⟩) (pre.length + 1) cap5)) ∧ Kt A (B.setCell ⟨bL, 0, none⟩ (.slice (some ⟨g5, 0, none⟩) (pre.length + 1) cap5)) ∧ ∀ N, KeepsFrom N A (B.setCell ⟨bL, 0, none⟩ (.slice (some ⟨g5, 0, none⟩) (pre.length + 1) cap5)) := by
  have hrow := row3_at hr hn
  have hold : ∀ k, k < w.heap.size → blk ao ≠ some k := fun k hk e => by
    have := hr.lt k (by rw [ownBlock_slice]; exact e)
    omega
  have hty : ∀ (k : Nat) (c : Array Value) (t : Nat), t ≠ 42 → A.heap[k]? = some (.cells c t) → blk ao ≠ some k := fun k c t ht hk e => by
    rcases hrow with rfl | ⟨g, c', s', rfl, _, e1, _⟩
    · cases e
    · cases e; rw [e1] at hk; cases hk; exact ht rfl
  have hk : ∀ (k : Nat) (c : Array Value) (t : Nat), t ≠ 42 → A.heap[k]? = some (.cells c t) → B.heap[k]? = some (.cells c t) := fun k c t ht e => (hg.block k (Array.getElem?_eq_some_iff.1 e).1 fun e2 => hty k c t ht e e2.symm).trans e
  have hb5 := hk bL _ 34 (by decide) hl
  have hne : g5 ≠ bL := fun e => by
    obtain ⟨_, h3⟩ := ho
    rcases h3 with ⟨hv, _⟩ | ⟨g', c', cur, hv, q1, q2, _⟩
    · cases hv
    · injection hv with e1 _ _
      cases e1
      rw [e, hb5] at q2; cases q2
  refine ⟨hb5, ⟨?_, ?_, ?_, ⟨some ⟨g5, 0, none⟩, cap5, ?_, ?_, fun e => ?_⟩, ?_⟩, ?_, fun N => ?_⟩
  · refine (h.bel.trans ⟨hg.os, hg.tape, hg.output, hg.size, fun k hk => hg.block k (Nat.lt_of_lt_of_le hk h.bel.size) fun e => hold k hk e.symm⟩).setCell (p := ⟨bL, 0, none⟩) ?_ _
    show w.heap.size ≤ bL
    omega
  · exact (box_other _ (by omega)).trans (hk _ _ 34 (by decide) h.ha)
  · exact (box_other _ (by omega)).trans (hk _ _ 30 (by decide) h.hb)
  · rw [List.length_append]
    exact box_set hb5 _
  · rw [List.map_append, crow_app, List.length_append]
    refine ownsRow_block (w := B) ho fun g e => ?_
    cases e
    exact box_other _ hne
  · have := congrArg List.length e
    simp at this
  · intro x hx
    rcases List.mem_append.1 hx with hx | hx
    · exact h.ok x hx
    · rw [List.mem_singleton.1 hx]
  · exact (CI.kt_row hr hn hg).trans (kt_box hb5 _)
  · refine keeps_fr (X := fun k => blk ao = some k ∨ k = bL) (A' := B.setCell ⟨bL, 0, none⟩ (.slice (some ⟨g5, 0, none⟩) (pre.length + 1) cap5)) ?_ N ?_
    · exact ((Fr.refl _ A).grown hg (fun k e _ => .inl e)).setCell (p := ⟨bL, 0, none⟩) (.inr rfl) _
    · intro k ob hx hk
      rcases hx with hx | rfl
      · rcases hrow with rfl | ⟨g, c', s', rfl, _, e1, _⟩
        · cases hx
        · cases hx; rw [e1] at hk; cases hk; rfl
      · rw [hl] at hk; cases hk; rfl
theorem news_three {w : World} {g : Nat} {v0 v1 v2 : Value} (h : w.cell? ⟨g, 0, none⟩ = some v0 ∧ w.cell? ⟨g, 1, none⟩ = some v1 ∧ w.cell? ⟨g, 2, none⟩ = some v2) : ∀ j u, [v0, v1, v2][j]? = some u → w.cell? ((⟨g, 0, none⟩ : Addr).add j) = some u := by
  intro j u hj
  rw [Addr.add_lit]
  match j, hj with
  | 0, hj => cases hj; exact h.1
  | 1, hj => cases hj; exact h.2.1
  | 2, hj => cases hj; exact h.2.2
/-- What the loop leaves, when it stops. -/
def CX (w : World) (pre : List (Chk × Nat)) (W : World) : Prop := Below w.heap.size w W ∧ W.heap[w.heap.size]? = some (.cells #[.slice none 0 0] 34) ∧ ∃ (pre' : List (Chk × Nat)) (c : Chk) (e : Nat), pre = pre' ++ [(c, e)] ∧ e ≠ 0 ∧ W.heap[w.heap.size + 1]? = some (.cells #[.int .i64 (e : Int)] 30)
theorem cx_own (w : World) (N : Nat) (h1 : w.heap.size + 1 < N) : OwnFrom N (CX w) := fun s A B row hs hg hr => by
  obtain ⟨hb, h2, pre', c, e, h3, h4, h5⟩ := hs
  have hk : ∀ k, k < N → k < A.heap.size → B.heap[k]? = A.heap[k]? := fun k hk hA => hg.block k hA fun e => by have := (hr k e.symm).1; omega
  exact ⟨hb.trans ⟨hg.os, hg.tape, hg.output, hg.size, fun k hk2 => hk k (by omega) (by have := hb.size; omega)⟩, (hk _ (by omega) (Array.getElem?_eq_some_iff.1 h2).1).trans h2, pre', c, e, h3, h4, (hk _ h1 (Array.getElem?_eq_some_iff.1 h5).1).trans h5⟩
end Go.Proofs.Ytkdpalmdcnpnoaa.Wv
namespace Go.Proofs.Ytkdpalmdcnpnoaa.Wv
open Go.RowKit Go.Shelf Gen Fld
attribute [local go_sem] Oper.semAt_some

def ChP (w : World) (b : List Nat) (e : Ending) (w' : World) : Prop := ∃ ao cap, e = .returned (.tuple #[.slice ao (chunks b).2.length cap, .int .i64 ((chunks b).1 : Int)]) ∧ w'.ownsRow w.heap.size 42 3 (.slice ao (chunks b).2.length cap) (chunks b).2.length (crow (chunks b).2) ∧ Below w.heap.size w w'
theorem chp_no {w w' : World} {b : List Nat} {e : Nat} (he : hcode b = e) (h0 : e ≠ 0) (hb : Below w.heap.size w w') : ChP w b (.returned (.tuple #[.slice none 0 0, .int .i64 (e : Int)])) w' := by
  have hc : chunks b = (e, []) := by unfold chunks; rw [he, if_neg h0]
  unfold ChP
  rw [hc]
  exact ⟨none, 0, rfl, World.ownsRow_nil _ _ _ _, hb⟩
theorem info42 : ∃ i, Try.prog.info? 42 = some i ∧ i.zero = some (.agg #[.string ⟨#[]⟩, .int .i64 0, .int .i64 0]) ∧ i.size = 3 ∧ i.bytes = 32 ∧ (Value.agg #[.string ⟨#[]⟩, .int .i64 0, .int .i64 0]).cells.size = 3 := by
  have h : (Try.prog.info? 42).map (fun i => (i.zero, i.size, i.bytes)) = some (some (.agg #[.string ⟨#[]⟩, .int .i64 0, .int .i64 0]), 3, 32) := by kernel_rfl
  cases hi : Try.prog.info? 42 with
  | none => rw [hi] at h; cases h
  | some i =>
    rw [hi] at h
    simp only [Option.map_some, Option.some.injEq, Prod.mk.injEq] at h
    exact ⟨i, rfl, h.1, h.2.1, h.2.2, rfl⟩
theorem three_cells {w : World} {g : Nat} {v0 v1 v2 : Value} (h : w.heap[g]? = some (.cells #[v0, v1, v2] 42)) : w.cell? ⟨g, 0, none⟩ = some v0 ∧ w.cell? ⟨g, 1, none⟩ = some v1 ∧ w.cell? ⟨g, 2, none⟩ = some v2 := by
  refine ⟨?_, ?_, ?_⟩ <;> (unfold World.cell?; simp only [h]; rfl)
theorem two_set {W : World} {k : Nat} {e : Value} {a t1 : Value} (h1 : W.heap[k]? = some (.cells #[a] 34)) (h2 : W.heap[k + 1]? = some (.cells #[t1] 30)) (u : Value) :
    ((W.setCell ⟨k, 0, none⟩ u).setCell ⟨k + 1, 0, none⟩ e).heap[k]? = some (.cells #[u] 34) ∧ ((W.setCell ⟨k, 0, none⟩ u).setCell ⟨k + 1, 0, none⟩ e).heap[k + 1]? = some (.cells #[e] 30) :=
  ⟨(box_other e (by omega)).trans (box_set h1 u), box_set ((box_other u (by omega)).trans h2) e⟩
theorem below_put {w W : World} (h : Below w.heap.size w W) {D : Nat} (hD : w.heap.size ≤ D) (o : Obj) : Below w.heap.size w (W.putObj D o) :=
  ⟨h.os, h.tape, h.output, by have := h.size; simp; exact this, fun k hk => (World.putObj_heap_other (by omega)).trans (h.block k hk)⟩
theorem done_fin {w W : World} {bL D : Nat} {b : List Nat} {all : List (Chk × Nat)} (hI : CI w bL all W) (hD : w.heap.size + 1 < D) (hall : chunks b = ends all) (hK : W.heap[D]? = some (.deferred (some []))) (ao : Option Addr) (cap : Nat)
    (_ : W.heap[bL]? = some (.cells #[.slice ao all.length cap] 34)) (hr : W.ownsRow w.heap.size 42 3 (.slice ao all.length cap) all.length (crow (all.map Prod.fst))) (hn : all = [] → ao = none) :
    (((W.setCell ⟨w.heap.size, 0, none⟩ (.slice ao all.length cap)).setCell ⟨w.heap.size + 1, 0, none⟩ (.int .i64 0)).putObj D (.deferred none)).heap[w.heap.size]? = some (.cells #[.slice ao all.length cap] 34) ∧
    (((W.setCell ⟨w.heap.size, 0, none⟩ (.slice ao all.length cap)).setCell ⟨w.heap.size + 1, 0, none⟩ (.int .i64 0)).putObj D (.deferred none)).heap[w.heap.size + 1]? = some (.cells #[.int .i64 0] 30) ∧
    ((W.setCell ⟨w.heap.size, 0, none⟩ (.slice ao all.length cap)).setCell ⟨w.heap.size + 1, 0, none⟩ (.int .i64 0)).heap[D]? = some (.deferred (some [])) ∧
    ChP w b (.returned (.tuple #[.slice ao all.length cap, .int .i64 0])) (((W.setCell ⟨w.heap.size, 0, none⟩ (.slice ao all.length cap)).setCell ⟨w.heap.size + 1, 0, none⟩ (.int .i64 0)).putObj D (.deferred none)) := by
  have hts := two_set (e := .int .i64 0) hI.ha hI.hb (.slice ao all.length cap)
  have hbs := (hI.bel.setCell (p := ⟨w.heap.size, 0, none⟩) (Nat.le_refl _) (.slice ao all.length cap)).setCell (p := ⟨w.heap.size + 1, 0, none⟩) (by show w.heap.size ≤ w.heap.size + 1; omega) (.int .i64 0)
  refine ⟨(World.putObj_heap_other (by omega)).trans hts.1, (World.putObj_heap_other (by omega)).trans hts.2, ((box_other _ (by omega)).trans (box_other _ (by omega))).trans hK, ?_⟩
  have hc : chunks b = (0, all.map Prod.fst) := by rw [hall]; exact ends_good hI.ok
  unfold ChP
  rw [hc]
  refine ⟨ao, cap, by rw [List.length_map]; rfl, ?_, below_put hbs (by omega) _⟩
  rw [List.length_map]
  refine ownsRow_block hr fun g e => ?_
  rcases row3_at hr hn with rfl | ⟨g', c, s, rfl, _, e1, _⟩
  · cases e
  · cases e
    have n1 : g' ≠ w.heap.size := fun e => by have := hI.ha; rw [← e, e1] at this; cases this
    have n2 : g' ≠ w.heap.size + 1 := fun e => by have := hI.hb; rw [← e, e1] at this; cases this
    have n3 : g' ≠ D := fun e => by rw [← e, e1] at hK; cases hK
    exact (World.putObj_heap_other n3).trans ((box_other _ n2).trans (box_other _ n1))
theorem nx_four {L : List Nat} (h : L.length = 4) : nx ⟨0, L, 0⟩ ((4 : Nat) : Int) true = (L, ⟨0, [], 4⟩) := by
  rw [nx_ok rfl (fun _ => by omega) (by show 4 ≤ L.length; omega)]
  show (L.take 4, (⟨0, L.drop 4, 0 + 4⟩ : TS)) = _
  rw [List.take_of_length_le (by omega), List.drop_eq_nil_of_le (by omega)]
/-- The two boxes of the results. -/
theorem two_boxes (w : World) : ((w.alloc (.cells #[.slice none 0 0] 34)).alloc (.cells #[.int .i64 0] 30)).heap[w.heap.size]? = some (.cells #[.slice none 0 0] 34) ∧ ((w.alloc (.cells #[.slice none 0 0] 34)).alloc (.cells #[.int .i64 0] 30)).heap[w.heap.size + 1]? = some (.cells #[.int .i64 0] 30) ∧ Below w.heap.size w ((w.alloc (.cells #[.slice none 0 0] 34)).alloc (.cells #[.int .i64 0] 30)) ∧ ((w.alloc (.cells #[.slice none 0 0] 34)).alloc (.cells #[.int .i64 0] 30)).heap.size = w.heap.size + 2 := by
  have e1 := heap_alloc_new w (.cells #[.slice none 0 0] 34)
  have s1 : (w.alloc (.cells #[.slice none 0 0] 34)).heap.size = w.heap.size + 1 := by simp
  have e2 := heap_alloc_new (w.alloc (.cells #[.slice none 0 0] 34)) (.cells #[.int .i64 0] 30)
  rw [s1] at e2
  refine ⟨(RowKit.Below.heap_alloc _ _ _ (by omega)).trans e1, e2, ((bel_new w _).alloc (by omega) _), by simp⟩
set_option maxRecDepth 100000 in
set_option maxHeartbeats 4000000 in
theorem chunks_in (n : Nat) (hn3 : 3 ≤ n) {w : World} {a : Option Addr} {len cap : Nat} {b : List Nat} (hb : Byts w a b) (hlen : b.length = len) (hc : len ≤ cap) (hnil : a = none → b.length = 0 ∧ cap = 0) (hl5 : len ≤ 549755813888) :
    CallsIn Fence.wide n Try.prog 14 #[.slice a len cap] w (ChP w b) := by
  obtain ⟨t1, t2, t3, t4⟩ := two_boxes w
  have HBY := hid fun w' (h : Below w.heap.size w w') => hb.keep h
  have HB1 := hid t3
  have HT1 := hid t1
  have HT2 := hid t2
  have c1 := box_cell t1
  have f1 := box_fz t1
  have c2 := box_cell t2
  have f2 := box_fz t2
  have HS := hid t4
  have HNIL := hid hnil
  have HLEN := hid hlen
  have HBG := hid fun w' (h : Below w.heap.size w w') => begins_any (n := len) (cap := cap) (m := [82, 73, 70, 70]) (hb.keep h) hlen rfl (by decide) hc (by omega)
  have HU := hid fun (E : Int) => And.intro (two_set (e := .int .i64 E) t1 t2 (.slice none 0 0)) (show Below w.heap.size w ((((w.alloc (.cells #[.slice none 0 0] 34)).alloc (.cells #[.int .i64 0] 30)).setCell ⟨w.heap.size, 0, none⟩ (.slice none 0 0)).setCell ⟨w.heap.size + 1, 0, none⟩ (.int .i64 E)) from (t3.setCell (p := ⟨w.heap.size, 0, none⟩) (Nat.le_refl _) _).setCell (p := ⟨w.heap.size + 1, 0, none⟩) (by show w.heap.size ≤ w.heap.size + 1; omega) _)
  have hX := fun k (hk : k ≤ len) => bcut_run_l a len cap k hk
  have HXB := hid fun k w' (h : Below w.heap.size w w') => bcut_byts (hb.keep h) k (by rw [hlen]; exact hc)
  clear t1 t2 t3 t4 hb hnil hlen
  refine callsIn_of_wp_marks Try.func14 rfl trivial ?_ rfl
  simp only [Try.ntmps14, List.size_toArray, List.length_cons, List.length_nil, Nat.reduceAdd, Nat.reduceSub, Array.replicate_succ, Array.replicate_zero, List.push_toArray, List.append_toArray, List.nil_append, List.cons_append]
  gi_wp2_with fail
  generalize (w.alloc (.cells #[.slice none 0 0] 34)).alloc (.cells #[.int .i64 0] 30) = W1 at *
  refine ⟨trivial, fun h => (by cases h), ?_⟩
  refine (callsIn_wide.2 (HBG.out W1 HB1.out)).mono ?_
  rintro e w' ⟨rfl, rfl⟩
  by_cases hg1 : Bgn b [82, 73, 70, 70]
  · rw [decide_eq_true hg1]
    by_cases h8 : len ≤ 8
    · have h82 : (len : Int) ≤ 8 := by omega
      have hX2 := hX len (Nat.le_refl _)
      have hby := HXB.out 8 W1 HB1.out
      have hd8 : b.drop 8 = [] := List.drop_eq_nil_of_le (by have := HLEN.out; omega)
      rw [hd8] at hby
      have HBG2 := hid (begins_any (n := len - len) (cap := cap - len) (m := [87, 65, 86, 69]) (Byts.nil W1 (bcut a cap len)) (by rw [List.length_nil]; omega) rfl (by decide) (by omega) (by omega))
      have hbn : Bgn [] [87, 65, 86, 69] := rfl
      rw [decide_eq_true hbn] at HBG2
      have HF := hid (chp_no (w := w) (b := b) (e := 10) (by
        unfold hcode
        rw [hd8, if_neg (by rintro (h | h) <;> exact h (by assumption)), if_pos (by have := HLEN.out; omega)]) (by decide) (HU.out 10).2)
      have h12 : (len : Int) < 12 := by omega
      clear hX hby hd8 hbn h8 hg1
      generalize bcut a cap len = X at *
      generalize len - len = m at *
      generalize cap - len = c at *
      gi_wp2_with fail
      refine ⟨trivial, fun h => (by cases h), ?_⟩
      refine (callsIn_wide.2 HBG2.out).mono ?_
      rintro e w' ⟨rfl, rfl⟩
      gi_wp2_with fail
      exact ⟨_, results_cells2 rfl _ _ rfl rfl (ld34 (box_cell (HU.out 10).1.1)) (ld30 (box_cell (HU.out 10).1.2)), HF.out⟩
    · have h82 : ¬ (len : Int) ≤ 8 := by omega
      have h83 : ¬ (len : Int) < 8 := by omega
      have hmin : min (len : Int) 8 = 8 := by omega
      have hX2 : ∀ W, (Instr.sliceAt 29 (.slice a len cap) (some (.int .i64 8)) none none).run Try.prog W = .ok (.slice (bcut a cap 8) (len - 8) (cap - 8)) W := hX 8 (by omega)
      have hld : (b.drop 8).length = len - 8 := by rw [List.length_drop, HLEN.out]
      have HBG2 := hid (begins_any (n := len - 8) (cap := cap - 8) (m := [87, 65, 86, 69]) (HXB.out 8 W1 HB1.out) hld rfl (by decide) (by omega) (by omega))
      clear hld hX
      generalize bcut a cap 8 = X at *
      generalize hm : len - 8 = m at *
      generalize hcc : cap - 8 = c at *
      have HM := hid hm
      clear hm hcc
      gi_wp2_with fail
      refine ⟨trivial, fun h => (by cases h), ?_⟩
      refine (callsIn_wide.2 HBG2.out).mono ?_
      rintro e w' ⟨rfl, rfl⟩
      by_cases hg2 : Bgn (b.drop 8) [87, 65, 86, 69]
      · rw [decide_eq_true hg2]
        by_cases h12 : len < 12
        · have h122 : (len : Int) < 12 := by omega
          have HF := hid (chp_no (w := w) (b := b) (e := 10) (by
            unfold hcode
            rw [if_neg (by rintro (h | h) <;> exact h (by assumption)), if_pos (by have := HLEN.out; omega)]) (by decide) (HU.out 10).2)
          clear hg1 hg2 h12
          gi_wp2_with fail
          exact ⟨_, results_cells2 rfl _ _ rfl rfl (ld34 (box_cell (HU.out 10).1.1)) (ld30 (box_cell (HU.out 10).1.2)), HF.out⟩
        · have h122 : ¬ (len : Int) < 12 := by omega
          have hX4 : ∀ W, (Instr.sliceAt 29 (.slice a len cap) (some (.int .i64 4)) (some (.int .i64 8)) none).run Try.prog W = .ok (.slice (bcut a cap 4) 4 (cap - 4)) W := bcut_run a len cap 4 8 (by decide) (by omega)
          have hl4 : ((b.drop 4).take 4).length = 4 := by rw [List.length_take, List.length_drop, HLEN.out]; omega
          have htk := take_any (c := cap - 4) ((HXB.out 4 W1 HB1.out).take 4) (fun e => by
            have ha : b.length - 4 = 0 ∧ cap - 4 = 0 := bcut_nil (n := b.length) (fun e => HNIL.out e) e
            have := HLEN.out; omega) (by rw [hl4]; decide)
          rw [hl4] at htk
          have HTK := hid htk
          have HHC := hid (show hcode b = if lev ((b.drop 4).take 4) ≠ len - 8 then 34 else 0 by
            unfold hcode
            rw [if_neg (by rintro (h | h) <;> exact h (by assumption)), if_neg (by have := HLEN.out; omega), HLEN.out])
          have HV := hid (lev_lt ((b.drop 4).take 4) (fun x hx => (HBY.out w (Below.refl _ _)).lt x (List.mem_of_mem_drop (List.mem_of_mem_take hx))))
          have HNX := hid (nx_four hl4)
          rw [hl4] at HV
          clear hl4 htk hX2 hg1 hg2 h12
          generalize (b.drop 4).take 4 = L4 at *
          generalize bcut a cap 4 = X4 at *
          generalize hc4 : cap - 4 = c4 at *
          clear hc4
          gi_wp2_with fail
          refine ⟨trivial, fun h => (by cases h), ?_⟩
          refine (callsIn_wide.2 HTK.out).mono ?_
          rintro e w2 ⟨q, rfl, hq, ht2, hb2⟩
          have HTU := hid (show Calls Try.prog 40 #[.pointer (some ⟨q, 0, none⟩), .int .i64 4] w2 (Took w2 q (nx ⟨0, L4, 0⟩ ((4 : Nat) : Int) true).2 (.int .u64 (lev (nx ⟨0, L4, 0⟩ ((4 : Nat) : Int) true).1 : Int))) from tku_any ht2 (4 : Nat))
          rw [HNX.out] at HTU
          have HB2 := hid hb2
          clear ht2 hb2
          gi_wp2_with fail
          refine ⟨trivial, fun h => (by cases h), ?_⟩
          refine (callsIn_wide.2 HTU.out).mono ?_
          rintro e w3 ⟨rfl, -, hf3⟩
          have hb3 : Below W1.heap.size W1 w3 := HB2.out.trans ⟨hf3.os, hf3.tape, hf3.output, hf3.size, fun k hk => hf3.block k (Nat.lt_of_lt_of_le hk HB2.out.size) (by omega)⟩
          have t1 := (hb3.block _ (Array.getElem?_eq_some_iff.1 HT1.out).1).trans HT1.out
          have t2 := (hb3.block _ (Array.getElem?_eq_some_iff.1 HT2.out).1).trans HT2.out
          have hbw := HB1.out.trans (hb3.mono HB1.out.size)
          have HU3 := hid fun (E : Int) => And.intro (two_set (e := .int .i64 E) t1 t2 (.slice none 0 0)) (show Below w.heap.size w ((w3.setCell ⟨w.heap.size, 0, none⟩ (.slice none 0 0)).setCell ⟨w.heap.size + 1, 0, none⟩ (.int .i64 E)) from (hbw.setCell (p := ⟨w.heap.size, 0, none⟩) (Nat.le_refl _) _).setCell (p := ⟨w.heap.size + 1, 0, none⟩) (by show w.heap.size ≤ w.heap.size + 1; omega) _)
          have d1 := box_cell t1
          have g1 := box_fz t1
          have d2 := box_cell t2
          have g2 := box_fz t2
          have HT13 := hid t1
          have HT23 := hid t2
          have HBW := hid hbw
          have hu : IntKind.u64.wrap ((len : Int) - 8) = (len : Int) - 8 := by rw [IntKind.wrap_u64]; omega
          clear t1 t2 hbw hb3 hf3 c1 f1 c2 f2 HU HTK HTU HB2
          have hvl : lev L4 < 4294967296 := HV.out
          by_cases hv : lev L4 = len - 8
          · have qv : ((lev L4 : Int) != (len : Int) - 8) = false := by rw [bne_eq_false_iff_eq]; omega
            have HH0 := hid (show hcode b = 0 by rw [HHC.out, if_neg (fun h => h hv)])
            clear hv hvl
            gi_wp2_with fail
            refine ⟨trivial, fun h => (by cases h), ?_⟩
            refine (callsIn_wide.2 (each_any a len cap _)).mono ?_
            rintro e w4 ⟨rfl, rfl⟩
            gi_wp2_with fail
            have e1 := heap_alloc_new w3 (.cells #[.slice none 0 0] 34)
            have z1 : (w3.alloc (.cells #[.slice none 0 0] 34)).heap.size = w3.heap.size + 1 := by simp
            have e2 := heap_alloc_new (w3.alloc (.cells #[.slice none 0 0] 34)) (.cells #[.slice a len cap] 29)
            rw [z1] at e2
            have hlb : Below w3.heap.size w3 ((w3.alloc (.cells #[.slice none 0 0] 34)).alloc (.cells #[.slice a len cap] 29)) := (bel_new w3 _).alloc (by omega) _
            have e3 : ((w3.alloc (.cells #[.slice none 0 0] 34)).alloc (.cells #[.slice a len cap] 29)).heap[w3.heap.size]? = some (.cells #[.slice none 0 0] 34) := (RowKit.Below.heap_alloc _ _ _ (by omega)).trans e1
            have hls : ((w3.alloc (.cells #[.slice none 0 0] 34)).alloc (.cells #[.slice a len cap] 29)).heap.size = w3.heap.size + 2 := by simp
            clear e1 z1
            generalize (w3.alloc (.cells #[.slice none 0 0] 34)).alloc (.cells #[.slice a len cap] 29) = Wl at *
            have hw3 : w.heap.size + 1 < w3.heap.size := (Array.getElem?_eq_some_iff.1 HT23.out).1
            have hci0 : CI w w3.heap.size [] Wl := ⟨HBW.out.trans (hlb.mono HBW.out.size), (hlb.block _ (by omega)).trans HT13.out, (hlb.block _ hw3).trans HT23.out, ⟨none, 0, e3, World.ownsRow_nil _ _ _ _, fun _ => rfl⟩, fun _ h => by cases h⟩
            have HEA := hid (each_takes (n - 1) (w3.heap.size + 1) HLEN.out (by omega) hl5 HNIL.out Wl (by omega) (HBY.out Wl (HBW.out.trans (hlb.mono HBW.out.size))) (box_cell e2))
            have HALL := hid (show chunks b = ends (cks len (b.drop 12) 12) by unfold chunks; rw [if_pos HH0.out, HLEN.out])
            have HCL := hid (cks_length len (b.drop 12) 12)
            have HCK := hid (cks_last len (b.drop 12) 12)
            generalize cks len (b.drop 12) 12 = all at *
            have hN1 : w.heap.size + 1 < Wl.heap.size := by omega
            have hN2 : w3.heap.size < Wl.heap.size := by omega
            obtain ⟨i0, hi, hz0, hz1, hz2, hz3⟩ := info42
            clear hls e2 e3 hlb HT13 HT23 HU3 d1 g1 d2 g2 HBG HBG2 HXB hX4 HNX HHC HM hu qv HH0
            refine range_takes (by omega) (gf := 69) (lb := #[.pointer (some ⟨w3.heap.size + 1, 0, none⟩)]) rfl (enters_of Try.func69 (by kernel_rfl) rfl) HEA.out (fun _ => rfl) (CI w w3.heap.size) (fun c pre W => c = .ret ∧ CX w pre W)
              (ci_own w w3.heap.size Wl.heap.size hN1 hN2) (fun c s A B row hs hg hr => ⟨hs.1, cx_own w Wl.heap.size hN1 s A B row hs.2 hg hr⟩) (fun s A B hs ht => hs.tk hN1 hN2 ht) hci0
              (fun x a' W => ∃ g, a' = { tmps := #[Value.slice a len cap, undef, Value.pointer (some { block := w.heap.size, off := 0 }), Value.pointer (some { block := w.heap.size + 1, off := 0 }), Value.pointer (some { block := w3.heap.size, off := 0 }), Value.pointer (some { block := g, off := 0 }), Value.int IntKind.i64 ((x.2 : Nat) : Int), Value.bool false, Value.slice a len cap, Value.bool true, Value.bool false, Value.slice a len cap, Value.slice a len cap, Value.int IntKind.i64 (len : Int), Value.int IntKind.i64 8, Value.slice X m c, Value.bool true, Value.bool false, Value.bool (decide ((len : Int) < 12)), Value.slice a len cap, Value.int IntKind.i64 (len : Int), Value.bool (decide ((len : Int) < 12)), Value.bool false, Value.slice a len cap, Value.slice X4 4 c4, Value.pointer (some { block := q, off := 0 }), Value.int IntKind.u64 ((lev L4 : Nat) : Int), Value.slice a len cap, Value.int IntKind.i64 (len : Int), Value.int IntKind.i64 ((len : Int) - 8), Value.int IntKind.u64 ((len : Int) - 8), Value.bool false, Value.slice a len cap, Value.func (Fn.func 69) #[] #[Value.pointer (some { block := w3.heap.size + 1, off := 0 })], Value.agg #[Value.string (tos x.1.nm), Value.int IntKind.i64 ((x.1.at_ : Nat) : Int), Value.int IntKind.i64 ((x.1.sz : Nat) : Int)], Value.int IntKind.i64 ((x.2 : Nat) : Int), undef, undef, undef, undef, undef, undef, undef, undef], defers := [] } ∧ W.heap[g]? = some (.cells #[.string (tos x.1.nm), .int .i64 ((x.1.at_ : Nat) : Int), .int .i64 ((x.1.sz : Nat) : Int)] 42))
              (fun x a' s A B row hs hg hr => by
                obtain ⟨g, h1, h2⟩ := hs
                refine ⟨g, h1, (hg.block g (Array.getElem?_eq_some_iff.1 h2).1 fun e => ?_).trans h2⟩
                obtain ⟨o, h3, h4⟩ := (hr g e.symm).2
                rw [h2] at h3; cases h3; cases h4) ?assign ?body ?done ?stop
            case assign =>
              intro l pre x W K hI hK
              unfold encC cv
              gi_wp2_with fail
              exact hK _ _ (KeepsFrom.of_grownBy (World.grownBy_alloc W _ none) (fun j e => by cases e)) (Kt.of_below (bel_new W _)) (hI.below (bel_new W _)) ⟨W.heap.size, rfl, heap_alloc_new W _⟩
            case body =>
              rintro l pre x a' W hI ⟨g, rfl, hg⟩ hpx
              obtain ⟨ao, cap2, r1, r2, r3⟩ := hI.row
              obtain ⟨c0, c1, c2⟩ := three_cells hg
              have HI := hid hI
              by_cases hx : x.2 = 0
              · obtain ⟨xc, xe⟩ := x
                have hx2 : xe = 0 := hx
                subst hx2
                have k1 := box_cell r1
                have k2 := box_fz r1
                have hpl : pre.length + 1 ≤ len := by
                  have h9 := hpx.length_le
                  rw [List.length_append] at h9
                  have := HCL.out
                  simp only [List.length_cons, List.length_nil] at h9
                  omega
                have hb5 := bel_new W (.cells #[.string (tos xc.nm), .int .i64 ((xc.at_ : Nat) : Int), .int .i64 ((xc.sz : Nat) : Int)] 42)
                have HI5 := hid (hI.below hb5)
                have hr5 : (W.alloc (.cells #[.string (tos xc.nm), .int .i64 ((xc.at_ : Nat) : Int), .int .i64 ((xc.sz : Nat) : Int)] 42)).ownsRow w.heap.size 42 3 (.slice ao pre.length cap2) pre.length (crow (pre.map Prod.fst)) := r2.alloc _
                obtain ⟨n0, n1, n2⟩ := three_cells (heap_alloc_new W (.cells #[.string (tos xc.nm), .int .i64 ((xc.at_ : Nat) : Int), .int .i64 ((xc.sz : Nat) : Int)] 42))
                have HR5 := hid hr5
                have HR3 := hid r3
                have HB5 := hid hb5
                have HR15 := hid ((hb5.block _ (Array.getElem?_eq_some_iff.1 r1).1).trans r1)
                have hsz5 : w.heap.size ≤ (W.alloc (.cells #[.string (tos xc.nm), .int .i64 ((xc.at_ : Nat) : Int), .int .i64 ((xc.sz : Nat) : Int)] 42)).heap.size := Nat.le_trans hI.bel.size hb5.size
                clear hI r1 r2 r3 hpx hr5 hb5 hx
                gi_wp2_with ((refine wpListIn_append_own (W.alloc (.cells #[.string (tos xc.nm), .int .i64 ((xc.at_ : Nat) : Int), .int .i64 ((xc.sz : Nat) : Int)] 42)) rfl _ _ 34 rfl w.heap.size 42 i0 _ 3 32 Try.underlying34 hi hz0 hz1 hz2 hz3 (by decide) (.slice ao pre.length cap2) pre.length (crow (pre.map Prod.fst)) rfl HR5.out ⟨W.heap.size, 0, none⟩ 1 1 [.string (tos xc.nm), .int .i64 ((xc.at_ : Nat) : Int), .int .i64 ((xc.sz : Nat) : Int)] rfl rfl (news_three ⟨n0, n1, n2⟩) (by intro u hu; simp only [List.mem_cons, List.not_mem_nil, or_false] at hu; rcases hu with rfl | rfl | rfl <;> rfl) (by unfold maxLen; omega) (by omega) hsz5 ?_))
                intro v5 w5 ho5 hg5 _
                rcases ho5.2 with ⟨_, h0⟩ | ⟨g5, cap5, cur5, rfl, _⟩
                · exact absurd h0 (by omega)
                · rw [ownBlock_slice] at hg5
                  obtain ⟨p1, p2, p3, p4⟩ := HI5.out.app hw3 HR15.out HR5.out HR3.out ho5 hg5
                  have k5 := box_cell p1
                  have f5 := box_fz p1
                  have HFIN := hid (And.intro ((KeepsFrom.of_grownBy (World.grownBy_alloc W _ none) (fun j e => by cases e)).trans (p4 Wl.heap.size)) (And.intro ((Kt.of_below HB5.out).trans p3) p2))
                  clear p1 p2 p3 p4 ho5 hg5 k1 k2 c0 c1 c2 n0 n1 n2
                  gi_wp2_with fail
                  exact HFIN.out
              · have qx : ((x.2 : Int) != 0) = true := by rw [bne_iff_ne]; omega
                have ca := box_cell hI.ha
                have fa := box_fz hI.ha
                have cb := box_cell hI.hb
                have fb := box_fz hI.hb
                have hts := two_set (e := .int .i64 (x.2 : Int)) hI.ha hI.hb (.slice none 0 0)
                have hbs := (hI.bel.setCell (p := ⟨w.heap.size, 0, none⟩) (Nat.le_refl _) (.slice none 0 0)).setCell (p := ⟨w.heap.size + 1, 0, none⟩) (by show w.heap.size ≤ w.heap.size + 1; omega) (.int .i64 (x.2 : Int))
                have hkf := keeps_fr (((Fr.refl (fun k => k = w.heap.size ∨ k = w.heap.size + 1) W).setCell (p := ⟨w.heap.size, 0, none⟩) (.inl rfl) (.slice none 0 0)).setCell (p := ⟨w.heap.size + 1, 0, none⟩) (.inr rfl) (.int .i64 (x.2 : Int))) Wl.heap.size (fun k ob hx hk => by
                  rcases hx with rfl | rfl
                  · rw [hI.ha] at hk; cases hk; rfl
                  · rw [hI.hb] at hk; cases hk; rfl)
                have HFIN := hid (show KeepsFrom Wl.heap.size W ((W.setCell ⟨w.heap.size, 0, none⟩ (.slice none 0 0)).setCell ⟨w.heap.size + 1, 0, none⟩ (.int .i64 (x.2 : Int))) ∧ (Code.ret = .ret ∧ CX w (pre ++ [x]) ((W.setCell ⟨w.heap.size, 0, none⟩ (.slice none 0 0)).setCell ⟨w.heap.size + 1, 0, none⟩ (.int .i64 (x.2 : Int)))) from ⟨hkf, rfl, hbs, hts.1, pre, x.1, x.2, rfl, hx, hts.2⟩)
                clear hI hts hbs hkf hx r1 r2 r3 hpx
                gi_wp2_with fail
                exact ⟨HFIN.out.1, rfl, HFIN.out.2.2⟩
            case done =>
              rintro D W hD hI hK
              have HFIN := hid fun ao cap2 h1 h2 h3 => done_fin hI (by omega) HALL.out hK ao cap2 h1 h2 h3
              obtain ⟨ao, cap2, r1, r2, r3⟩ := hI.row
              have HF2 := hid (HFIN.out ao cap2 r1 r2 r3)
              have ca := box_cell hI.ha
              have fa := box_fz hI.ha
              have cb := box_cell hI.hb
              have fb := box_fz hI.hb
              have k1 := box_cell r1
              clear hI hK r1 r2 r3 HFIN
              gi_wp2_with fail
              obtain ⟨v1, v2, v3, v4⟩ := HF2.out
              refine ⟨by simp, .inl ⟨_, _, rfl, run_takeDeferred v3, ?_⟩⟩
              exact ⟨_, results_cells2 rfl _ _ rfl rfl (ld34 (box_cell v1)) (ld30 (box_cell v2)), v4⟩
            case stop =>
              rintro D c pre W hD hpre ⟨rfl, hbw, h1, pre', xc, e, rfl, he, h2⟩ hK
              have hc2 : chunks b = (e, []) := by rw [HALL.out, ← HCK.out pre' (xc, e) hpre he]; exact ends_bad pre' xc he
              have hD1 : w.heap.size + 1 < D := by omega
              have hR : ChP w b (.returned (.tuple #[.slice none 0 0, .int .i64 (e : Int)])) (W.putObj D (.deferred none)) := by
                unfold ChP
                rw [hc2]
                exact ⟨none, 0, rfl, World.ownsRow_nil _ _ _ _, below_put hbw (by omega) _⟩
              have v1 : (W.putObj D (.deferred none)).heap[w.heap.size]? = some (.cells #[.slice none 0 0] 34) := (World.putObj_heap_other (by omega)).trans h1
              have v2 : (W.putObj D (.deferred none)).heap[w.heap.size + 1]? = some (.cells #[.int .i64 (e : Int)] 30) := (World.putObj_heap_other (by omega)).trans h2
              have HFIN := hid (And.intro hK (And.intro v1 (And.intro v2 hR)))
              clear hK v1 v2 hR h1 h2 hc2 hpre he
              gi_wp2_with fail
              obtain ⟨hK, v1, v2, hR⟩ := HFIN.out
              refine ⟨by simp, .inl ⟨_, _, rfl, run_takeDeferred hK, ?_⟩⟩
              exact ⟨_, results_cells2 rfl _ _ rfl rfl (ld34 (box_cell v1)) (ld30 (box_cell v2)), hR⟩
          · have qv : ((lev L4 : Int) != (len : Int) - 8) = true := by rw [bne_iff_ne]; omega
            have HF := hid (chp_no (w := w) (b := b) (e := 34) (by rw [HHC.out, if_pos hv]) (by decide) (HU3.out 34).2)
            clear hv hvl
            gi_wp2_with fail
            exact ⟨_, results_cells2 rfl _ _ rfl rfl (ld34 (box_cell (HU3.out 34).1.1)) (ld30 (box_cell (HU3.out 34).1.2)), HF.out⟩
      · rw [decide_eq_false hg2]
        have HF := hid (chp_no (w := w) (b := b) (e := 50) (by unfold hcode; rw [if_pos (.inr hg2)]) (by decide) (HU.out 50).2)
        clear hg1 hg2
        gi_wp2_with fail
        exact ⟨_, results_cells2 rfl _ _ rfl rfl (ld34 (box_cell (HU.out 50).1.1)) (ld30 (box_cell (HU.out 50).1.2)), HF.out⟩
  · rw [decide_eq_false hg1]
    have HF := hid (chp_no (w := w) (b := b) (e := 50) (by unfold hcode; rw [if_pos (.inl hg1)]) (by decide) (HU.out 50).2)
    clear hg1 hX
    gi_wp2_with fail
    exact ⟨_, results_cells2 rfl _ _ rfl rfl (ld34 (box_cell (HU.out 50).1.1)) (ld30 (box_cell (HU.out 50).1.2)), HF.out⟩
theorem chunks_any {w : World} {a : Option Addr} {len cap : Nat} {b : List Nat} (hb : Byts w a b) (hlen : b.length = len) (hc : len ≤ cap) (hnil : a = none → b.length = 0 ∧ cap = 0) (hl5 : len ≤ 549755813888) :
    Calls Try.prog 14 #[.slice a len cap] w (ChP w b) := callsIn_wide.1 (chunks_in 9 (by decide) hb hlen hc hnil hl5)
end Go.Proofs.Ytkdpalmdcnpnoaa.Wv
namespace Go.Proofs.Ytkdpalmdcnpnoaa.Wv
open Go.RowKit Gen Fld

def RcP (w : World) (b : List Nat) (e : Ending) (w' : World) : Prop := ∃ ao cap, e = .returned (.tuple #[.slice ao (chunks b).2.length cap, .int .i64 ((chunks b).1 : Int)]) ∧ w'.ownsRow w.heap.size 41 3 (.slice ao (chunks b).2.length cap) (chunks b).2.length (crow (chunks b).2) ∧ Below w.heap.size w w'
theorem rcp_no {w w' : World} {b : List Nat} {e : Nat} (hc : chunks b = (e, [])) (hb : Below w.heap.size w w') : RcP w b (.returned (.tuple #[.slice none 0 0, .int .i64 (e : Int)])) w' := by
  unfold RcP
  rw [hc]
  exact ⟨none, 0, rfl, World.ownsRow_nil _ _ _ _, hb⟩
theorem chunks_head {b : List Nat} {e : Nat} (he : hcode b = e) (h0 : e ≠ 0) : chunks b = (e, []) := by unfold chunks; rw [he, if_neg h0]
theorem info41 : ∃ i, Try.prog.info? 41 = some i ∧ i.zero = some (.agg #[.string ⟨#[]⟩, .int .i64 0, .int .i64 0]) ∧ i.size = 3 ∧ i.bytes = 32 ∧ (Value.agg #[.string ⟨#[]⟩, .int .i64 0, .int .i64 0]).cells.size = 3 := by
  have h : (Try.prog.info? 41).map (fun i => (i.zero, i.size, i.bytes)) = some (some (.agg #[.string ⟨#[]⟩, .int .i64 0, .int .i64 0]), 3, 32) := by kernel_rfl
  cases hi : Try.prog.info? 41 with
  | none => rw [hi] at h; cases h
  | some i =>
    rw [hi] at h
    simp only [Option.map_some, Option.some.injEq, Prod.mk.injEq] at h
    exact ⟨i, rfl, h.1, h.2.1, h.2.2, rfl⟩
theorem bcut_run_i (a : Option Addr) (len cap p x : Nat) (hc : len ≤ cap) (hx : p + x + 4 ≤ len) (I J : Int) (hI : I = ((p + x : Nat) : Int)) (hJ : J = ((p + x + 4 : Nat) : Int)) :
    ∀ W, (Instr.sliceAt 29 (.slice a len cap) (some (.int .i64 I)) (some (.int .i64 J)) none).run Try.prog W = .ok (.slice (bcut a cap (p + x)) 4 (cap - (p + x))) W := fun W => by
  have h := bcut_run a len cap (p + x) (p + x + 4) (by omega) (by omega) W
  rw [show p + x + 4 - (p + x) = 4 from by omega] at h
  rw [hI, hJ]
  exact h
theorem three_cells1 {w : World} {g t : Nat} {v0 v1 v2 : Value} (h : w.heap[g]? = some (.cells #[v0, v1, v2] t)) : w.cell? ⟨g, 0, none⟩ = some v0 ∧ w.cell? ⟨g, 1, none⟩ = some v1 ∧ w.cell? ⟨g, 2, none⟩ = some v2 := by
  refine ⟨?_, ?_, ?_⟩ <;> (unfold World.cell?; simp only [h]; rfl)
theorem news_three1 {w : World} {g : Nat} {v0 v1 v2 : Value} (h : w.cell? ⟨g, 0, none⟩ = some v0 ∧ w.cell? ⟨g, 1, none⟩ = some v1 ∧ w.cell? ⟨g, 2, none⟩ = some v2) : ∀ j u, [v0, v1, v2][j]? = some u → w.cell? ((⟨g, 0, none⟩ : Addr).add j) = some u := by
  intro j u hj
  rw [Addr.add_lit]
  match j, hj with
  | 0, hj => cases hj; exact h.1
  | 1, hj => cases hj; exact h.2.1
  | 2, hj => cases hj; exact h.2.2
/-- Chunks so far, of the call's own. -/
structure RW (w : World) (ao : Option Addr) (cap : Nat) (l : List Chk) (w' : World) : Prop where
  row : w'.ownsRow w.heap.size 41 3 (.slice ao l.length cap) l.length (crow l)
  bel : Below w.heap.size w w'
theorem RW.keep {w A B : World} {ao : Option Addr} {cap : Nat} {l : List Chk} (h : RW w ao cap l A) (hb : Below A.heap.size A B) : RW w ao cap l B :=
  ⟨ownsRow_block h.row fun g hg => hb.block g (h.row.lt g (by rw [ownBlock_slice]; exact hg)).2, h.bel.trans (hb.mono h.bel.size)⟩
theorem RW.app {w A B : World} {ao : Option Addr} {cap : Nat} {l : List Chk} {c : Chk} {v : Value} (h : RW w ao cap l A) (ho : B.ownsRow w.heap.size 41 3 v (l.length + 1) (crow l ++ [.string (tos c.nm), .int .i64 (c.at_ : Int), .int .i64 (c.sz : Int)])) (hg : A.grownBy B (blk ao)) :
    ∃ ao' cap', v = .slice ao' (l.length + 1) cap' ∧ RW w ao' cap' (l ++ [c]) B := by
  have hbel : Below w.heap.size w B := h.bel.trans ⟨hg.os, hg.tape, hg.output, hg.size, fun k hk => hg.block k (Nat.lt_of_lt_of_le hk h.bel.size) fun e => by
    have := h.row.lt k (by rw [ownBlock_slice]; exact e.symm)
    omega⟩
  have ho2 := ho
  rcases ho.2 with ⟨_, h0⟩ | ⟨g, cap', cur, rfl, _⟩
  · omega
  · refine ⟨some ⟨g, 0, none⟩, cap', rfl, ?_, hbel⟩
    rw [crow_app, List.length_append]
    exact ho2
theorem ends_of (all : List (Chk × Nat)) (h : ∀ x ∈ all, x.2 = 0) {b : List Nat} (hc : chunks b = ends all) : chunks b = (0, all.map Prod.fst) := by rw [hc]; exact ends_good h
end Go.Proofs.Ytkdpalmdcnpnoaa.Wv
namespace Go.Proofs.Ytkdpalmdcnpnoaa.Wv
open Go.RowKit Gen Fld

theorem wr_32 {V : Nat} (h : V < 4294967296) : wrap64 (V : Int) = (V : Int) ∧ IntKind.i64.wrap (V : Int) = (V : Int) := ⟨by unfold wrap64; omega, by rw [IntKind.wrap_i64]; omega⟩
set_option maxRecDepth 20000 in
set_option maxHeartbeats 4000000 in
theorem rchunks_any {w : World} {a : Option Addr} {len cap : Nat} {b : List Nat} (hb : Byts w a b) (hlen : b.length = len) (hc : len ≤ cap) (hl5 : len ≤ 549755813888) :
    Calls Try.prog 15 #[.slice a len cap] w (RcP w b) := by
  have HBY := hid fun w' (h : Below w.heap.size w w') => hb.keep h
  have HLEN := hid hlen
  have HI1 := hid fun w' (h : Below w.heap.size w w') => (show Calls Try.prog 42 #[.slice a len cap, .int .i64 0, .string ⟨#[82, 73, 70, 70]⟩] w' fun e w2 => e = .returned (.bool (decide (Bgn (b.drop 0) [82, 73, 70, 70]))) ∧ Below w'.heap.size w' w2 from ris_any (m := [82, 73, 70, 70]) (hb.keep h) hlen rfl (by decide) (by omega) 0 (by decide))
  have HI2 := hid fun w' (h : Below w.heap.size w w') => (show Calls Try.prog 42 #[.slice a len cap, .int .i64 8, .string ⟨#[87, 65, 86, 69]⟩] w' fun e w2 => e = .returned (.bool (decide (Bgn (b.drop 8) [87, 65, 86, 69]))) ∧ Below w'.heap.size w' w2 from ris_any (m := [87, 65, 86, 69]) (hb.keep h) hlen rfl (by decide) (by omega) 8 (by decide))
  rw [List.drop_zero] at HI1
  have HNO := hid fun w' e (he : hcode b = e) (h0 : e ≠ 0) (hb : Below w.heap.size w w') => rcp_no (chunks_head he h0) hb
  clear hb hlen
  go_enter Try.func15, Try.ntmps15
  go_wp2_with fail
  refine (HI1.out _ (Below.refl _ _)).mono ?_
  rintro e w1 ⟨rfl, hb1⟩
  have HB1 := hid hb1
  clear hb1 HI1
  by_cases hg1 : Bgn b [82, 73, 70, 70]
  · rw [decide_eq_true hg1]
    go_wp2_with fail
    refine (HI2.out _ HB1.out).mono ?_
    rintro e w2 ⟨rfl, hb2⟩
    have HB2 := hid (HB1.out.trans (hb2.mono HB1.out.size))
    clear hb2 HI2 HB1
    by_cases hg2 : Bgn (b.drop 8) [87, 65, 86, 69]
    · rw [decide_eq_true hg2]
      by_cases h12 : len < 12
      · have h122 : (len : Int) < 12 := by omega
        have HF := hid (HNO.out w2 10 (by unfold hcode; rw [if_neg (by rintro (h | h) <;> exact h (by assumption)), if_pos (by have := HLEN.out; omega)]) (by decide) HB2.out)
        clear hg1 hg2 h12
        go_wp2_with fail
        go_ret2
        exact HF.out
      · have h122 : ¬ (len : Int) < 12 := by omega
        have hX4 : ∀ W, (Instr.sliceAt 29 (.slice a len cap) (some (.int .i64 4)) (some (.int .i64 8)) none).run Try.prog W = .ok (.slice (bcut a cap 4) 4 (cap - 4)) W := bcut_run a len cap 4 8 (by decide) (by omega)
        have hl4 : ((b.drop 4).take 4).length = 4 := by rw [List.length_take, List.length_drop, HLEN.out]; omega
        have hrv := rvalue_any (c := cap - 4) ((bcut_byts (HBY.out w2 HB2.out) 4 (by rw [HLEN.out]; exact hc)).take 4) (by rw [hl4]; decide)
        rw [hl4] at hrv
        have HRV := hid hrv
        have hv := lev_lt ((b.drop 4).take 4) (fun x hx => (HBY.out w (Below.refl _ _)).lt x (List.mem_of_mem_drop (List.mem_of_mem_take hx)))
        rw [hl4] at hv
        have hvl : lev ((b.drop 4).take 4) < 4294967296 := hv
        have HHC := hid (show hcode b = if lev ((b.drop 4).take 4) ≠ len - 8 then 34 else 0 by
          unfold hcode
          rw [if_neg (by rintro (h | h) <;> exact h (by assumption)), if_neg (by have := HLEN.out; omega), HLEN.out])
        clear hl4 hrv hg1 hg2 h12 hv
        generalize lev ((b.drop 4).take 4) = V at *
        generalize bcut a cap 4 = X4 at *
        generalize hc4 : cap - 4 = c4 at *
        clear hc4
        have hvw : wrap64 (V : Int) = (V : Int) := by unfold wrap64; omega
        have hvw2 : IntKind.i64.wrap (V : Int) = (V : Int) := by rw [IntKind.wrap_i64]; omega
        by_cases hv : V = len - 8
        · have qv : ((V : Int) != (len : Int) - 8) = false := by rw [bne_eq_false_iff_eq]; omega
          have HH0 := hid (show hcode b = 0 by rw [HHC.out, if_neg (fun h => h hv)])
          clear hv hvl HHC
          go_wp2_with fail
          refine HRV.out.mono ?_
          rintro e w3 ⟨rfl, rfl⟩
          go_wp2_with fail
          have HALL := hid (show chunks b = ends (cks len (b.drop 12) 12) by unfold chunks; rw [if_pos HH0.out, HLEN.out])
          have HCL := hid (cks_length len (b.drop 12) 12)
          generalize hall : cks len (b.drop 12) 12 = all at *
          have HAE := hid hall
          obtain ⟨i0, hi, hz0, hz1, hz2, hz3⟩ := info41
          have HRW0 := hid (show RW w none 0 [] w2 from ⟨World.ownsRow_nil _ _ _ _, HB2.out⟩)
          clear hall HRV hX4 HB2 hvw hvw2 qv HNO HH0
          go_loopg [4, 5, 6] (len - 12) (fun gg vo vp vi wr => ∃ (pre : List (Chk × Nat)) (r : List Nat) (p f i : Nat) (ao : Option Addr) (c : Nat), gg = r.length ∧ vo = .slice ao pre.length c ∧ vp = .int .i64 p ∧ vi = .int .i64 i ∧ i ≤ p ∧ p + r.length = len ∧ Hid (r = b.drop p) ∧ Hid (all = pre ++ cks f r p) ∧ Hid (∀ x ∈ pre, x.2 = 0) ∧ r.length ≤ f ∧ Hid (RW w ao c (pre.map Prod.fst) wr))
          case atStart => exact ⟨[], b.drop 12, 12, len, 0, none, 0, by rw [List.length_drop, HLEN.out], rfl, rfl, rfl, by decide, by rw [List.length_drop, HLEN.out]; omega, hid rfl, hid (by rw [← HAE.out]; rfl), hid (fun _ h => by cases h), by rw [List.length_drop, HLEN.out]; omega, HRW0⟩
          case round =>
            obtain ⟨pre, r, p, f, i, ao, c, hg, rfl, rfl, rfl, hip, hpr, HR, HA, HOK, hf, HRW⟩ := hrel
            have HG := hid hg
            have HF := hid hf
            clear hg hf HRW0
            by_cases hr : r = []
            · subst hr
              have hpl : p = len := by simpa using hpr
              have hge : ¬ (p : Int) < (len : Int) := by omega
              have HE := hid (show RcP w b (.returned (.tuple #[.slice ao pre.length c, .int .i64 0])) wr by
                have h1 := HA.out
                rw [cks_nil, List.append_nil] at h1
                have h2 := ends_of all (by rw [h1]; exact HOK.out) HALL.out
                unfold RcP
                rw [h2, h1]
                exact ⟨ao, c, by rw [List.length_map]; rfl, HRW.out.row, HRW.out.bel⟩)
              clear hpr
              by_cases hil : i < len
              · have hil2 : (i : Int) < (len : Int) := by omega
                clear hpl hip hil
                go_wp2_with fail
                go_ret2
                exact HE.out
              · have hil2 : ¬ (i : Int) < (len : Int) := by omega
                clear hpl hip hil
                go_wp2_with fail
                go_ret2
                exact HE.out
            · have hr0 := List.length_pos_iff.2 hr
              have HNE := hid hr
              clear hr
              have hlt : (p : Int) < (len : Int) := by omega
              have hil : (i : Int) < (len : Int) := by omega
              have HEB := hid (show ∀ e, ncode r = e → e ≠ 0 → RcP w b (.returned (.tuple #[.slice none 0 0, .int .i64 (e : Int)])) wr from fun e he h0 => by
                have h1 := HA.out
                rw [cks_bad HF.out HNE.out (by omega), he] at h1
                exact rcp_no (by rw [HALL.out, h1]; exact ends_bad pre _ h0) HRW.out.bel)
              by_cases h8 : r.length < 8
              · have h82 : (len : Int) - (p : Int) < 8 := by omega
                have HE := hid (HEB.out 10 (ncode_short h8) (by decide))
                clear h8 hpr hip
                go_wp2_with fail
                go_ret2
                exact HE.out
              · have h82 : ¬ (len : Int) - (p : Int) < 8 := by omega
                have hX := bcut_run_i a len cap p 4 hc (by omega) ((p : Int) + 4) ((p : Int) + 8) (by omega) (by omega)
                have hXp : ∀ W, (Instr.sliceAt 29 (.slice a len cap) (some (.int .i64 (p : Int))) (some (.int .i64 ((p : Int) + 4))) none).run Try.prog W = .ok (.slice (bcut a cap p) 4 (cap - p)) W := bcut_run_i a len cap p 0 hc (by omega) (p : Int) ((p : Int) + 4) rfl (by omega)
                have hby := HBY.out wr HRW.out.bel
                have hl4 : ((b.drop (p + 4)).take 4).length = 4 := by rw [List.length_take, List.length_drop, HLEN.out]; omega
                have hl0 : (r.take 4).length = 4 := by rw [List.length_take]; omega
                have hrv := rvalue_any (c := cap - (p + 4)) ((bcut_byts hby (p + 4) (by rw [HLEN.out]; exact hc)).take 4) (by rw [hl4]; decide)
                have hcv := Byts.conv (by have h9 := (bcut_byts hby p (by rw [HLEN.out]; exact hc)).take 4; rw [← HR.out] at h9; exact h9) (cap - p)
                rw [hl4, show lev ((b.drop (p + 4)).take 4) = nsz4 r by unfold nsz4; rw [HR.out, List.drop_drop]] at hrv
                rw [hl0] at hcv
                have hVl : nsz4 r < 4294967296 := by
                  have h9 := lev_lt ((r.drop 4).take 4) (fun x hx => by
                    have h7 := List.mem_of_mem_drop (List.mem_of_mem_take hx)
                    rw [HR.out] at h7
                    exact hby.lt x (List.mem_of_mem_drop h7))
                  have h6 : ((r.drop 4).take 4).length = 4 := by rw [List.length_take, List.length_drop]; omega
                  rw [h6] at h9; exact h9
                obtain ⟨V, hVN⟩ : ∃ V, V = nsz4 r := ⟨_, rfl⟩
                rw [← hVN] at hrv hVl
                have HRV := hid hrv
                obtain ⟨E, hE⟩ : ∃ E, E = p + nlen r := ⟨_, rfl⟩
                have hEE : E = p + 8 + V + V % 2 := by rw [hE]; unfold nlen; rw [← hVN]; omega
                have HEE := hid hE
                have hEI : (p : Int) + 8 + (V : Int) + (V : Int) % 2 = (E : Int) := by omega
                have hEb : (E : Int) ≤ 9223372036854775000 := by omega
                have hrb := hby.at_
                have HVW := hid (wr_32 hVl)
                clear hrv hl4 hl0 h8
                by_cases hEL : len < E
                · have hEL2 : (len : Int) < (E : Int) := by omega
                  have HE := hid (HEB.out 10 (by unfold ncode; rw [if_pos (by omega)]) (by decide))
                  clear hpr hip hby hEE hVN hE hrb hEL
                  go_wp2_with fail
                  refine HRV.out.mono ?_
                  rintro e w4 ⟨rfl, rfl⟩
                  have hVw := HVW.out.2
                  go_wp2_with fail
                  go_ret2
                  exact HE.out
                · have hEL2 : ¬ (len : Int) < (E : Int) := by omega
                  have HEL := hid (show E ≤ len by omega)
                  have hNC : ncode r = if V % 2 = 1 ∧ r[8 + V]? ≠ some 0 then 11 else 0 := by unfold ncode; rw [if_neg (by omega), ← hVN]
                  by_cases hodd : V % 2 = 1
                  · have qo : ((V : Int) % 2 == 1) = true := by rw [beq_iff_eq]; omega
                    obtain ⟨x, hx⟩ : ∃ x, b[E - 1]? = some x := ⟨_, List.getElem?_eq_getElem (by rw [HLEN.out]; omega)⟩
                    obtain ⟨bb, off, rfl, hcx⟩ := hrb _ x hx
                    have hrx : r[8 + V]? = some x := by rw [HR.out, List.getElem?_drop, ← hx]; congr 1; omega
                    have htn : ((E : Int) - 1).toNat = E - 1 := by omega
                    have hE1 : (0 : Int) ≤ (E : Int) - 1 := by omega
                    have hE2 : (E : Int) - 1 < (len : Int) := by omega
                    by_cases hx0 : x = 0
                    · subst hx0
                      have HN0 := hid (show ncode r = 0 by rw [hNC, if_neg (by rw [hrx]; simp)])
                      clear hby hEE hE hrb hEL hNC hx hrx hodd
                      go_wp2_with fail
                      refine HRV.out.mono ?_
                      rintro e w4 ⟨rfl, rfl⟩
                      have hVw := HVW.out.2
                      have hA2 := HA.out
                      rw [cks_good HF.out HNE.out HN0.out] at hA2
                      have HA2 := hid (show all = (pre ++ [(nchk r p, 0)]) ++ cks (f - 1) (r.drop (nlen r)) (p + nlen r) by rw [hA2]; simp)
                      have HOK2 := hid (show ∀ x ∈ pre ++ [(nchk r p, 0)], x.2 = 0 from fun x hx => by
                        rcases List.mem_append.1 hx with hx | hx
                        · exact HOK.out x hx
                        · rw [List.mem_singleton.1 hx])
                      have hpl : pre.length + 1 ≤ len := by
                        have h1 := congrArg List.length hA2
                        have := HCL.out
                        simp only [List.length_append, List.length_cons] at h1
                        omega
                      have hb5 := bel_new wr (.cells #[.string (tos (r.take 4)), .int .i64 ((p : Int) + 8), .int .i64 (V : Int)] 41)
                      have HR5 := hid (HRW.out.keep hb5)
                      obtain ⟨n0, n1, n2⟩ := three_cells1 (heap_alloc_new wr (.cells #[.string (tos (r.take 4)), .int .i64 ((p : Int) + 8), .int .i64 (V : Int)] 41))
                      have hr5 := HR5.out.row
                      rw [List.length_map] at hr5
                      have HO5 := hid hr5
                      have hs5 := HR5.out.bel.size
                      have HVN := hid hVN
                      clear hA2 hb5 hr5 hVN
                      go_wp2_with (at_builtin; (refine wpList_append_own (wr.alloc (.cells #[.string (tos (r.take 4)), .int .i64 ((p : Int) + 8), .int .i64 (V : Int)] 41)) rfl _ _ 37 rfl w.heap.size 41 i0 _ 3 32 Try.underlying37 hi hz0 hz1 hz2 hz3 (by decide) (.slice ao pre.length c) pre.length (crow (pre.map Prod.fst)) rfl HO5.out ⟨wr.heap.size, 0, none⟩ 1 1 [.string (tos (r.take 4)), .int .i64 ((p : Int) + 8), .int .i64 (V : Int)] rfl rfl (news_three1 ⟨n0, n1, n2⟩) (by intro u hu; simp only [List.mem_cons, List.not_mem_nil, or_false] at hu; rcases hu with rfl | rfl | rfl <;> rfl) (by unfold maxLen; omega) (by omega) hs5 ?_))
                      intro v5 w5 ho5 hg5 _
                      rw [ownBlock_slice] at hg5
                      have hap := HR5.out.app (c := nchk r p) (v := v5) (B := w5) (by rw [List.length_map]; unfold nchk; rw [← HVN.out]; exact ho5) hg5
                      rw [List.length_map] at hap
                      obtain ⟨a5, c5, rfl, hrw5⟩ := hap
                      have HRW5 := hid (show RW w a5 c5 ((pre ++ [(nchk r p, 0)]).map Prod.fst) w5 by rw [List.map_append]; exact hrw5)
                      clear ho5 hg5 hrw5 n0 n1 n2 hs5
                      go_wp2_with fail
                      go_roundg (r.drop (nlen r)).length
                      case measure => rw [HG.out, List.length_drop]; have := nlen_8 r; omega
                      case rel => exact ⟨pre ++ [(nchk r p, 0)], r.drop (nlen r), p + nlen r, f - 1, i + 1, a5, c5, rfl, by rw [List.length_append]; rfl, by rw [HEE.out], by go_num, by have := nlen_8 r; omega, by rw [List.length_drop]; have := HEL.out; have := HEE.out; clear hVw; omega, hid (by rw [HR.out, List.drop_drop]), HA2, HOK2, drop_fuel HF.out, HRW5⟩
                    · have qx : ((x : Int) != 0) = true := by rw [bne_iff_ne]; omega
                      have HE := hid (HEB.out 11 (by rw [hNC, if_pos ⟨hodd, by rw [hrx]; intro e; cases e; exact hx0 rfl⟩]) (by decide))
                      clear hpr hip hby hEE hVN hE hrb hEL hNC hx hrx hodd hx0
                      go_wp2_with fail
                      refine HRV.out.mono ?_
                      rintro e w4 ⟨rfl, rfl⟩
                      have hVw := HVW.out.2
                      go_wp2_with fail
                      go_ret2
                      exact HE.out
                  · have qo : ((V : Int) % 2 == 1) = false := by rw [beq_eq_false_iff_ne]; omega
                    have HN0 := hid (show ncode r = 0 by rw [hNC, if_neg (fun h => hodd h.1)])
                    clear hby hEE hE hrb hEL hNC hodd
                    go_wp2_with fail
                    refine HRV.out.mono ?_
                    rintro e w4 ⟨rfl, rfl⟩
                    have hVw := HVW.out.2
                    have hA2 := HA.out
                    rw [cks_good HF.out HNE.out HN0.out] at hA2
                    have HA2 := hid (show all = (pre ++ [(nchk r p, 0)]) ++ cks (f - 1) (r.drop (nlen r)) (p + nlen r) by rw [hA2]; simp)
                    have HOK2 := hid (show ∀ x ∈ pre ++ [(nchk r p, 0)], x.2 = 0 from fun x hx => by
                      rcases List.mem_append.1 hx with hx | hx
                      · exact HOK.out x hx
                      · rw [List.mem_singleton.1 hx])
                    have hpl : pre.length + 1 ≤ len := by
                      have h1 := congrArg List.length hA2
                      have := HCL.out
                      simp only [List.length_append, List.length_cons] at h1
                      omega
                    have hb5 := bel_new wr (.cells #[.string (tos (r.take 4)), .int .i64 ((p : Int) + 8), .int .i64 (V : Int)] 41)
                    have HR5 := hid (HRW.out.keep hb5)
                    obtain ⟨n0, n1, n2⟩ := three_cells1 (heap_alloc_new wr (.cells #[.string (tos (r.take 4)), .int .i64 ((p : Int) + 8), .int .i64 (V : Int)] 41))
                    have hr5 := HR5.out.row
                    rw [List.length_map] at hr5
                    have HO5 := hid hr5
                    have hs5 := HR5.out.bel.size
                    have HVN := hid hVN
                    clear hA2 hb5 hr5 hVN
                    go_wp2_with (at_builtin; (refine wpList_append_own (wr.alloc (.cells #[.string (tos (r.take 4)), .int .i64 ((p : Int) + 8), .int .i64 (V : Int)] 41)) rfl _ _ 37 rfl w.heap.size 41 i0 _ 3 32 Try.underlying37 hi hz0 hz1 hz2 hz3 (by decide) (.slice ao pre.length c) pre.length (crow (pre.map Prod.fst)) rfl HO5.out ⟨wr.heap.size, 0, none⟩ 1 1 [.string (tos (r.take 4)), .int .i64 ((p : Int) + 8), .int .i64 (V : Int)] rfl rfl (news_three1 ⟨n0, n1, n2⟩) (by intro u hu; simp only [List.mem_cons, List.not_mem_nil, or_false] at hu; rcases hu with rfl | rfl | rfl <;> rfl) (by unfold maxLen; omega) (by omega) hs5 ?_))
                    intro v5 w5 ho5 hg5 _
                    rw [ownBlock_slice] at hg5
                    have hap := HR5.out.app (c := nchk r p) (v := v5) (B := w5) (by rw [List.length_map]; unfold nchk; rw [← HVN.out]; exact ho5) hg5
                    rw [List.length_map] at hap
                    obtain ⟨a5, c5, rfl, hrw5⟩ := hap
                    have HRW5 := hid (show RW w a5 c5 ((pre ++ [(nchk r p, 0)]).map Prod.fst) w5 by rw [List.map_append]; exact hrw5)
                    clear ho5 hg5 hrw5 n0 n1 n2 hs5
                    go_wp2_with fail
                    go_roundg (r.drop (nlen r)).length
                    case measure => rw [HG.out, List.length_drop]; have := nlen_8 r; omega
                    case rel => exact ⟨pre ++ [(nchk r p, 0)], r.drop (nlen r), p + nlen r, f - 1, i + 1, a5, c5, rfl, by rw [List.length_append]; rfl, by rw [HEE.out], by go_num, by have := nlen_8 r; omega, by rw [List.length_drop]; have := HEL.out; have := HEE.out; clear hVw; omega, hid (by rw [HR.out, List.drop_drop]), HA2, HOK2, drop_fuel HF.out, HRW5⟩
        · have qv : ((V : Int) != (len : Int) - 8) = true := by rw [bne_iff_ne]; omega
          have HF := hid (HNO.out w2 34 (by rw [HHC.out, if_pos hv]) (by decide) HB2.out)
          clear hv hvl HHC
          go_wp2_with fail
          refine HRV.out.mono ?_
          rintro e w3 ⟨rfl, rfl⟩
          go_wp2_with fail
          go_ret2
          exact HF.out
    · rw [decide_eq_false hg2]
      have HF := hid (HNO.out w2 50 (by unfold hcode; rw [if_pos (.inr hg2)]) (by decide) HB2.out)
      clear hg1 hg2
      go_wp2_with fail
      go_ret2
      exact HF.out
  · rw [decide_eq_false hg1]
    have HF := hid (HNO.out w1 50 (by unfold hcode; rw [if_pos (.inl hg1)]) (by decide) HB1.out)
    clear hg1
    go_wp2_with fail
    go_ret2
    exact HF.out
end Go.Proofs.Ytkdpalmdcnpnoaa.Wv
namespace Go.Proofs.Ytkdpalmdcnpnoaa.Wv
open Go.RowKit Gen Fld

/-- A row of chunks, place by place. -/
theorem row_at {w : World} {base t : Nat} {ao : Option Addr} {cap : Nat} {l : List Chk} (h : w.ownsRow base t 3 (.slice ao l.length cap) l.length (crow l)) : (l.length ≤ cap ∧ cap ≤ maxLen) ∧ (l.length = 0 ∨ ∃ g, ao = some ⟨g, 0, none⟩ ∧ g < w.heap.size ∧ base ≤ g ∧ ∀ (i : Nat) (c : Chk), l[i]? = some c → w.cell? ⟨g, i * 3, none⟩ = some (.string (tos c.nm)) ∧ w.cell? ⟨g, i * 3 + 1, none⟩ = some (.int .i64 (c.at_ : Int)) ∧ w.cell? ⟨g, i * 3 + 2, none⟩ = some (.int .i64 (c.sz : Int))) := by
  rcases h.2 with ⟨hv, h0⟩ | ⟨g, c, cur, hv, q1, q2, q3, q4, _⟩
  · injection hv with _ _ e3
    subst e3
    exact ⟨⟨by omega, Nat.zero_le _⟩, .inl h0⟩
  · injection hv with e1 _ e3
    subst e1 e3
    refine ⟨⟨q3, q4⟩, .inr ⟨g, rfl, (Array.getElem?_eq_some_iff.1 q2).1, q1, fun i c hi => ?_⟩⟩
    obtain ⟨h1, h2, h3⟩ := crow_at l i c hi
    have f := h.cells (g := g) rfl
    refine ⟨?_, ?_, ?_⟩
    · have := f _ _ h1; rwa [Addr.add_lit, Nat.zero_add] at this
    · have := f _ _ h2; rwa [Addr.add_lit, Nat.zero_add] at this
    · have := f _ _ h3; rwa [Addr.add_lit, Nat.zero_add] at this
set_option maxRecDepth 20000 in
set_option maxHeartbeats 2000000 in
theorem chunks_walk (w : World) {a : Option Addr} {len cap : Nat} {b : List Nat} (hb : Byts w a b) (hlen : b.length = len) (hc : len ≤ cap) (hnil : a = none → b.length = 0 ∧ cap = 0) :
    Calls Try.prog 4 #[.slice a len cap] w fun e w' => e = .returned (.bool true) ∧ Below w.heap.size w w' := by
  have HKN := hid fun w' => known_true w'
  by_cases h5 : 500 < len
  · have h52 : (500 : Int) < (len : Int) := by omega
    clear hb hlen hc hnil h5
    go_enter Try.func4, Try.ntmps4
    go_wp2_with fail
    refine (HKN.out _).mono ?_
    rintro e w1 ⟨rfl, hb1⟩
    have HF := hid hb1
    clear hb1
    go_wp2_with fail
    go_ret
    exact ⟨rfl, HF.out⟩
  · have h52 : ¬ (500 : Int) < (len : Int) := by omega
    have HC1 := hid (chunks_any hb hlen hc hnil (by omega))
    have HC2 := hid fun w' (h : Below w.heap.size w w') => rchunks_any (hb.keep h) hlen hc (by omega)
    unfold ChP at HC1
    unfold RcP at HC2
    clear hb hlen hc hnil h5
    generalize (chunks b).1 = E at *
    generalize (chunks b).2 = l at *
    go_enter Try.func4, Try.ntmps4
    go_wp2_with fail
    refine HC1.out.mono ?_
    rintro e w1 ⟨ao, c1, rfl, hr1, hb1⟩
    have HR1 := hid hr1
    have HB1 := hid hb1
    clear hr1 hb1 HC1
    go_wp2_with fail
    refine (HC2.out w1 HB1.out).mono ?_
    rintro e w2 ⟨bo, c2, rfl, hr2, hb2⟩
    have hr3 := ownsRow_block HR1.out fun g hg => hb2.block g (HR1.out.lt g (by rw [ownBlock_slice]; exact hg)).2
    have HB2 := hid (HB1.out.trans (hb2.mono HB1.out.size))
    have HA := hid (row_at hr3)
    have HC := hid (row_at hr2)
    have hl1 := HA.out.1.1
    have hl2 := HA.out.1.2
    have hl3 : l.length ≤ 9223372036854775807 := by unfold maxLen at hl2; omega
    clear hl1 hl2
    clear hr2 hr3 hb2 HR1 HC2 HB1
    go_wp2_with fail
    go_loopg [7] l.length (fun gg vi wr => ∃ i : Nat, i ≤ l.length ∧ gg = l.length - i ∧ vi = .int .i64 i ∧ Below w2.heap.size w2 wr)
    case atStart => exact ⟨0, Nat.zero_le _, rfl, rfl, Below.refl _ _⟩
    case round =>
      obtain ⟨i, hi, hg, rfl, hbr⟩ := hrel
      have HG := hid hg
      have HBR := hid hbr
      clear hg hbr
      by_cases hlt : i < l.length
      · have hlt2 : (i : Int) < (l.length : Int) := by omega
        obtain ⟨x, hx⟩ : ∃ x, l[i]? = some x := ⟨_, List.getElem?_eq_getElem hlt⟩
        rcases HA.out.2 with h0 | ⟨g1, rfl, hg1, _, hf1⟩
        · omega
        · rcases HC.out.2 with h0 | ⟨g2, rfl, hg2, _, hf2⟩
          · omega
          · obtain ⟨x0, x1, x2⟩ := hf1 i x hx
            obtain ⟨y0, y1, y2⟩ := hf2 i x hx
            have X0 := (HBR.out.cell (p := ⟨g1, i * 3, none⟩) hg1).trans x0
            have X1 := (HBR.out.cell (p := ⟨g1, i * 3 + 1, none⟩) hg1).trans x1
            have X2 := (HBR.out.cell (p := ⟨g1, i * 3 + 2, none⟩) hg1).trans x2
            have Y0 := (HBR.out.cell (p := ⟨g2, i * 3, none⟩) hg2).trans y0
            have Y1 := (HBR.out.cell (p := ⟨g2, i * 3 + 1, none⟩) hg2).trans y1
            have Y2 := (HBR.out.cell (p := ⟨g2, i * 3 + 2, none⟩) hg2).trans y2
            clear x0 x1 x2 y0 y1 y2 hf1 hf2 hx
            generalize tos x.nm = S at *
            generalize ((x.at_ : Nat) : Int) = I at *
            generalize ((x.sz : Nat) : Int) = J at *
            go_wp2_with fail
            go_quiet (fail)
            have hbq : Below wr.heap.size wr (wr.drewN nq) := ⟨rfl, rfl, rfl, Nat.le_refl _, fun _ _ => rfl⟩
            have HBQ := hid (HBR.out.trans (hbq.mono HBR.out.size))
            clear hbq X0 X1 X2 Y0 Y1 Y2
            go_wp2_with fail
            go_roundg (l.length - (i + 1))
            case measure => rw [HG.out]; omega
            case rel => exact ⟨i + 1, by omega, rfl, by go_num, HBQ.out⟩
      · have hge : ¬ (i : Int) < (l.length : Int) := by omega
        go_wp2_with fail
        refine (HKN.out _).mono ?_
        rintro e w4 ⟨rfl, hb4⟩
        have hbr := HBR.out
        have HF := hid ((HB2.out.trans (hbr.mono HB2.out.size)).trans (hb4.mono (Nat.le_trans HB2.out.size hbr.size)))
        clear hb4 hbr
        go_wp2_with fail
        go_ret
        exact ⟨rfl, HF.out⟩
end Go.Proofs.Ytkdpalmdcnpnoaa.Wv
