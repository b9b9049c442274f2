/- The arithmetic of wav: rests, quotients, widths, pads, of both sides. Conditions: those that each lemma names. -/
import Derived.Test.YtkdpalmdcnpnoaaTa4
import Derived.WalkKit
import Derived.Handy
import Derived.Lib.SlBytesConst
import Derived.BigQuiet
import Derived.Deep.QuietTactic
import Derived.StillTailTactics
import Derived.Test.YtkdpalmdcnpnoaaRi
import Derived.Deep.RegionHeld3
import Derived.Test.YtkdpalmdcnpnoaaKn
import Derived.Test.YtkdpalmdcnpnoaaCm
import Derived.Test.YtkdpalmdcnpnoaaQc
import Derived.Test.YtkdpalmdcnpnoaaLe
import Derived.Deep.LoopGhost
import Derived.Test.YtkdpalmdcnpnoaaRef2
import Derived.Laws.IdiomCopy
import Derived.Test.YtkdpalmdcnpnoaaLa
import Derived.Test.YtkdpalmdcnpnoaaSm
namespace Go.Proofs.Ytkdpalmdcnpnoaa.Wv
open Go.RowKit Gen

/-- How many bytes a sample of so many bits has. -/
def wd (n : Int) : Nat := if n < 8 ∨ 24 < n then 0 else if n = 8 then 1 else if n ≤ 16 then 2 else 3
theorem tmod_lt {a : Int} {b : Nat} (hb : 1 ≤ b) (h : a.tmod (b : Int) < 0) : a % (b : Int) = a.tmod (b : Int) + (b : Int) := by
  have h1 := Int.tmod_eq_emod (a := a) (b := (b : Int))
  have h2 : 0 ≤ a % (b : Int) := Int.emod_nonneg _ (by omega)
  split at h1
  · omega
  · rw [Int.natAbs_natCast] at h1; omega
theorem tmod_ge {a : Int} {b : Nat} (hb : 1 ≤ b) (h : ¬ a.tmod (b : Int) < 0) : a % (b : Int) = a.tmod (b : Int) := by
  have h1 := Int.tmod_eq_emod (a := a) (b := (b : Int))
  have h2 : a % (b : Int) < (b : Int) := Int.emod_lt_of_pos _ (by omega)
  split at h1
  · omega
  · rw [Int.natAbs_natCast] at h1; omega
set_option maxRecDepth 20000 in
theorem mod_any (a : Int) (b : Nat) (hb : 1 ≤ b) (hb2 : (b : Int) ≤ 4611686018427387904) (w : World) : Calls Try.prog 65 #[.int .i64 a, .int .i64 (b : Int)] w fun e w' => e = .returned (.int .i64 (a % (b : Int))) ∧ w = w' := by
  have h1 : ¬ (b : Int) < 1 := by omega
  have h0 : ¬ (b : Int) = 0 := by omega
  have HL := hid (tmod_lt (a := a) hb)
  have HG := hid (tmod_ge (a := a) hb)
  have hlo : -(b : Int) < a.tmod (b : Int) := by
    have h2 := Int.lt_tmod_of_pos a (show (0 : Int) < (b : Int) by omega)
    exact h2
  by_cases hn : a.tmod (b : Int) < 0
  · have HE := hid (HL.out hn)
    clear HL HG
    generalize a % (b : Int) = R at *
    go_enter Try.func65, Try.ntmps65
    go_wp2_with fail
    go_ret
    exact ⟨by rw [HE.out]; rfl, rfl⟩
  · have HE := hid (HG.out hn)
    clear HL HG
    generalize a % (b : Int) = R at *
    go_enter Try.func65, Try.ntmps65
    go_wp2_with fail
    go_ret
    exact ⟨by rw [HE.out]; rfl, rfl⟩
set_option maxRecDepth 20000 in
theorem rmod_any (a : Int) (b : Nat) (hb : 1 ≤ b) (hb2 : (b : Int) ≤ 4611686018427387904) (w : World) : Calls Try.prog 77 #[.int .i64 a, .int .i64 (b : Int)] w fun e w' => e = .returned (.int .i64 (a % (b : Int))) ∧ w = w' := by
  have h1 : ¬ (b : Int) < 1 := by omega
  have h0 : ¬ (b : Int) = 0 := by omega
  have HL := hid (tmod_lt (a := a) hb)
  have HG := hid (tmod_ge (a := a) hb)
  have hlo : -(b : Int) < a.tmod (b : Int) := by
    have h2 := Int.lt_tmod_of_pos a (show (0 : Int) < (b : Int) by omega)
    exact h2
  by_cases hn : a.tmod (b : Int) < 0
  · have HE := hid (HL.out hn)
    clear HL HG
    generalize a % (b : Int) = R at *
    go_enter Try.func77, Try.ntmps77
    go_wp2_with fail
    go_ret
    exact ⟨by rw [HE.out]; rfl, rfl⟩
  · have HE := hid (HG.out hn)
    clear HL HG
    generalize a % (b : Int) = R at *
    go_enter Try.func77, Try.ntmps77
    go_wp2_with fail
    go_ret
    exact ⟨by rw [HE.out]; rfl, rfl⟩
set_option maxRecDepth 20000 in
theorem floor8_any (n : Int) (h1 : 8 ≤ n) (h2 : n ≤ 24) (w : World) : Calls Try.prog 37 #[.int .i64 (n + 7), .int .i64 8] w fun e w' => e = .returned (.int .i64 (wd n : Int)) ∧ w = w' := by
  have hr : ¬ (n + 7) % 8 < 0 := by omega
  have hq : (n + 7) / 8 = (wd n : Int) := by
    unfold wd
    split
    · omega
    · split
      · omega
      · split <;> omega
  have HQ := hid hq
  clear hq
  go_enter Try.func37, Try.ntmps37
  go_wp2_with fail
  go_ret
  refine ⟨?_, rfl⟩
  show Ending.returned (.int .i64 ((n + 7) / 8)) = _
  rw [HQ.out]
set_option maxRecDepth 20000 in
theorem width_any (n : Int) (w : World) : Calls Try.prog 12 #[.int .i64 n] w fun e w' => e = .returned (.int .i64 (wd n : Int)) ∧ w = w' := by
  by_cases h1 : n < 8
  · have HW := hid (show (wd n : Int) = 0 by unfold wd; rw [if_pos (.inl h1)]; rfl)
    go_enter Try.func12, Try.ntmps12
    go_wp2_with fail
    go_ret
    exact ⟨by rw [HW.out]; rfl, rfl⟩
  · by_cases h2 : 24 < n
    · have HW := hid (show (wd n : Int) = 0 by unfold wd; rw [if_pos (.inr h2)]; rfl)
      go_enter Try.func12, Try.ntmps12
      go_wp2_with fail
      go_ret
      exact ⟨by rw [HW.out]; rfl, rfl⟩
    · have HF := hid (floor8_any n (by omega) (by omega))
      have e7 : n + 8 - 1 = n + 7 := by omega
      go_enter Try.func12, Try.ntmps12
      go_wp2_with fail
      refine (HF.out _).mono ?_
      rintro e w1 ⟨rfl, rfl⟩
      go_wp2_with fail
      go_ret
      exact ⟨rfl, rfl⟩
set_option maxRecDepth 20000 in
theorem rwidth_any (n : Int) (w : World) : Calls Try.prog 13 #[.int .i64 n] w fun e w' => e = .returned (.int .i64 (wd n : Int)) ∧ w = w' := by
  by_cases h1 : n < 8
  · have HW := hid (show (wd n : Int) = 0 by unfold wd; rw [if_pos (.inl h1)]; rfl)
    go_enter Try.func13, Try.ntmps13
    go_wp2_with fail
    go_ret
    exact ⟨by rw [HW.out]; rfl, rfl⟩
  · by_cases h2 : 24 < n
    · have HW := hid (show (wd n : Int) = 0 by unfold wd; rw [if_pos (.inr h2)]; rfl)
      go_enter Try.func13, Try.ntmps13
      go_wp2_with fail
      go_ret
      exact ⟨by rw [HW.out]; rfl, rfl⟩
    · by_cases h3 : n = 8
      · subst h3
        go_enter Try.func13, Try.ntmps13
        go_wp2_with fail
        go_ret
        exact ⟨rfl, rfl⟩
      · have q3 : (n == 8) = false := by rw [beq_eq_false_iff_ne]; exact h3
        by_cases h4 : n ≤ 16
        · have HW := hid (show (wd n : Int) = 2 by unfold wd; rw [if_neg (by omega), if_neg h3, if_pos h4]; rfl)
          go_enter Try.func13, Try.ntmps13
          go_wp2_with fail
          go_ret
          exact ⟨by rw [HW.out]; rfl, rfl⟩
        · have HW := hid (show (wd n : Int) = 3 by unfold wd; rw [if_neg (by omega), if_neg h3, if_neg h4]; rfl)
          go_enter Try.func13, Try.ntmps13
          go_wp2_with fail
          go_ret
          exact ⟨by rw [HW.out]; rfl, rfl⟩
set_option maxRecDepth 20000 in
theorem pad_any (n : Nat) (w : World) : Calls Try.prog 35 #[.int .i64 (n : Int)] w fun e w' => e = .returned (.int .i64 ((n % 2 : Nat) : Int)) ∧ w = w' := by
  have h1 := mod_any (n : Int) 2 (by decide) (by decide)
  rw [show ((n : Int) % ((2 : Nat) : Int)) = ((n % 2 : Nat) : Int) by omega] at h1
  have HM := hid h1
  clear h1
  generalize n % 2 = r at *
  go_enter Try.func35, Try.ntmps35
  go_wp2_with fail
  refine (HM.out _).mono ?_
  rintro e w1 ⟨rfl, rfl⟩
  go_wp2_with fail
  go_ret
  exact ⟨rfl, rfl⟩
set_option maxRecDepth 20000 in
theorem long_any (n : Nat) (hn : n ≤ 4611686018427387904) (w : World) : Calls Try.prog 29 #[.int .i64 (n : Int)] w fun e w' => e = .returned (.int .i64 ((8 + n + n % 2 : Nat) : Int)) ∧ w = w' := by
  have HP := hid (pad_any n)
  have hr : n % 2 < 2 := Nat.mod_lt _ (by decide)
  generalize n % 2 = r at *
  go_enter Try.func29, Try.ntmps29
  go_wp2_with fail
  refine (HP.out _).mono ?_
  rintro e w1 ⟨rfl, rfl⟩
  go_wp2_with fail
  go_ret
  refine ⟨?_, rfl⟩
  go_num
set_option maxRecDepth 20000 in
theorem free_any (n : Int) (h1 : 8 ≤ n) (h2 : n ≤ 24) (w : World) : Calls Try.prog 64 #[.int .i64 n] w fun e w' => e = .returned (.int .i64 (8 * (wd n : Int) - n)) ∧ w = w' := by
  have HW := hid (width_any n)
  have hd : wd n ≤ 3 := by unfold wd; split; · omega
                           · split; · omega
                             · split <;> omega
  generalize wd n = d at *
  go_enter Try.func64, Try.ntmps64
  go_wp2_with fail
  refine (HW.out _).mono ?_
  rintro e w1 ⟨rfl, rfl⟩
  go_wp2_with fail
  go_ret
  exact ⟨rfl, rfl⟩
end Go.Proofs.Ytkdpalmdcnpnoaa.Wv
namespace Go.Proofs.Ytkdpalmdcnpnoaa.Wv
open Go.RowKit Gen Fld

theorem bel_new (w : World) (o : Obj) : Below w.heap.size w (w.alloc o) := (Below.refl _ _).alloc (Nat.le_refl _) _
theorem own_at {w : World} {base : Nat} {e size : Nat} {ao : Option Addr} {n cap : Nat} {xs : List Value} (h : w.ownsRow base e size (.slice ao n cap) n xs) :
    (ao = none ∧ n = 0 ∧ cap = 0) ∨ ∃ g, ao = some ⟨g, 0, none⟩ ∧ base ≤ g ∧ g < w.heap.size ∧ n ≤ cap := by
  rcases h.2 with ⟨hv, h0⟩ | ⟨g, c, cur, hv, q1, q2, q3, _⟩
  · cases hv; exact .inl ⟨rfl, rfl, rfl⟩
  · cases hv
    refine .inr ⟨g, rfl, q1, ?_, q3⟩
    rcases Nat.lt_or_ge g w.heap.size with hlt | hge
    · exact hlt
    · rw [Array.getElem?_eq_none hge] at q2; cases q2
theorem uerr_four (v : Nat) (h : v < 4294967296) : uErr v 4 = 0 := by
  unfold uErr
  rw [if_neg (by omega), if_neg]
  have : (2 : Nat) ^ (8 * (4 : Int).toNat) = 4294967296 := by decide
  omega
theorem uerr_one (v : Nat) (h : v < 256) : uErr v 1 = 0 := by
  unfold uErr
  rw [if_neg (by omega), if_neg]
  have : (2 : Nat) ^ (8 * (1 : Int).toNat) = 256 := by decide
  omega
theorem uerr_two (v : Nat) (h : v < 65536) : uErr v 2 = 0 := by
  unfold uErr
  rw [if_neg (by omega), if_neg]
  have : (2 : Nat) ^ (8 * (2 : Int).toNat) = 65536 := by decide
  omega

/-- Bytes in new memory. -/
structure NL (w : World) (ao : Option Addr) (cap : Nat) (l : List Nat) (w' : World) : Prop where
  own : w'.ownsRow w.heap.size 5 1 (.slice ao l.length cap) l.length (bl l)
  bel : Below w.heap.size w w'
  lt : ∀ b ∈ l, b < 256
theorem NL.byts {w w' : World} {ao : Option Addr} {cap : Nat} {l : List Nat} (h : NL w ao cap l w') : Byts w' ao l := Byts.of_row h.lt h.own
theorem NL.cap {w w' : World} {ao : Option Addr} {cap : Nat} {l : List Nat} (h : NL w ao cap l w') : l.length ≤ cap := by
  rcases own_at h.own with ⟨_, h1, h2⟩ | ⟨_, _, _, _, h⟩
  · omega
  · exact h
theorem NL.nil {w w' : World} {ao : Option Addr} {cap : Nat} {l : List Nat} (h : NL w ao cap l w') : ao = none → l.length = 0 ∧ cap = 0 := fun e => by
  rcases own_at h.own with ⟨_, h1, h2⟩ | ⟨g, h1, _⟩
  · exact ⟨h1, h2⟩
  · rw [e] at h1; cases h1
theorem own_mono2 {w : World} {base base' : Nat} {e size : Nat} {v : Value} {n : Nat} {xs : List Value} (h : w.ownsRow base e size v n xs) (hb : base' ≤ base) : w.ownsRow base' e size v n xs :=
  ⟨h.1, h.2.imp id fun ⟨g, cap, cur, h1, h2, h3⟩ => ⟨g, cap, cur, h1, Nat.le_trans hb h2, h3⟩⟩
theorem put_z (l m : List Nat) : put (0, l) 0 m = (0, l ++ m) := put_zero 0 l m rfl
/-- A maker, behind so many bytes. -/
def St (w1 : World) (l : List Nat) (wr : World) : Prop := ∃ ao cap, MkA wr w1.heap.size w1.heap.size ao cap 0 l ∧ Below w1.heap.size w1 wr
theorem St.step {w1 wr w' : World} {l m : List Nat} {e : Nat} {ao : Option Addr} {cap : Nat} (hm : MkA wr w1.heap.size w1.heap.size ao cap 0 l) (hb : Below w1.heap.size w1 wr) (he : e = 0)
    (hA : Aft wr w1.heap.size w1.heap.size ao (put (0, l) e m) w') : St w1 (l ++ m) w' := by
  rw [he, put_z] at hA
  obtain ⟨ao', cap', hm', hP⟩ := hA
  exact ⟨ao', cap', hm', hb.trans (hP.below (Nat.le_refl _) (fun g hg => (hm.rlt g hg).1) hb.size)⟩
theorem St.u {w1 wr : World} {l : List Nat} (h : St w1 l wr) (v n : Nat) (hv : v < 18446744073709551616) (he : uErr v n = 0) (hl : l.length ≤ 1073741824) :
    Calls Try.prog 32 #[.pointer (some ⟨w1.heap.size, 0, none⟩), .int .u64 (v : Int), .int .i64 (n : Int)] wr fun e w' => e = .returned (.tuple #[]) ∧ St w1 (l ++ le v n) w' := by
  obtain ⟨ao, cap, hm, hb⟩ := h
  refine (u_any hm hb.size v n hv (by omega)).mono ?_
  rintro e w' ⟨rfl, hA⟩
  exact ⟨rfl, St.step hm hb he hA⟩
theorem St.i {w1 wr : World} {l : List Nat} (h : St w1 l wr) (v : Int) (n : Nat) (he : iErr v n = 0) (hl : l.length ≤ 1073741824) :
    Calls Try.prog 63 #[.pointer (some ⟨w1.heap.size, 0, none⟩), .int .i64 v, .int .i64 (n : Int)] wr fun e w' => e = .returned (.tuple #[]) ∧ St w1 (l ++ le (u64 v) n) w' := by
  obtain ⟨ao, cap, hm, hb⟩ := h
  refine (i_any hm hb.size v n (by omega)).mono ?_
  rintro e w' ⟨rfl, hA⟩
  exact ⟨rfl, St.step hm hb he hA⟩
theorem St.raw {w1 wr : World} {l : List Nat} (h : St w1 l wr) {a : Option Addr} {m : List Nat} {c n : Nat} (hn : m.length = n) (hb : Byts wr a m) (ha : a = none → m.length = 0 ∧ c = 0) (hl : l.length + m.length ≤ 1073741824) :
    Calls Try.prog 30 #[.pointer (some ⟨w1.heap.size, 0, none⟩), .slice a n c] wr fun e w' => e = .returned (.tuple #[]) ∧ St w1 (l ++ m) w' := by
  subst hn
  obtain ⟨ao, cap, hm, hB⟩ := h
  refine (raw_any hm hb ha hB.size (by omega)).mono ?_
  rintro e w' ⟨rfl, hA⟩
  exact ⟨rfl, St.step hm hB rfl hA⟩
theorem St.bytes {w1 wr : World} {l : List Nat} (h : St w1 l wr) (hl : l.length ≤ 1073741824) :
    Calls Try.prog 36 #[.pointer (some ⟨w1.heap.size, 0, none⟩)] wr fun e w' => ∃ ao cap, e = .returned (.tuple #[.slice ao l.length cap, .int .i64 0]) ∧ NL w1 ao cap l w' := by
  obtain ⟨ao, cap, hm, hB⟩ := h
  have hlt := hm.lt
  refine (mbytes_ok hm (by omega)).mono ?_
  rintro e w' ⟨ao1, cap1, rfl, ho, hb⟩
  exact ⟨ao1, cap1, rfl, ⟨own_mono2 ho hB.size, hB.trans (hb.mono hB.size), hlt⟩⟩
theorem St.below {w1 wr w' : World} {l : List Nat} (h : St w1 l wr) (hb : Below wr.heap.size wr w') : St w1 l w' := by
  obtain ⟨ao, cap, hm, hB⟩ := h
  exact ⟨ao, cap, hm.below hb, hB.trans (hb.mono hB.size)⟩
theorem St.bel {w1 wr : World} {l : List Nat} (h : St w1 l wr) : Below w1.heap.size w1 wr := by
  obtain ⟨_, _, _, hB⟩ := h
  exact hB

/-- A name, and a size. -/
def nsz (s : ByteArray) (n : Nat) : List Nat := sb s ++ le n 4
theorem u64_small (n : Nat) (h : n < 4294967296) : IntKind.u64.wrap (n : Int) = n := by rw [u64_wrap]; unfold u64; omega
set_option maxRecDepth 20000 in
theorem begin_any {w1 wr : World} {l : List Nat} (h : St w1 l wr) (s : ByteArray) (n : Nat) (hs : s.size ≤ 16) (hn : n < 4294967296) (hl : l.length ≤ 536870912) :
    Calls Try.prog 28 #[.pointer (some ⟨w1.heap.size, 0, none⟩), .string s, .int .i64 (n : Int)] wr fun e w' => e = .returned (.tuple #[]) ∧ St w1 (l ++ nsz s n) w' := by
  have hcv := fun W => conv_string W s
  have H := hid h
  have hb := byts_of_string wr s
  have hbl := below_string wr s
  have HB := hid hb
  have HS := hid (h.below hbl)
  have HLS := hid (sb_len s)
  have hu := u64_small n hn
  have HE := hid (uerr_four n hn)
  clear h hb hbl
  go_enter Try.func28, Try.ntmps28
  go_wp2_with fail
  refine (HS.out.raw (HLS.out) HB.out (fun e => by cases e) (by rw [HLS.out]; omega)).mono ?_
  rintro e w2 ⟨rfl, hst⟩
  have HS2 := hid hst
  clear hst
  go_wp2_with fail
  refine (HS2.out.u n 4 (by omega) HE.out (by rw [List.length_append, HLS.out]; omega)).mono ?_
  rintro e w3 ⟨rfl, hst⟩
  have HS3 := hid hst
  clear hst
  go_wp2_with fail
  go_end0
  exact ⟨rfl, by unfold nsz; rw [← List.append_assoc]; exact HS3.out⟩
end Go.Proofs.Ytkdpalmdcnpnoaa.Wv
namespace Go.Proofs.Ytkdpalmdcnpnoaa.Wv
open Go.RowKit Gen Fld

theorem qt {P : Program} {f : FuncId} {args : Array Value} {w : World} {v : Value} (h : Calls P f args w fun e w' => e = .returned v ∧ w = w') : Calls P f args w fun e w' => e = .returned v ∧ w' = w :=
  h.mono fun _ _ ⟨a, b⟩ => ⟨a, b.symm⟩
/-- How many bits are free. -/
def fre (n : Int) : Nat := (8 * (wd n : Int) - n).toNat
/-- A sample's bytes. -/
def smp (n x : Int) : List Nat := if n = 8 then le (x + 128).toNat 1 else le (u64 (x * 2 ^ fre n)) (wd n)
theorem wd_le (n : Int) : wd n ≤ 3 := by
  unfold wd
  split
  · omega
  · split
    · omega
    · split <;> omega
theorem wd_fre {n : Int} (h1 : 8 < n) (h2 : n ≤ 24) : 2 ≤ wd n ∧ 8 * wd n = n.toNat + fre n ∧ fre n ≤ 7 := by
  unfold fre wd
  rw [if_neg (by omega), if_neg (by omega)]
  split <;> omega
theorem smp_len (n x : Int) : (smp n x).length = wd n := by
  unfold smp
  split
  · rename_i h; rw [le_len, h]; rfl
  · exact le_len _ _
theorem smp_err (m F d : Nat) (x : Int) (hm : 1 ≤ m) (hd : 8 * d = m + F) (hd1 : 1 ≤ d) (hd8 : d ≤ 8) (h1 : -(2 ^ (m - 1) : Int) ≤ x) (h2 : x ≤ 2 ^ (m - 1) - 1) : iErr (x * 2 ^ F) (d : Int) = 0 := by
  unfold iErr
  have e : (2 : Int) ^ (8 * ((d : Int).toNat) - 1) = 2 ^ (m - 1) * 2 ^ F := by
    rw [Int.toNat_natCast, hd, show m + F - 1 = (m - 1) + F from by omega, Int.pow_add]
  have p : (0 : Int) < 2 ^ F := Int.pow_pos (by decide)
  have q1 := Int.mul_le_mul_of_nonneg_right h1 (Int.le_of_lt p)
  have q2 := Int.mul_le_mul_of_nonneg_right h2 (Int.le_of_lt p)
  rw [Int.neg_mul] at q1
  rw [Int.sub_mul] at q2
  rw [if_neg (by omega), if_neg]
  rw [e]
  omega
theorem smp_in (m F d : Nat) (x : Int) (hm : 1 ≤ m) (hd : 8 * d = m + F) (hd8 : d ≤ 3) (h1 : -(2 ^ (m - 1) : Int) ≤ x) (h2 : x ≤ 2 ^ (m - 1) - 1) : -8388608 ≤ x * 2 ^ F ∧ x * 2 ^ F ≤ 8388607 := by
  have p : (0 : Int) < 2 ^ F := Int.pow_pos (by decide)
  have q1 := Int.mul_le_mul_of_nonneg_right h1 (Int.le_of_lt p)
  have q2 := Int.mul_le_mul_of_nonneg_right h2 (Int.le_of_lt p)
  rw [Int.neg_mul] at q1
  rw [Int.sub_mul] at q2
  have e : (2 : Int) ^ (m - 1) * 2 ^ F = 2 ^ (8 * d - 1) := by rw [← Int.pow_add]; congr 1; omega
  have h3 : (2 : Int) ^ (8 * d - 1) ≤ 8388608 := by
    have h5 : (2 : Nat) ^ (8 * d - 1) ≤ 2 ^ 23 := Nat.pow_le_pow_right (by decide) (by omega)
    have h6 : ((2 ^ (8 * d - 1) : Nat) : Int) ≤ ((2 ^ 23 : Nat) : Int) := Int.ofNat_le.2 h5
    simpa using h6
  rw [e] at q1 q2
  omega
set_option maxRecDepth 20000 in
theorem lay_any {w1 wr : World} {l : List Nat} (h : St w1 l wr) (x n : Int) (hn1 : 8 ≤ n) (hn2 : n ≤ 24) (h1 : -(2 ^ (n.toNat - 1) : Int) ≤ x) (h2 : x ≤ 2 ^ (n.toNat - 1) - 1) (hl : l.length ≤ 536870912) :
    Calls Try.prog 34 #[.pointer (some ⟨w1.heap.size, 0, none⟩), .int .i64 x, .int .i64 n] wr fun e w' => e = .returned (.tuple #[]) ∧ St w1 (l ++ smp n x) w' := by
  have H := hid h
  by_cases h8 : n = 8
  · subst h8
    have hx1 : -128 ≤ x := h1
    have hx2 : x ≤ 127 := h2
    have HS := hid (show smp 8 x = le (x + 128).toNat 1 from rfl)
    obtain ⟨v, hv⟩ : ∃ v : Nat, x + 128 = v := ⟨(x + 128).toNat, by omega⟩
    rw [hv, Int.toNat_natCast] at HS
    have hvl : v < 256 := by omega
    have hu := u64_small v (by omega)
    have HE := hid (uerr_one v hvl)
    clear h h1 h2 hx1 hx2
    go_enter Try.func34, Try.ntmps34
    go_wp2_with fail
    refine (H.out.u v 1 (by omega) HE.out (by omega)).mono ?_
    rintro e w2 ⟨rfl, hst⟩
    have HF := hid hst
    clear hst
    go_wp2_with fail
    refine bodyPost_ret (results_none Try.results34 _ _ _) rfl ?_
    exact ⟨rfl, by rw [HS.out]; exact HF.out⟩
  · have q8 : (n == 8) = false := by rw [beq_eq_false_iff_ne]; exact h8
    obtain ⟨hd2, hdf, hf7⟩ := wd_fre (n := n) (by omega) hn2
    have hd3 := wd_le n
    have HS := hid (show smp n x = le (u64 (x * 2 ^ fre n)) (wd n) by unfold smp; rw [if_neg h8])
    have HE := hid (smp_err n.toNat (fre n) (wd n) x (by omega) hdf (by omega) (by omega) h1 h2)
    obtain ⟨hy1, hy2⟩ := smp_in n.toNat (fre n) (wd n) x (by omega) hdf hd3 h1 h2
    have HFR := hid fun w => free_any n hn1 hn2 w
    have HWD := hid fun w => width_any n w
    rw [show 8 * (wd n : Int) - n = (fre n : Int) by omega] at HFR
    generalize fre n = F at *
    generalize wd n = d at *
    have hF0 : (0 : Int) ≤ (F : Int) := by omega
    have hF64 : (F : Int) ≤ 64 := by omega
    obtain ⟨y, hy⟩ : ∃ y, y = x * 2 ^ F := ⟨_, rfl⟩
    rw [← hy] at HS HE hy1 hy2
    have hw : wrap64 (x * 2 ^ F) = y := by rw [← hy]; unfold wrap64; omega
    have hw2 : IntKind.i64.wrap (x * 2 ^ F) = y := by rw [← hy, IntKind.wrap_i64]; omega
    clear h h1 h2 hy hdf h8
    go_enter Try.func34, Try.ntmps34
    go_wp2_with fail
    go_still_tail 7, (by kernel_rfl)
    still_call (qt (HFR.out _))
    repeat still_step
    still_call (qt (HWD.out _))
    repeat still_step
    refine wpStill_nil ?_
    change wpList _ _ _ _ _ wr.drew
    have HB := hid (H.out.below (show Below wr.heap.size wr wr.drew from ⟨rfl, rfl, rfl, Nat.le_refl _, fun _ _ => rfl⟩))
    clear H
    generalize wr.drew = W at HB ⊢
    go_wp2_with fail
    refine (HB.out.i y d HE.out (by omega)).mono ?_
    rintro e w2 ⟨rfl, hst⟩
    have HF := hid hst
    clear hst
    go_wp2_with fail
    go_end0
    exact ⟨rfl, by rw [HS.out]; exact HF.out⟩
set_option maxRecDepth 20000 in
theorem bytesof_any (p : Nat) (w : World) : Calls Try.prog 33 #[.int .i64 (p : Int)] w fun e w' => e = .returned (.int .i64 ((if p = 2 ∨ p = 3 then 4 else 2 : Nat) : Int)) ∧ w = w' := by
  by_cases h2 : p = 2
  · subst h2
    go_enter Try.func33, Try.ntmps33
    go_wp2_with fail
    go_ret
    exact ⟨rfl, rfl⟩
  · have q2 : ((p : Int) == 2) = false := by rw [beq_eq_false_iff_ne]; omega
    by_cases h3 : p = 3
    · subst h3
      go_enter Try.func33, Try.ntmps33
      go_wp2_with fail
      go_ret
      exact ⟨rfl, rfl⟩
    · have q3 : ((p : Int) == 3) = false := by rw [beq_eq_false_iff_ne]; omega
      go_enter Try.func33, Try.ntmps33
      go_wp2_with fail
      go_ret
      exact ⟨rfl, rfl⟩
/-- A format's value. -/
def fv (ch bits rate : Int) : Value := .agg #[.int .i64 ch, .int .i64 bits, .int .i64 rate]
set_option maxRecDepth 20000 in
theorem frame_any (ch bits rate : Int) (h1 : 0 ≤ ch) (h2 : ch ≤ 1073741824) (w : World) :
    Calls Try.prog 27 #[.agg #[.int .i64 ch, .int .i64 bits, .int .i64 rate]] w fun e w' => e = .returned (.int .i64 (ch * (wd bits : Int))) ∧ Below w.heap.size w w' := by
  have HB0 := hid (bel_new w (.cells #[.int .i64 ch, .int .i64 bits, .int .i64 rate] 23))
  have HW := hid fun w => width_any bits w
  have hs0 : (w.alloc (.cells #[.int .i64 ch, .int .i64 bits, .int .i64 rate] 23)).cell? ⟨w.heap.size, 0, none⟩ = some (.int .i64 ch) := by simp
  have hs1 : (w.alloc (.cells #[.int .i64 ch, .int .i64 bits, .int .i64 rate] 23)).cell? ⟨w.heap.size, 1, none⟩ = some (.int .i64 bits) := by simp
  have hd := wd_le bits
  generalize wd bits = d at *
  have hm : 0 ≤ ch * (d : Int) ∧ ch * (d : Int) ≤ 4294967296 := by
    have hd4 : d = 0 ∨ d = 1 ∨ d = 2 ∨ d = 3 := by omega
    rcases hd4 with rfl | rfl | rfl | rfl <;> omega
  obtain ⟨hm1, hm2⟩ := hm
  obtain ⟨y, hy⟩ : ∃ y, y = ch * (d : Int) := ⟨_, rfl⟩
  have hw : wrap64 (ch * (d : Int)) = y := by rw [← hy]; unfold wrap64; omega
  rw [← hy] at hm1 hm2 ⊢
  clear hy
  go_enter Try.func27, Try.ntmps27
  go_wp2_with fail
  generalize w.alloc (.cells #[.int .i64 ch, .int .i64 bits, .int .i64 rate] 23) = W at *
  go_quiet (exact Calls.quiet_of_same ((HW.out _).mono fun _ _ ⟨a, b⟩ => ⟨a, b.symm⟩))
  have HF := hid (HB0.out.trans (show Below w.heap.size W (W.drewN nq) from ⟨rfl, rfl, rfl, Nat.le_refl _, fun _ _ => rfl⟩))
  go_wp2_with fail
  go_ret
  refine ⟨?_, HF.out⟩
  show Ending.returned (.int .i64 (wrap64 (ch * (d : Int)))) = _
  rw [hw]
end Go.Proofs.Ytkdpalmdcnpnoaa.Wv
namespace Go.Proofs.Ytkdpalmdcnpnoaa.Wv
open Go.RowKit Gen Fld

/-- Six cells that are stored one by one. -/
theorem six_set (w : World) (q : Nat) (v0 v1 v2 v3 v4 v5 : Value) (h : ∀ i, i < 6 → ∃ u, w.cell? ⟨q, i, none⟩ = some u) :
    let W := (((((w.setCell ⟨q, 0, none⟩ v0).setCell ⟨q, 1, none⟩ v1).setCell ⟨q, 2, none⟩ v2).setCell ⟨q, 3, none⟩ v3).setCell ⟨q, 4, none⟩ v4).setCell ⟨q, 5, none⟩ v5
    W.cell? ⟨q, 0, none⟩ = some v0 ∧ W.cell? ⟨q, 1, none⟩ = some v1 ∧ W.cell? ⟨q, 2, none⟩ = some v2 ∧ W.cell? ⟨q, 3, none⟩ = some v3 ∧ W.cell? ⟨q, 4, none⟩ = some v4 ∧ W.cell? ⟨q, 5, none⟩ = some v5 := by
  have o : ∀ (W : World) (i j : Nat) (v : Value), i ≠ j → (W.setCell ⟨q, j, none⟩ v).cell? ⟨q, i, none⟩ = W.cell? ⟨q, i, none⟩ := fun W i j v hij => World.cell?_setCell_other _ _ _ _ (fun e => hij (congrArg Addr.off e).symm)
  have s : ∀ (W : World) (i : Nat) (v u : Value), W.cell? ⟨q, i, none⟩ = some u → (W.setCell ⟨q, i, none⟩ v).cell? ⟨q, i, none⟩ = some v := fun W i v u hu => World.cell?_setCell_same _ _ _ (by rw [hu])
  obtain ⟨u0, h0⟩ := h 0 (by decide)
  obtain ⟨u1, h1⟩ := h 1 (by decide)
  obtain ⟨u2, h2⟩ := h 2 (by decide)
  obtain ⟨u3, h3⟩ := h 3 (by decide)
  obtain ⟨u4, h4⟩ := h 4 (by decide)
  obtain ⟨u5, h5⟩ := h 5 (by decide)
  refine ⟨?_, ?_, ?_, ?_, ?_, ?_⟩
  · rw [o _ 0 5 _ (by decide), o _ 0 4 _ (by decide), o _ 0 3 _ (by decide), o _ 0 2 _ (by decide), o _ 0 1 _ (by decide)]; exact s _ 0 _ _ h0
  · rw [o _ 1 5 _ (by decide), o _ 1 4 _ (by decide), o _ 1 3 _ (by decide), o _ 1 2 _ (by decide)]; exact s _ 1 _ _ ((o _ 1 0 _ (by decide)).trans h1)
  · rw [o _ 2 5 _ (by decide), o _ 2 4 _ (by decide), o _ 2 3 _ (by decide)]; exact s _ 2 _ _ ((o _ 2 1 _ (by decide)).trans ((o _ 2 0 _ (by decide)).trans h2))
  · rw [o _ 3 5 _ (by decide), o _ 3 4 _ (by decide)]; exact s _ 3 _ _ ((o _ 3 2 _ (by decide)).trans ((o _ 3 1 _ (by decide)).trans ((o _ 3 0 _ (by decide)).trans h3)))
  · rw [o _ 4 5 _ (by decide)]; exact s _ 4 _ _ ((o _ 4 3 _ (by decide)).trans ((o _ 4 2 _ (by decide)).trans ((o _ 4 1 _ (by decide)).trans ((o _ 4 0 _ (by decide)).trans h4))))
  · exact s _ 5 _ _ ((o _ 5 4 _ (by decide)).trans ((o _ 5 3 _ (by decide)).trans ((o _ 5 2 _ (by decide)).trans ((o _ 5 1 _ (by decide)).trans ((o _ 5 0 _ (by decide)).trans h5)))))
/-- The numbers of a format. -/
def nms (c r y n : Nat) : Value := .agg #[.int .u64 1, .int .u64 (c : Int), .int .u64 (r : Int), .int .u64 ((r * y : Nat) : Int), .int .u64 (y : Int), .int .u64 (n : Int)]
set_option maxRecDepth 20000 in
set_option maxHeartbeats 2000000 in
theorem numbers_any (c n r : Nat) (hc : c ≤ 8) (hn : n ≤ 24) (hr : r ≤ 1048575) (w : World) :
    Calls Try.prog 31 #[.agg #[.int .i64 (c : Int), .int .i64 (n : Int), .int .i64 (r : Int)]] w fun e w' => e = .returned (nms c r (c * wd n) n) ∧ Below w.heap.size w w' := by
  have HFR := hid fun w => frame_any (c : Int) (n : Int) (r : Int) (by omega) (by omega) w
  have hd := wd_le (n : Int)
  rw [show (c : Int) * (wd (n : Int) : Int) = ((c * wd (n : Int) : Nat) : Int) by push_cast; rfl] at HFR
  have hy : c * wd (n : Int) ≤ 24 := Nat.le_trans (Nat.mul_le_mul hc hd) (by decide)
  generalize c * wd (n : Int) = y at *
  have hry : r * y ≤ 25165800 := Nat.le_trans (Nat.mul_le_mul hr hy) (by decide)
  have hw1 : wrap64 ((r : Int) * (y : Int)) = ((r * y : Nat) : Int) := by
    rw [← Int.natCast_mul]; unfold wrap64; omega
  have hw2 : IntKind.i64.wrap ((r : Int) * (y : Int)) = ((r * y : Nat) : Int) := by
    rw [← Int.natCast_mul, IntKind.wrap_i64]; omega
  have hu1 := u64_small c (by omega)
  have hu2 := u64_small n (by omega)
  have hu3 := u64_small r (by omega)
  have hu4 := u64_small y (by omega)
  have hu5 := u64_small (r * y) (by omega)
  have HNM := hid (show nms c r y n = .agg #[.int .u64 1, .int .u64 (c : Int), .int .u64 (r : Int), .int .u64 ((r * y : Nat) : Int), .int .u64 (y : Int), .int .u64 (n : Int)] from rfl)
  generalize r * y = z at *
  go_enter Try.func31, Try.ntmps31
  go_wp2_with fail
  have HB0 := hid (show Below w.heap.size w ((w.alloc (.cells #[.int .i64 (c : Int), .int .i64 (n : Int), .int .i64 (r : Int)] 23)).alloc (.cells #[.int .u64 0, .int .u64 0, .int .u64 0, .int .u64 0, .int .u64 0, .int .u64 0] 68)) from (bel_new w _).alloc (bel_new w _).size _)
  have hz0 : ((w.alloc (.cells #[.int .i64 (c : Int), .int .i64 (n : Int), .int .i64 (r : Int)] 23)).alloc (.cells #[.int .u64 0, .int .u64 0, .int .u64 0, .int .u64 0, .int .u64 0, .int .u64 0] 68)).heap.size = w.heap.size + 1 + 1 := by rw [Deep.nblk_alloc, Deep.nblk_alloc]
  have hS0 : (fun w' => w'.cell? ⟨w.heap.size, 0, none⟩ = some (.int .i64 (c : Int)) ∧ w'.cell? ⟨w.heap.size, 1, none⟩ = some (.int .i64 (n : Int)) ∧ w'.cell? ⟨w.heap.size, 2, none⟩ = some (.int .i64 (r : Int))) ((w.alloc (.cells #[.int .i64 (c : Int), .int .i64 (n : Int), .int .i64 (r : Int)] 23)).alloc (.cells #[.int .u64 0, .int .u64 0, .int .u64 0, .int .u64 0, .int .u64 0, .int .u64 0] 68)) := by
    refine ⟨?_, ?_, ?_⟩ <;> (rw [World.cell?_alloc_lt _ _ _ (by simp)]; simp)
  have hP0 : (fun (w' : World) => (w'.cell? ⟨w.heap.size + 1, 0, none⟩ = some (.int .u64 0) ∧ w'.cell? ⟨w.heap.size + 1, 1, none⟩ = some (.int .u64 0) ∧ w'.cell? ⟨w.heap.size + 1, 2, none⟩ = some (.int .u64 0) ∧ w'.cell? ⟨w.heap.size + 1, 3, none⟩ = some (.int .u64 0) ∧ w'.cell? ⟨w.heap.size + 1, 4, none⟩ = some (.int .u64 0) ∧ w'.cell? ⟨w.heap.size + 1, 5, none⟩ = some (.int .u64 0)) ∧ (w'.frozen? ⟨w.heap.size + 1, 0, none⟩ = false ∧ w'.frozen? ⟨w.heap.size + 1, 1, none⟩ = false ∧ w'.frozen? ⟨w.heap.size + 1, 2, none⟩ = false ∧ w'.frozen? ⟨w.heap.size + 1, 3, none⟩ = false ∧ w'.frozen? ⟨w.heap.size + 1, 4, none⟩ = false ∧ w'.frozen? ⟨w.heap.size + 1, 5, none⟩ = false)) ((w.alloc (.cells #[.int .i64 (c : Int), .int .i64 (n : Int), .int .i64 (r : Int)] 23)).alloc (.cells #[.int .u64 0, .int .u64 0, .int .u64 0, .int .u64 0, .int .u64 0, .int .u64 0] 68)) := by
    have e1 := heap_alloc_new (w.alloc (.cells #[.int .i64 (c : Int), .int .i64 (n : Int), .int .i64 (r : Int)] 23)) (.cells #[.int .u64 0, .int .u64 0, .int .u64 0, .int .u64 0, .int .u64 0, .int .u64 0] 68)
    rw [Deep.nblk_alloc] at e1
    refine ⟨⟨?_, ?_, ?_, ?_, ?_, ?_⟩, ⟨?_, ?_, ?_, ?_, ?_, ?_⟩⟩
    all_goals first | (unfold World.cell?; rw [e1]; rfl) | (unfold World.frozen?; rw [e1]; rfl)
  generalize ((w.alloc (.cells #[.int .i64 (c : Int), .int .i64 (n : Int), .int .i64 (r : Int)] 23)).alloc (.cells #[.int .u64 0, .int .u64 0, .int .u64 0, .int .u64 0, .int .u64 0, .int .u64 0] 68)) = W0 at *
  have HS := hid (show ∀ w' : World, Below W0.heap.size W0 w' → (fun w' => w'.cell? ⟨w.heap.size, 0, none⟩ = some (.int .i64 (c : Int)) ∧ w'.cell? ⟨w.heap.size, 1, none⟩ = some (.int .i64 (n : Int)) ∧ w'.cell? ⟨w.heap.size, 2, none⟩ = some (.int .i64 (r : Int))) w' from fun w' hb => by
    obtain ⟨h1, h2, h3⟩ := hS0
    exact ⟨(World.cell?_of_block (a := ⟨w.heap.size, 0, none⟩) (hb.block w.heap.size (by omega))).trans h1, (World.cell?_of_block (a := ⟨w.heap.size, 1, none⟩) (hb.block w.heap.size (by omega))).trans h2, (World.cell?_of_block (a := ⟨w.heap.size, 2, none⟩) (hb.block w.heap.size (by omega))).trans h3⟩)
  have HP := hid (show ∀ w' : World, Below W0.heap.size W0 w' → (w'.cell? ⟨w.heap.size + 1, 0, none⟩ = some (.int .u64 0) ∧ w'.cell? ⟨w.heap.size + 1, 1, none⟩ = some (.int .u64 0) ∧ w'.cell? ⟨w.heap.size + 1, 2, none⟩ = some (.int .u64 0) ∧ w'.cell? ⟨w.heap.size + 1, 3, none⟩ = some (.int .u64 0) ∧ w'.cell? ⟨w.heap.size + 1, 4, none⟩ = some (.int .u64 0) ∧ w'.cell? ⟨w.heap.size + 1, 5, none⟩ = some (.int .u64 0)) ∧ (w'.frozen? ⟨w.heap.size + 1, 0, none⟩ = false ∧ w'.frozen? ⟨w.heap.size + 1, 1, none⟩ = false ∧ w'.frozen? ⟨w.heap.size + 1, 2, none⟩ = false ∧ w'.frozen? ⟨w.heap.size + 1, 3, none⟩ = false ∧ w'.frozen? ⟨w.heap.size + 1, 4, none⟩ = false ∧ w'.frozen? ⟨w.heap.size + 1, 5, none⟩ = false) from fun w' hb => by
    obtain ⟨⟨h1, h2, h3, h4, h5, h6⟩, ⟨k1, k2, k3, k4, k5, k6⟩⟩ := hP0
    have hk := hb.block (w.heap.size + 1) (by omega)
    exact ⟨⟨(World.cell?_of_block (a := ⟨w.heap.size + 1, 0, none⟩) hk).trans h1, (World.cell?_of_block (a := ⟨w.heap.size + 1, 1, none⟩) hk).trans h2, (World.cell?_of_block (a := ⟨w.heap.size + 1, 2, none⟩) hk).trans h3, (World.cell?_of_block (a := ⟨w.heap.size + 1, 3, none⟩) hk).trans h4, (World.cell?_of_block (a := ⟨w.heap.size + 1, 4, none⟩) hk).trans h5, (World.cell?_of_block (a := ⟨w.heap.size + 1, 5, none⟩) hk).trans h6⟩, ⟨(World.frozen?_of_block (a := ⟨w.heap.size + 1, 0, none⟩) hk).trans k1, (World.frozen?_of_block (a := ⟨w.heap.size + 1, 1, none⟩) hk).trans k2, (World.frozen?_of_block (a := ⟨w.heap.size + 1, 2, none⟩) hk).trans k3, (World.frozen?_of_block (a := ⟨w.heap.size + 1, 3, none⟩) hk).trans k4, (World.frozen?_of_block (a := ⟨w.heap.size + 1, 4, none⟩) hk).trans k5, (World.frozen?_of_block (a := ⟨w.heap.size + 1, 5, none⟩) hk).trans k6⟩⟩)
  have HZ := hid hz0
  clear hS0 hP0 hz0 hw1 hc hn hr hd hy hry
  have b0 : Below W0.heap.size W0 W0.drew := ⟨rfl, rfl, rfl, Nat.le_refl _, fun _ _ => rfl⟩
  have S0 := HS.out _ b0
  go_region_held3 (fun w' => w'.cell? ⟨w.heap.size, 0, none⟩ = some (.int .i64 (c : Int)) ∧ w'.cell? ⟨w.heap.size, 1, none⟩ = some (.int .i64 (n : Int)) ∧ w'.cell? ⟨w.heap.size, 2, none⟩ = some (.int .i64 (r : Int)))
    (first | with_reducible exact S0 | with_reducible exact S1 | with_reducible exact S2 | go_keep)
    ((first
      | (go_at_call 27; (with_reducible refine (HFR.out _).mono ?_); rintro e w2 ⟨rfl, hb2⟩; have b2 := b1.trans (hb2.mono b1.size); have S2 := HS.out _ b2; obtain ⟨⟨h1, h2, h3, h4, h5, h6⟩, ⟨k1, k2, k3, k4, k5, k6⟩⟩ := HP.out _ b2)
      | (go_at_call 27; (with_reducible refine (HFR.out _).mono ?_); rintro e w1 ⟨rfl, hb1⟩; have b1 := b0.trans (hb1.mono b0.size); have S1 := HS.out _ b1)))
  have hfs := six_set w2 (w.heap.size + 1) (.int .u64 1) (.int .u64 (c : Int)) (.int .u64 (r : Int)) (.int .u64 (z : Int)) (.int .u64 (y : Int)) (.int .u64 (n : Int)) (fun i hi => by
    match i, hi with
    | 0, _ => exact ⟨_, h1⟩
    | 1, _ => exact ⟨_, h2⟩
    | 2, _ => exact ⟨_, h3⟩
    | 3, _ => exact ⟨_, h4⟩
    | 4, _ => exact ⟨_, h5⟩
    | 5, _ => exact ⟨_, h6⟩)
  have HB2 := hid (HB0.out.trans (b2.mono HB0.out.size))
  have hsb : w.heap.size ≤ w.heap.size + 1 := Nat.le_succ _
  have HBF := hid ((((((HB2.out.setCell (p := ⟨w.heap.size + 1, 0, none⟩) hsb (.int .u64 1)).setCell (p := ⟨w.heap.size + 1, 1, none⟩) hsb (.int .u64 (c : Int))).setCell (p := ⟨w.heap.size + 1, 2, none⟩) hsb (.int .u64 (r : Int))).setCell (p := ⟨w.heap.size + 1, 3, none⟩) hsb (.int .u64 (z : Int))).setCell (p := ⟨w.heap.size + 1, 4, none⟩) hsb (.int .u64 (y : Int))).setCell (p := ⟨w.heap.size + 1, 5, none⟩) hsb (.int .u64 (n : Int)))
  clear h1 h2 h3 h4 h5 h6 k1 k2 k3 k4 k5 k6 S0 S1 S2 b0 b1 b2 hb1 hb2 hsb
  generalize (((((w2.setCell ⟨w.heap.size + 1, 0, none⟩ (.int .u64 1)).setCell ⟨w.heap.size + 1, 1, none⟩ (.int .u64 (c : Int))).setCell ⟨w.heap.size + 1, 2, none⟩ (.int .u64 (r : Int))).setCell ⟨w.heap.size + 1, 3, none⟩ (.int .u64 (z : Int))).setCell ⟨w.heap.size + 1, 4, none⟩ (.int .u64 (y : Int))).setCell ⟨w.heap.size + 1, 5, none⟩ (.int .u64 (n : Int)) = WF at *
  obtain ⟨y0, y1, y2, y3, y4, y5⟩ := hfs
  go_wp2_with fail
  refine bodyPost_ret (v := .agg #[.int .u64 1, .int .u64 (c : Int), .int .u64 (r : Int), .int .u64 (z : Int), .int .u64 (y : Int), .int .u64 (n : Int)]) ?_ rfl ?_
  · simp only [results, show Try.f31.results = #[.cell 2 68] from by kernel_rfl]
    go_simp
  · exact ⟨by rw [HNM.out], HBF.out⟩
end Go.Proofs.Ytkdpalmdcnpnoaa.Wv
namespace Go.Proofs.Ytkdpalmdcnpnoaa.Wv
open Go.RowKit Gen Fld Pcm

/-- A format chunk's bytes. -/
def fmtb (c n r : Nat) : List Nat := le 1 2 ++ le c 2 ++ le r 4 ++ le (r * (c * wd n)) 4 ++ le (c * wd n) 2 ++ le n 2
theorem fmtb_len (c n r : Nat) : (fmtb c n r).length = 16 := by unfold fmtb; simp only [List.length_append, le_len]
/-- A frame's first samples; the first frames. -/
def frp (d : Dat) (k : Nat) : Nat → List Nat
  | 0 => []
  | i + 1 => frp d k i ++ smp d.f.bits (d.X i k)
def dta (d : Dat) : Nat → List Nat
  | 0 => []
  | k + 1 => dta d k ++ frp d k d.n
theorem frp_len (d : Dat) (k : Nat) : ∀ i, (frp d k i).length = i * wd d.f.bits
  | 0 => (Nat.zero_mul _).symm
  | i + 1 => by
    show (frp d k i ++ smp d.f.bits (d.X i k)).length = _
    rw [List.length_append, frp_len d k i, smp_len, Nat.succ_mul]
theorem dta_len (d : Dat) : ∀ k, (dta d k).length = k * (d.n * wd d.f.bits)
  | 0 => (Nat.zero_mul _).symm
  | k + 1 => by
    show (dta d k ++ frp d k d.n).length = _
    rw [List.length_append, dta_len d k, frp_len, Nat.succ_mul]
/-- How many bytes the data have. -/
def dsz (d : Dat) : Nat := d.cnt * (d.n * wd d.f.bits)
/-- What stands ahead of the samples; all. -/
def hdr (d : Dat) : List Nat := nsz ⟨#[82, 73, 70, 70]⟩ (4 + 24 + (8 + dsz d + dsz d % 2)) ++ [87, 65, 86, 69] ++ nsz ⟨#[102, 109, 116, 32]⟩ 16 ++ fmtb d.n d.f.bits.toNat d.f.rate.toNat ++ nsz ⟨#[100, 97, 116, 97]⟩ (dsz d)
def wby (d : Dat) : List Nat := hdr d ++ dta d d.cnt ++ List.replicate (dsz d % 2) 0
theorem nsz_len (s : ByteArray) (n : Nat) : (nsz s n).length = s.size + 4 := by unfold nsz; rw [List.length_append, sb_len, le_len]
theorem hdr_len (d : Dat) : (hdr d).length = 44 := by
  unfold hdr
  simp only [List.length_append, nsz_len, fmtb_len]
  rfl
theorem wby_len (d : Dat) : (wby d).length = 44 + dsz d + dsz d % 2 := by
  unfold wby
  rw [List.length_append, List.length_append, hdr_len, dta_len, List.length_replicate]
  rfl
/-- What is wrong with sound to be written. -/
def wcode (d : Dat) : Int := if d.chk = 0 then (if 268435456 < dsz d then 4 else 0) else d.chk
def wlist (d : Dat) : List Nat := if wcode d = 0 then wby d else []
end Go.Proofs.Ytkdpalmdcnpnoaa.Wv
namespace Go.Proofs.Ytkdpalmdcnpnoaa.Wv
open Go.RowKit Gen Fld Pcm

/-- What Write leaves. -/
def WrP (w : World) (d : Dat) (e : Ending) (w' : World) : Prop := ∃ ao cap, e = .returned (.tuple #[.slice ao (wlist d).length cap, .int .i64 (wcode d)]) ∧ NL w ao cap (wlist d) w'
theorem wrp_no {w w' : World} {d : Dat} {e : Int} (he : wcode d = e) (h0 : e ≠ 0) (hb : Below w.heap.size w w') : WrP w d (.returned (.tuple #[.slice none 0 0, .int .i64 e])) w' := by
  have hl : wlist d = [] := by unfold wlist; rw [he, if_neg h0]
  unfold WrP
  rw [hl, he]
  exact ⟨none, 0, rfl, World.ownsRow_nil _ _ _ _, hb, fun _ h => by cases h⟩
theorem conv4 (w : World) : (convert 29 29 (.slice (some ⟨w.heap.size, 0, none⟩) 4 4)).run Try.prog (w.alloc (.cells #[.int .u8 87, .int .u8 65, .int .u8 86, .int .u8 69] 5)) = .ok (.slice (some ⟨w.heap.size, 0, none⟩) 4 4) (w.alloc (.cells #[.int .u8 87, .int .u8 65, .int .u8 86, .int .u8 69] 5 (4, 5))) :=
  Lib.run_convert_bytes_const (P := Try.prog) w 29 5 #[.int .u8 87, .int .u8 65, .int .u8 86, .int .u8 69] 4 4 Try.underlying29 Try.underlying5
theorem byts4 (w : World) : Byts (w.alloc (.cells #[.int .u8 87, .int .u8 65, .int .u8 86, .int .u8 69] 5 (4, 5))) (some ⟨w.heap.size, 0, none⟩) [87, 65, 86, 69] :=
  ⟨fun b hb => by simp at hb; omega,
   fun j x hj => by
    refine ⟨w.heap.size, 0, rfl, ?_⟩
    rcases j with _ | _ | _ | _ | j
    all_goals first | (simp at hj; subst hj; unfold World.cell?; rw [heap_alloc_new]; rfl) | (simp at hj)⟩

theorem und68 : Try.prog.underlying 68 = some (.array 6 66) := by kernel_rfl
theorem ix_any (c0 c1 c2 c3 c4 c5 : Value) (w : World) : (Instr.index 68 (.agg #[c0, c1, c2, c3, c4, c5]) (.int .i64 0)).run Try.prog w = .ok c0 w ∧ (Instr.index 68 (.agg #[c0, c1, c2, c3, c4, c5]) (.int .i64 1)).run Try.prog w = .ok c1 w ∧ (Instr.index 68 (.agg #[c0, c1, c2, c3, c4, c5]) (.int .i64 2)).run Try.prog w = .ok c2 w ∧ (Instr.index 68 (.agg #[c0, c1, c2, c3, c4, c5]) (.int .i64 3)).run Try.prog w = .ok c3 w ∧ (Instr.index 68 (.agg #[c0, c1, c2, c3, c4, c5]) (.int .i64 4)).run Try.prog w = .ok c4 w ∧ (Instr.index 68 (.agg #[c0, c1, c2, c3, c4, c5]) (.int .i64 5)).run Try.prog w = .ok c5 w := by
  refine ⟨?_, ?_, ?_, ?_, ?_, ?_⟩ <;> simp [Instr.index, run_underlying und68, asIntOf, go_sem]
/-- The numbers of a format chunk, one by one. -/
def nbt (c r y n : Nat) : Nat → List Nat
  | 0 => le 1 2
  | 1 => le c 2
  | 2 => le r 4
  | 3 => le (r * y) 4
  | 4 => le y 2
  | _ => le n 2
def nbs (c r y n : Nat) : Nat → List Nat
  | 0 => []
  | k + 1 => nbs c r y n k ++ nbt c r y n k
theorem nbs_len (c r y n : Nat) : ∀ k, (nbs c r y n k).length ≤ k * 4
  | 0 => Nat.le_refl _
  | k + 1 => by
    show (nbs c r y n k ++ nbt c r y n k).length ≤ _
    rw [List.length_append]
    have h1 := nbs_len c r y n k
    have h2 : (nbt c r y n k).length ≤ 4 := by unfold nbt; split <;> (rw [le_len]; omega)
    omega
set_option maxRecDepth 20000 in
set_option maxHeartbeats 4000000 in
theorem write_ok {w : World} {d : Dat} (h : Snd w d) (hk : d.chk = 0) (nb rt : Nat) (hbits : d.f.bits = (nb : Int)) (hrate : d.f.rate = (rt : Int)) :
    Calls Try.prog 10 #[.agg #[.int .i64 (d.n : Int), .int .i64 (nb : Int), .int .i64 (rt : Int), .slice d.a d.n d.cap]] w (WrP w d) := by
  obtain ⟨hr, hch, hn8, hn0, hcnt, hln, hfar⟩ := chk_ok hk
  have haddr := h.addr hn0
  rw [haddr]
  obtain ⟨hr1, hr2, hr3⟩ := hr
  clear hr1
  rw [hbits] at hr2
  rw [hrate] at hr3
  have H := hid h
  have hdv : d.v = .agg #[.int .i64 (d.n : Int), .int .i64 (nb : Int), .int .i64 (rt : Int), .slice (some ⟨d.b, d.off, none⟩) d.n d.cap] := by unfold Dat.v; rw [← hch, hbits, hrate, haddr]
  have HCK := hid fun (w' : World) (hb : Below w.heap.size w w') => check_any w' d (h.below hb)
  have HCN := hid fun (w' : World) (hb : Below w.heap.size w w') => count_any w' d (h.below hb)
  rw [hdv, hk] at HCK
  rw [hdv] at HCN
  have HFR := hid fun w' => frame_any (d.n : Int) (nb : Int) (rt : Int) (by omega) (by omega) w'
  have HNM := hid fun w' => numbers_any d.n nb rt hn8 (by omega) (by omega) w'
  have hd := wd_le (nb : Int)
  have hyl : d.n * wd (nb : Int) ≤ 24 := Nat.le_trans (Nat.mul_le_mul hn8 hd) (by decide)
  have hS0 : dsz d = d.cnt * (d.n * wd (nb : Int)) := by unfold dsz; rw [hbits]
  rw [show (d.n : Int) * (wd (nb : Int) : Int) = ((d.n * wd (nb : Int) : Nat) : Int) by push_cast; rfl] at HFR
  have HWC := hid (show wcode d = if 268435456 < dsz d then 4 else 0 by unfold wcode; rw [if_pos hk])
  have hSl : dsz d ≤ 4294967295 * 24 := by rw [hS0]; exact Nat.mul_le_mul hcnt hyl
  have HWS := hid (show wrap64 ((d.cnt : Int) * ((d.n * wd (nb : Int) : Nat) : Int)) = (dsz d : Int) by
    rw [← Int.natCast_mul, ← hS0]
    have h9 : dsz d ≤ 103079215080 := hSl
    clear hSl hS0 HFR
    generalize dsz d = S at *
    unfold wrap64; omega)
  have HDT := hid (show ∀ k, k ≤ d.cnt → (dta d k).length ≤ dsz d from fun k hk => by rw [dta_len]; exact Nat.mul_le_mul_right _ hk)
  have HFP := hid (show ∀ k i, i ≤ d.n → (frp d k i).length ≤ 24 from fun k i hi => by rw [frp_len]; exact Nat.le_trans (Nat.mul_le_mul (Nat.le_trans hi hn8) (wd_le _)) (by decide))
  have HXB := hid (show ∀ j k, j < d.n → k < d.cnt → -(2 ^ ((nb : Int).toNat - 1) : Int) ≤ d.X j k ∧ d.X j k ≤ 2 ^ ((nb : Int).toNat - 1) - 1 from fun i j hi hj => by
    rw [← hbits]
    cases hb : beyond (2 ^ (d.f.bits.toNat - 1)) (d.X i j) with
    | true =>
      have h1 : anyB (fun j => beyond (2 ^ (d.f.bits.toNat - 1)) (d.X i j)) (d.ln i) = true := (any_iff _ _).2 ⟨j, by rw [hln i hi]; exact hj, hb⟩
      have h2 : d.far = true := (any_iff (fun i => anyB (fun j => beyond (2 ^ (d.f.bits.toNat - 1)) (d.X i j)) (d.ln i)) d.n).2 ⟨i, hi, h1⟩
      rw [hfar] at h2; cases h2
    | false =>
      unfold beyond at hb
      rw [Bool.not_eq_false', decide_eq_true_eq] at hb
      push_cast at hb
      exact hb)
  have HPD := hid (pad_any (dsz d))
  have HLS := hid (long_any (dsz d) (Nat.le_trans hSl (by decide)))
  have HL16 := hid (long_any 16 (by decide))
  have HYL := hid hyl
  have HFB := hid (show fmtb d.n d.f.bits.toNat d.f.rate.toNat = nbs d.n rt (d.n * wd (nb : Int)) nb 6 by rw [hbits, hrate]; rfl)
  generalize d.n * wd (nb : Int) = y at *
  generalize hSS : dsz d = S at *
  have HB0 := hid (below_new w (.cells #[.int .i64 (d.n : Int), .int .i64 (nb : Int), .int .i64 (rt : Int), .slice (some ⟨d.b, d.off, none⟩) d.n d.cap] 26))
  have hcells : ∀ w', Below (w.alloc (.cells #[.int .i64 (d.n : Int), .int .i64 (nb : Int), .int .i64 (rt : Int), .slice (some ⟨d.b, d.off, none⟩) d.n d.cap] 26)).heap.size (w.alloc (.cells #[.int .i64 (d.n : Int), .int .i64 (nb : Int), .int .i64 (rt : Int), .slice (some ⟨d.b, d.off, none⟩) d.n d.cap] 26)) w' → w'.cell? ⟨w.heap.size, 0, none⟩ = some (.int .i64 (d.n : Int)) ∧ w'.cell? ⟨w.heap.size, 1, none⟩ = some (.int .i64 (nb : Int)) ∧ w'.cell? ⟨w.heap.size, 2, none⟩ = some (.int .i64 (rt : Int)) ∧ w'.cell? ⟨w.heap.size, 3, none⟩ = some (.slice (some ⟨d.b, d.off, none⟩) d.n d.cap) := fun w' hb => by
    have hlt : w.heap.size < (w.alloc (.cells #[.int .i64 (d.n : Int), .int .i64 (nb : Int), .int .i64 (rt : Int), .slice (some ⟨d.b, d.off, none⟩) d.n d.cap] 26)).heap.size := by simp
    have e := (hb.block w.heap.size hlt).trans (heap_alloc_new w _)
    refine ⟨?_, ?_, ?_, ?_⟩ <;> (unfold World.cell?; rw [e]; rfl)
  have HC := hid hcells
  have HCH := hid hch
  have HBI := hid hbits
  have HLN := hid hln
  have HFA := hid hfar
  have HSS := hid hSS
  clear haddr hcells hdv hd hyl hS0 hSl hk hch hbits hrate hln hfar hSS
  obtain ⟨b0, b1, b2, b3⟩ := HC.out _ (Below.refl _ _)
  go_enter Try.func10, Try.ntmps10
  go_wp2_with fail
  generalize w.alloc (.cells #[.int .i64 (d.n : Int), .int .i64 (nb : Int), .int .i64 (rt : Int), .slice (some ⟨d.b, d.off, none⟩) d.n d.cap] 26) = W0 at *
  refine (HCK.out _ HB0.out).mono ?_
  rintro e w1 ⟨rfl, hb1⟩
  have HB1 := hid hb1
  have HBW1 := hid (HB0.out.trans (hb1.mono HB0.out.size))
  clear b0 b1 b2 b3 hb1
  obtain ⟨b0, b1, b2, b3⟩ := HC.out _ HB1.out
  go_wp2_with fail
  have kc := fun p : Kp w1 => HC.out p.w' (HB1.out.trans ((show Below w1.heap.size w1 p.w' from ⟨p.h.os, p.h.tape, p.h.output, p.h.size, fun k hk => p.h.block k hk (fun x => x)⟩).mono HB1.out.size))
  have k0 := fun p => (kc p).1
  have k1 := fun p => (kc p).2.1
  have k2 := fun p => (kc p).2.2.1
  have k3 := fun p => (kc p).2.2.2
  have HCP := hid fun p : Kp w1 => HCN.out p.w' (HBW1.out.trans ((show Below w1.heap.size w1 p.w' from ⟨p.h.os, p.h.tape, p.h.output, p.h.size, fun k hk => p.h.block k hk (fun x => x)⟩).mono HBW1.out.size))
  clear kc b0 b1 b2 b3
  refine wp_region_quiet_kp (by kernel_rfl) (by kernel_rfl) ?_
  repeat (first | go_big_quiet_step ((first | (go_at_call 26; exact kp_below (HCP.out _)) | (go_at_call 27; exact kp_below (HFR.out _)))) | fail)
  refine wpQuiet_nil ?_
  intro wq hw'
  obtain ⟨⟨wp, hq⟩, hw''⟩ := hw'
  have hw3 : wq = wp := hw''
  clear hw''
  subst hw3
  have hbq : Below w1.heap.size w1 wq := ⟨hq.os, hq.tape, hq.output, hq.size, fun k hk => hq.block k hk (fun x => x)⟩
  have HB2 := hid (HB1.out.trans (hbq.mono HB1.out.size))
  have HBW2 := hid (HBW1.out.trans (hbq.mono HBW1.out.size))
  clear hq hbq k0 k1 k2 k3
  rw [HWS.out]
  by_cases hS : 268435456 < S
  · have hSi : (268435456 : Int) < (S : Int) := by omega
    have HF := hid (wrp_no (w := w) (d := d) (e := 4) (by rw [HWC.out, if_pos hS]) (by decide) HBW2.out)
    clear hS
    go_wp2_with fail
    go_ret2
    exact HF.out
  · have hSi : ¬ (268435456 : Int) < (S : Int) := by omega
    have HW0 := hid (show wcode d = 0 by rw [HWC.out, if_neg hS])
    have hS2 : S ≤ 268435456 := by omega
    clear hS HWC HWS HCK
    rw [show ((8 + 16 + 16 % 2 : Nat) : Int) = 24 from rfl, show ((16 : Nat) : Int) = 16 from rfl] at HL16
    have hls : 8 + S + S % 2 ≤ 268435466 := by omega
    have HLE := hid (show 8 + S + S % 2 = 8 + S + S % 2 from rfl)
    obtain ⟨LS, hLS⟩ : ∃ LS, LS = 8 + S + S % 2 := ⟨_, rfl⟩
    rw [← hLS] at hls HLS
    have HLSE := hid hLS
    clear hLS HLE
    have hzn : wq.heap.size < wq.heap.size + 1 := Nat.lt_succ_self _
    have HST0 := hid (show St wq [] (wq.alloc (.cells #[.int .i64 0, .slice none 0 0] 63)) from ⟨none, 0, new_maker wq, bel_new wq _⟩)
    clear hzn
    obtain ⟨b0, b1, b2, b3⟩ := HC.out _ (HB2.out.trans ((bel_new wq (.cells #[.int .i64 0, .slice none 0 0] 63)).mono HB2.out.size))
    go_wp2_with fail
    refine (HL16.out _).mono ?_
    rintro e w3 ⟨rfl, rfl⟩
    go_wp2_with fail
    refine (HLS.out _).mono ?_
    rintro e w3 ⟨rfl, rfl⟩
    go_wp2_with fail
    have hbg1 := begin_any HST0.out ⟨#[82, 73, 70, 70]⟩ (28 + LS) (by decide) (by omega) (by decide)
    rw [show ((28 + LS : Nat) : Int) = 28 + (LS : Int) by omega] at hbg1
    refine hbg1.mono ?_
    rintro e w4 ⟨rfl, hst⟩
    have HL1 := hid (show ([] ++ nsz ⟨#[82, 73, 70, 70]⟩ (28 + LS)).length = 8 by rw [List.nil_append, nsz_len]; rfl)
    obtain ⟨L1, hL1⟩ : ∃ L1, L1 = [] ++ nsz ⟨#[82, 73, 70, 70]⟩ (28 + LS) := ⟨_, rfl⟩
    rw [← hL1] at hst HL1
    have HE1 := hid hL1
    have HS4 := hid hst
    have HS5 := hid (hst.below (bel_new w4 (.cells #[.int .u8 87, .int .u8 65, .int .u8 86, .int .u8 69] 5 (4, 5))))
    have HY5 := hid (byts4 w4)
    have hcv := conv4 w4
    clear hst hL1 hbg1 b0 b1 b2 b3
    go_wp2_with fail
    clear hcv
    change Calls _ _ _ (w4.alloc (.cells #[.int .u8 87, .int .u8 65, .int .u8 86, .int .u8 69] 5 (4, 5))) _
    refine (HS5.out.raw (m := [87, 65, 86, 69]) (n := 4) (c := 4) rfl HY5.out (fun e => by cases e) (by rw [HL1.out]; decide)).mono ?_
    rintro e w6 ⟨rfl, hst⟩
    have HS6 := hid hst
    clear hst
    go_wp2_with fail
    refine (begin_any HS6.out ⟨#[102, 109, 116, 32]⟩ 16 (by decide) (by decide) (by rw [List.length_append, HL1.out]; decide)).mono ?_
    rintro e w7 ⟨rfl, hst⟩
    have HS7 := hid hst
    obtain ⟨b0, b1, b2, b3⟩ := HC.out _ (HB2.out.trans (hst.bel.mono HB2.out.size))
    clear hst
    go_wp2_with fail
    have hnm := HNM.out w7
    unfold nms at hnm
    refine hnm.mono ?_
    rintro e w8 ⟨rfl, hb8⟩
    have HS8 := hid (HS7.out.below hb8)
    have HL8 := hid (show (L1 ++ [87, 65, 86, 69] ++ nsz ⟨#[102, 109, 116, 32]⟩ 16).length = 20 by rw [List.length_append, List.length_append, HL1.out, nsz_len]; rfl)
    clear hnm hb8 b0 b1 b2 b3
    obtain ⟨L8, hL8⟩ : ∃ L8, L8 = L1 ++ [87, 65, 86, 69] ++ nsz ⟨#[102, 109, 116, 32]⟩ 16 := ⟨_, rfl⟩
    rw [← hL8] at HS8 HL8
    have HE8 := hid hL8
    clear hL8
    have HNL := hid (nbs_len d.n rt y nb)
    have hrt : rt ≤ 1048575 := by omega
    have hnb : nb ≤ 24 := by omega
    have hrty : rt * y ≤ 25165800 := Nat.le_trans (Nat.mul_le_mul hrt HYL.out) (by decide)
    have hy24 := HYL.out
    obtain ⟨z, hz⟩ : ∃ z, z = rt * y := ⟨_, rfl⟩
    rw [← hz] at hrty ⊢
    have HZ := hid hz
    clear hz
    go_wp2_with fail
    go_loopg [43] 6 (fun gg i wr => ∃ k : Nat, k ≤ 6 ∧ gg = 6 - k ∧ i = .int .i64 k ∧ Hid (St wq (L8 ++ nbs d.n rt y nb k) wr))
    case atStart => exact ⟨0, by decide, rfl, rfl, hid (by show St wq (L8 ++ []) _; rw [List.append_nil]; exact HS8.out)⟩
    case round =>
      obtain ⟨k, hk, hg, rfl, HS⟩ := hrel
      have HG := hid hg
      clear hg
      by_cases hlt : k < 6
      · have hll := HNL.out k
        have hlen : (L8 ++ nbs d.n rt y nb k).length ≤ 100 := by rw [List.length_append, HL8.out]; omega
        have HLEN := hid hlen
        clear hll hlen
        obtain rfl | rfl | rfl | rfl | rfl | rfl : k = 0 ∨ k = 1 ∨ k = 2 ∨ k = 3 ∨ k = 4 ∨ k = 5 := by omega
        · have hix := (ix_any (.int .u64 1) (.int .u64 (d.n : Int)) (.int .u64 (rt : Int)) (.int .u64 (z : Int)) (.int .u64 (y : Int)) (.int .u64 (nb : Int)) wr).1
          have HBO := hid fun w => (show Calls Try.prog 33 #[.int .i64 0] w fun e w' => e = .returned (.int .i64 2) ∧ w = w' from bytesof_any 0 w)
          have HUE := hid (uerr_two 1 (by decide))
          have HVL := hid (show 1 < 18446744073709551616 by omega)
          clear hrt hnb hrty hy24 hr2 hr3
          go_wp2_with fail
          refine (HBO.out _).mono ?_
          rintro e w5 ⟨rfl, rfl⟩
          go_wp2_with fail
          refine (HS.out.u 1 2 HVL.out HUE.out (Nat.le_trans HLEN.out (by decide))).mono ?_
          rintro e w5 ⟨rfl, hst⟩
          have HS5 := hid hst
          clear hst
          go_wp2_with fail
          go_roundg (6 - (0 + 1))
          case measure => rw [HG.out]; decide
          case rel => exact ⟨0 + 1, by decide, rfl, by go_num, hid (by show St wq (L8 ++ (nbs d.n rt y nb 0 ++ le 1 2)) _; rw [← List.append_assoc]; exact HS5.out)⟩
        · have hix := (ix_any (.int .u64 1) (.int .u64 (d.n : Int)) (.int .u64 (rt : Int)) (.int .u64 (z : Int)) (.int .u64 (y : Int)) (.int .u64 (nb : Int)) wr).2.1
          have HBO := hid fun w => (show Calls Try.prog 33 #[.int .i64 1] w fun e w' => e = .returned (.int .i64 2) ∧ w = w' from bytesof_any 1 w)
          have HUE := hid (uerr_two d.n (by omega))
          have HVL := hid (show d.n < 18446744073709551616 by omega)
          clear hrt hnb hrty hy24 hr2 hr3
          go_wp2_with fail
          refine (HBO.out _).mono ?_
          rintro e w5 ⟨rfl, rfl⟩
          go_wp2_with fail
          refine (HS.out.u d.n 2 HVL.out HUE.out (Nat.le_trans HLEN.out (by decide))).mono ?_
          rintro e w5 ⟨rfl, hst⟩
          have HS5 := hid hst
          clear hst
          go_wp2_with fail
          go_roundg (6 - (1 + 1))
          case measure => rw [HG.out]; decide
          case rel => exact ⟨1 + 1, by decide, rfl, by go_num, hid (by show St wq (L8 ++ (nbs d.n rt y nb 1 ++ le d.n 2)) _; rw [← List.append_assoc]; exact HS5.out)⟩
        · have hix := (ix_any (.int .u64 1) (.int .u64 (d.n : Int)) (.int .u64 (rt : Int)) (.int .u64 (z : Int)) (.int .u64 (y : Int)) (.int .u64 (nb : Int)) wr).2.2.1
          have HBO := hid fun w => (show Calls Try.prog 33 #[.int .i64 2] w fun e w' => e = .returned (.int .i64 4) ∧ w = w' from bytesof_any 2 w)
          have HUE := hid (uerr_four rt (by omega))
          have HVL := hid (show rt < 18446744073709551616 by omega)
          clear hrt hnb hrty hy24 hr2 hr3
          go_wp2_with fail
          refine (HBO.out _).mono ?_
          rintro e w5 ⟨rfl, rfl⟩
          go_wp2_with fail
          refine (HS.out.u rt 4 HVL.out HUE.out (Nat.le_trans HLEN.out (by decide))).mono ?_
          rintro e w5 ⟨rfl, hst⟩
          have HS5 := hid hst
          clear hst
          go_wp2_with fail
          go_roundg (6 - (2 + 1))
          case measure => rw [HG.out]; decide
          case rel => exact ⟨2 + 1, by decide, rfl, by go_num, hid (by show St wq (L8 ++ (nbs d.n rt y nb 2 ++ le rt 4)) _; rw [← List.append_assoc]; exact HS5.out)⟩
        · have hix := (ix_any (.int .u64 1) (.int .u64 (d.n : Int)) (.int .u64 (rt : Int)) (.int .u64 (z : Int)) (.int .u64 (y : Int)) (.int .u64 (nb : Int)) wr).2.2.2.1
          have HBO := hid fun w => (show Calls Try.prog 33 #[.int .i64 3] w fun e w' => e = .returned (.int .i64 4) ∧ w = w' from bytesof_any 3 w)
          have HUE := hid (uerr_four z (by omega))
          have HVL := hid (show z < 18446744073709551616 by omega)
          clear hrt hnb hrty hy24 hr2 hr3
          go_wp2_with fail
          refine (HBO.out _).mono ?_
          rintro e w5 ⟨rfl, rfl⟩
          go_wp2_with fail
          refine (HS.out.u z 4 HVL.out HUE.out (Nat.le_trans HLEN.out (by decide))).mono ?_
          rintro e w5 ⟨rfl, hst⟩
          have HS5 := hid hst
          clear hst
          go_wp2_with fail
          go_roundg (6 - (3 + 1))
          case measure => rw [HG.out]; decide
          case rel => exact ⟨3 + 1, by decide, rfl, by go_num, hid (by show St wq (L8 ++ (nbs d.n rt y nb 3 ++ le (rt * y) 4)) _; rw [← List.append_assoc, ← HZ.out]; exact HS5.out)⟩
        · have hix := (ix_any (.int .u64 1) (.int .u64 (d.n : Int)) (.int .u64 (rt : Int)) (.int .u64 (z : Int)) (.int .u64 (y : Int)) (.int .u64 (nb : Int)) wr).2.2.2.2.1
          have HBO := hid fun w => (show Calls Try.prog 33 #[.int .i64 4] w fun e w' => e = .returned (.int .i64 2) ∧ w = w' from bytesof_any 4 w)
          have HUE := hid (uerr_two y (by omega))
          have HVL := hid (show y < 18446744073709551616 by omega)
          clear hrt hnb hrty hy24 hr2 hr3
          go_wp2_with fail
          refine (HBO.out _).mono ?_
          rintro e w5 ⟨rfl, rfl⟩
          go_wp2_with fail
          refine (HS.out.u y 2 HVL.out HUE.out (Nat.le_trans HLEN.out (by decide))).mono ?_
          rintro e w5 ⟨rfl, hst⟩
          have HS5 := hid hst
          clear hst
          go_wp2_with fail
          go_roundg (6 - (4 + 1))
          case measure => rw [HG.out]; decide
          case rel => exact ⟨4 + 1, by decide, rfl, by go_num, hid (by show St wq (L8 ++ (nbs d.n rt y nb 4 ++ le y 2)) _; rw [← List.append_assoc]; exact HS5.out)⟩
        · have hix := (ix_any (.int .u64 1) (.int .u64 (d.n : Int)) (.int .u64 (rt : Int)) (.int .u64 (z : Int)) (.int .u64 (y : Int)) (.int .u64 (nb : Int)) wr).2.2.2.2.2
          have HBO := hid fun w => (show Calls Try.prog 33 #[.int .i64 5] w fun e w' => e = .returned (.int .i64 2) ∧ w = w' from bytesof_any 5 w)
          have HUE := hid (uerr_two nb (by omega))
          have HVL := hid (show nb < 18446744073709551616 by omega)
          clear hrt hnb hrty hy24 hr2 hr3
          go_wp2_with fail
          refine (HBO.out _).mono ?_
          rintro e w5 ⟨rfl, rfl⟩
          go_wp2_with fail
          refine (HS.out.u nb 2 HVL.out HUE.out (Nat.le_trans HLEN.out (by decide))).mono ?_
          rintro e w5 ⟨rfl, hst⟩
          have HS5 := hid hst
          clear hst
          go_wp2_with fail
          go_roundg (6 - (5 + 1))
          case measure => rw [HG.out]; decide
          case rel => exact ⟨5 + 1, by decide, rfl, by go_num, hid (by show St wq (L8 ++ (nbs d.n rt y nb 5 ++ le nb 2)) _; rw [← List.append_assoc]; exact HS5.out)⟩
      · obtain rfl : k = 6 := by omega
        have HS9 := HS
        have HL9 := hid (show (L8 ++ nbs d.n rt y nb 6).length = 36 by rw [List.length_append, HL8.out]; simp [nbs, nbt, le_len])
        obtain ⟨L9, hL9⟩ : ∃ L9, L9 = L8 ++ nbs d.n rt y nb 6 := ⟨_, rfl⟩
        rw [← hL9] at HS9 HL9
        have HE9 := hid hL9
        clear HG hlt hk hL9 HS hrt hnb hrty hy24
        go_wp2_with fail
        refine (begin_any HS9.out ⟨#[100, 97, 116, 97]⟩ S (by decide) (by omega) (by rw [HL9.out]; decide)).mono ?_
        rintro e w10 ⟨rfl, hst⟩
        have HL10 := hid (show (L9 ++ nsz ⟨#[100, 97, 116, 97]⟩ S).length = 44 by rw [List.length_append, HL9.out, nsz_len]; rfl)
        obtain ⟨L10, hL10⟩ : ∃ L10, L10 = L9 ++ nsz ⟨#[100, 97, 116, 97]⟩ S := ⟨_, rfl⟩
        rw [← hL10] at hst HL10
        have HE10 := hid hL10
        have HS10 := hid hst
        have HBW10 := hid (HBW2.out.trans (hst.bel.mono HBW2.out.size))
        obtain ⟨b0, b1, b2, b3⟩ := HC.out _ (HB2.out.trans (hst.bel.mono HB2.out.size))
        clear hst hL10
        go_wp2_with fail
        refine (HCN.out _ HBW10.out).mono ?_
        rintro e w11 ⟨rfl, hb11⟩
        have HS11 := hid (HS10.out.below hb11)
        clear hb11 b0 b1 b2 b3
        go_wp2_with fail
        go_loopg [58] d.cnt (fun gg i wr => ∃ k : Nat, k ≤ d.cnt ∧ gg = d.cnt - k ∧ i = .int .i64 k ∧ Hid (St wq (L10 ++ dta d k) wr))
        case atStart => exact ⟨0, Nat.zero_le _, rfl, rfl, hid (by show St wq (L10 ++ []) _; rw [List.append_nil]; exact HS11.out)⟩
        case round =>
          obtain ⟨k, hk, hg, rfl, HS⟩ := hrel
          have HG := hid hg
          clear hg
          by_cases hlt : k < d.cnt
          · have hlt2 : (k : Int) < (d.cnt : Int) := by omega
            obtain ⟨b0, b1, b2, b3⟩ := HC.out _ (HB2.out.trans (HS.out.bel.mono HB2.out.size))
            have HDK := hid (show (L10 ++ dta d k).length ≤ 268435500 by
              have h9 := HDT.out k hk
              rw [List.length_append, HL10.out]; omega)
            go_wp2_with fail
            go_loopg [64] d.n (fun gg i wx => ∃ j : Nat, j ≤ d.n ∧ gg = d.n - j ∧ i = .int .i64 j ∧ Hid (St wq (L10 ++ dta d k ++ frp d k j) wx))
            case atStart => exact ⟨0, Nat.zero_le _, rfl, rfl, hid (by show St wq (L10 ++ dta d k ++ []) _; rw [List.append_nil]; exact HS.out)⟩
            case round =>
              clear b0 b1 b2 b3
              obtain ⟨j, hj, hg2, rfl, HX⟩ := hrel
              have HG2 := hid hg2
              clear hg2
              by_cases hjt : j < d.n
              · have hjt2 : (j : Int) < (d.n : Int) := by omega
                have hsn := H.out.below (HBW2.out.trans (HX.out.bel.mono HBW2.out.size))
                have hcl := hsn.c j hjt
                obtain ⟨bl, ol, hI⟩ := hsn.l j hjt
                have hlnj := HLN.out j hjt
                have hal := hI.addr (by rw [hlnj]; omega)
                rw [hal, hlnj] at hcl
                have hcx := hI.c k (by rw [hlnj]; exact hlt)
                obtain ⟨b0, b1, b2, b3⟩ := HC.out _ (HB2.out.trans (HX.out.bel.mono HB2.out.size))
                have HXX := hid (HXB.out j k hjt hlt)
                have HLX := hid (show (L10 ++ dta d k ++ frp d k j).length ≤ 536870912 by
                  have h9 := HFP.out k j (by omega)
                  have h8 := HDK.out
                  rw [List.length_append]; omega)
                have HSM := hid (show frp d k (j + 1) = frp d k j ++ smp (nb : Int) (d.X j k) by rw [← HBI.out]; rfl)
                clear hsn hI hal hlnj
                go_wp2_with fail
                go_still_tail 8, (by kernel_rfl)
                repeat still_step
                change wpList _ _ _ _ _ (World.drew _)
                have HB9 := hid (HX.out.below (show Below wr.heap.size wr wr.drew from ⟨rfl, rfl, rfl, Nat.le_refl _, fun _ _ => rfl⟩))
                clear b0 b1 b2 b3 HX hcl hcx
                generalize wr.drew = W at HB9 ⊢
                go_wp2_with fail
                refine (lay_any HB9.out (d.X j k) (nb : Int) (by omega) (by omega) HXX.out.1 HXX.out.2 HLX.out).mono ?_
                rintro e w12 ⟨rfl, hst⟩
                have HS12 := hid hst
                clear hst
                go_wp2_with fail
                go_roundg (d.n - (j + 1))
                case measure => rw [HG2.out]; omega
                case rel => exact ⟨j + 1, by omega, rfl, by go_num, hid (by rw [HSM.out, ← List.append_assoc]; exact HS12.out)⟩
              · have hge : ¬ (j : Int) < (d.n : Int) := by omega
                have hjn : j = d.n := by omega
                subst hjn
                go_wp2_with fail
                go_roundg (d.cnt - (k + 1))
                case measure => rw [HG.out]; omega
                case rel => exact ⟨k + 1, by omega, rfl, by go_num, hid (by show St wq (L10 ++ (dta d k ++ frp d k d.n)) _; rw [← List.append_assoc]; exact HX.out)⟩
          · have hge : ¬ (k : Int) < (d.cnt : Int) := by omega
            have hkn : k = d.cnt := by omega
            subst hkn
            have HDN := hid (show (L10 ++ dta d d.cnt).length ≤ 268435500 by
              have h9 := HDT.out d.cnt (Nat.le_refl _)
              rw [List.length_append, HL10.out]; omega)
            have hr2' : S % 2 < 2 := Nat.mod_lt _ (by decide)
            obtain ⟨rr, hrr⟩ : ∃ rr, rr = S % 2 := ⟨_, rfl⟩
            rw [← hrr] at HPD hr2'
            have HRR := hid hrr
            clear hrr
            have hmk : ∀ W, (Instr.makeSlice 29 (.int .i64 (rr : Int)) (.int .i64 (rr : Int))).run Try.prog W = .ok (.slice (some ⟨W.heap.size, 0, none⟩) rr rr) (W.alloc (.cells (madeCells #[.int .u8 0] rr) 5)) := fun W =>
              run_make_row' (P := Try.prog) 29 5 (.int .u8 0) 1 Try.underlying29 Try.info5 rfl .i64 .i64 rr (by omega) (by omega) W
            have h0 := World.rowIs_made wr (.int .u8 0) rr 5
            have HY := hid (show Byts (wr.alloc (.cells (madeCells #[.int .u8 0] rr) 5)) (some ⟨wr.heap.size, 0, none⟩) (List.replicate rr 0) from
              ⟨fun b hb => by rw [List.eq_of_mem_replicate hb]; decide, fun j x hj => by
                rw [List.getElem?_replicate] at hj
                split at hj
                · rename_i hjr
                  cases hj
                  exact ⟨wr.heap.size, 0, rfl, by rw [Nat.zero_add]; exact h0.cell hjr⟩
                · cases hj⟩)
            have HSB := hid (HS.out.below (bel_new wr (.cells (madeCells #[.int .u8 0] rr) 5)))
            clear h0
            go_wp2_with fail
            refine (HPD.out _).mono ?_
            rintro e w13 ⟨rfl, rfl⟩
            go_wp2_with fail
            clear hmk
            refine (HSB.out.raw (m := List.replicate rr 0) (n := rr) (c := rr) List.length_replicate HY.out (fun e => by cases e) (by have := HDN.out; rw [List.length_replicate]; omega)).mono ?_
            rintro e w14 ⟨rfl, hst⟩
            have HS14 := hid hst
            clear hst
            go_wp2_with fail
            refine (HS14.out.bytes (by have := HDN.out; rw [List.length_append, List.length_replicate]; omega)).mono ?_
            rintro e w15 ⟨ao, cp, rfl, hnl⟩
            have HN15 := hid hnl
            clear hnl
            go_wp2_with fail
            go_ret2
            have hwl : wlist d = L10 ++ dta d d.cnt ++ List.replicate rr 0 := by
              unfold wlist
              rw [if_pos HW0.out]
              have e1 : hdr d = L10 := by
                rw [HE10.out, HE9.out, HE8.out, HE1.out]
                unfold hdr
                rw [HSS.out, HFB.out, HLSE.out, show 4 + 24 + (8 + S + S % 2) = 28 + (8 + S + S % 2) from rfl]
                simp only [List.nil_append]
              unfold wby
              rw [e1, HSS.out, HRR.out]
            have h15 := HN15.out
            unfold WrP
            rw [HW0.out, hwl, List.length_append, List.length_replicate]
            refine ⟨ao, cp, ?_, ⟨own_mono2 h15.own HBW2.out.size, HBW2.out.trans (h15.bel.mono HBW2.out.size), h15.lt⟩⟩
            rw [show (L10 ++ dta d d.cnt).length + rr = L10.length + ((dta d d.cnt).length + rr) by rw [List.length_append, Nat.add_assoc]]
            rfl
end Go.Proofs.Ytkdpalmdcnpnoaa.Wv
namespace Go.Proofs.Ytkdpalmdcnpnoaa.Wv
open Go.RowKit Gen Fld Pcm

set_option maxRecDepth 20000 in
theorem write_any {w : World} {d : Dat} (h : Snd w d) : Calls Try.prog 10 #[d.v] w (WrP w d) := by
  by_cases hk : d.chk = 0
  · obtain ⟨hr, hch, _⟩ := chk_ok hk
    have hr2 := hr.2.1
    have hr3 := hr.2.2
    have e1 : d.f.bits = ((d.f.bits.toNat : Nat) : Int) := by omega
    have e2 : d.f.rate = ((d.f.rate.toNat : Nat) : Int) := by omega
    have h9 := write_ok h hk d.f.bits.toNat d.f.rate.toNat e1 e2
    rw [← e1, ← e2, hch] at h9
    exact h9
  · have HCK := hid fun (w' : World) (hb : Below w.heap.size w w') => check_any w' d (h.below hb)
    unfold Dat.v at HCK
    have HB0 := hid (below_new w (.cells #[.int .i64 d.f.ch, .int .i64 d.f.bits, .int .i64 d.f.rate, .slice d.a d.n d.cap] 26))
    obtain ⟨b0, b1, b2, b3⟩ := bx_new w d
    have q0 : (d.chk != 0) = true := by rw [bne_iff_ne]; exact hk
    have HW := hid fun (w' : World) (hb : Below w.heap.size w w') => wrp_no (w := w) (w' := w') (d := d) (e := d.chk) (by unfold wcode; rw [if_neg hk]) hk hb
    show Calls Try.prog 10 #[.agg #[.int .i64 d.f.ch, .int .i64 d.f.bits, .int .i64 d.f.rate, .slice d.a d.n d.cap]] w _
    clear hk
    go_enter Try.func10, Try.ntmps10
    go_wp2_with fail
    generalize w.alloc (.cells #[.int .i64 d.f.ch, .int .i64 d.f.bits, .int .i64 d.f.rate, .slice d.a d.n d.cap] 26) = W0 at *
    refine (HCK.out _ HB0.out).mono ?_
    rintro e w1 ⟨rfl, hb1⟩
    have HF := hid (HW.out w1 (HB0.out.trans (hb1.mono HB0.out.size)))
    clear hb1 b0 b1 b2 b3
    go_wp2_with fail
    go_ret2
    exact HF.out
end Go.Proofs.Ytkdpalmdcnpnoaa.Wv
namespace Go.Proofs.Ytkdpalmdcnpnoaa.Wv
open Go.RowKit Gen Fld Pcm

/-- The silence of the fixed calls. -/
structure Sil (d : Dat) : Prop where
  f : d.f = ⟨1, 8, 8000⟩
  n : d.n = 1
  ln : ∀ i, i < d.n → d.ln i = 2 ∧ d.X i = fun _ => 0
theorem Sil.cnt {d : Dat} (h : Sil d) : d.cnt = 2 := by
  unfold Dat.cnt
  rw [if_neg (by rw [h.n]; decide)]
  exact (h.ln 0 (by rw [h.n]; decide)).1
theorem Sil.chk {d : Dat} (h : Sil d) : d.chk = 0 := by
  unfold Dat.chk
  have h1 : d.unlike = false := by
    unfold Dat.unlike
    rw [h.n, h.cnt]
    show (false || ((d.ln 0 : Int) != ((2 : Nat) : Int))) = false
    rw [(h.ln 0 (by rw [h.n]; decide)).1]
    rfl
  have h2 : d.far = false := by
    unfold Dat.far
    rw [h.n, h.f]
    show (false || anyB (fun j => beyond (2 ^ ((8 : Int).toNat - 1)) (d.X 0 j)) (d.ln 0)) = false
    rw [(h.ln 0 (by rw [h.n]; decide)).1, (h.ln 0 (by rw [h.n]; decide)).2]
    decide
  rw [h.f, h.n, h.cnt, h1, h2]
  decide
theorem Sil.dsz {d : Dat} (h : Sil d) : dsz d = 2 := by
  unfold Wv.dsz
  rw [h.cnt, h.n, h.f]
  decide
theorem Sil.wcode {d : Dat} (h : Sil d) : wcode d = 0 := by
  unfold Wv.wcode
  rw [if_pos h.chk, h.dsz]
  decide
theorem Sil.dta {d : Dat} (h : Sil d) : dta d d.cnt = [128, 128] := by
  rw [h.cnt]
  show ([] ++ frp d 0 d.n) ++ frp d 1 d.n = _
  rw [h.n]
  show ([] ++ ([] ++ smp d.f.bits (d.X 0 0))) ++ ([] ++ smp d.f.bits (d.X 0 1)) = _
  rw [h.f, (h.ln 0 (by rw [h.n]; decide)).2]
  decide
theorem Sil.wlist {d : Dat} (h : Sil d) : (wlist d).length = 46 ∧ (wlist d).take 4 = [82, 73, 70, 70] ∧ (wlist d).drop 44 = [128, 128] := by
  have e : Wv.wlist d = wby d := by unfold Wv.wlist; rw [if_pos h.wcode]
  rw [e]
  refine ⟨by rw [wby_len, h.dsz], ?_, ?_⟩
  · unfold wby hdr nsz
    simp only [List.append_assoc]
    rfl
  · unfold wby
    rw [h.dta, h.dsz, List.append_assoc]
    exact List.drop_left' (hdr_len d)
end Go.Proofs.Ytkdpalmdcnpnoaa.Wv
namespace Go.Proofs.Ytkdpalmdcnpnoaa.Wv
open Go.RowKit Gen Fld Pcm

set_option maxRecDepth 20000 in
set_option maxHeartbeats 1000000 in
theorem known_true (w : World) : Calls Try.prog 9 #[] w fun e w' => e = .returned (.bool true) ∧ Below w.heap.size w w' := by
  have HSI := hid (show ∀ w, Calls Try.prog 24 #[.agg #[.int .i64 1, .int .i64 8, .int .i64 8000], .int .i64 2] w fun e w' => ∃ (d : Dat) (G : Nat → Nat), e = .returned d.v ∧ Snd w' d ∧ NewSnd w.heap.size w' d ∧ Below w.heap.size w w' ∧ d.f = ⟨1, 8, 8000⟩ ∧ d.n = 1 ∧ (∀ i, i < d.n → d.ln i = 2 ∧ d.X i = fun _ => 0) ∧ Own w.heap.size w' d G from fun w => rsil2_any w ⟨1, 8, 8000⟩ 1 2 rfl (by decide) (by decide))
  go_enter Try.func9, Try.ntmps9
  go_wp2_with fail
  refine (HSI.out _).mono ?_
  rintro e w1 ⟨d, G, rfl, hs, _, hb1, hf, hn, hln, _⟩
  have hsil : Sil d := ⟨hf, hn, hln⟩
  have HW := hid (write_any hs)
  have HC0 := hid hsil.wcode
  have HL := hid hsil.wlist
  have HB1 := hid hb1
  clear hs hb1 hf hn hln hsil
  generalize hv : d.v = V at *
  clear hv
  go_wp2_with fail
  refine HW.out.mono ?_
  intro e w2 hp
  unfold WrP at hp
  rw [HC0.out] at hp
  obtain ⟨ao, c, rfl, hnl⟩ := hp
  have hby := hnl.byts
  obtain ⟨l1, l2, l3⟩ := HL.out
  have hcap := hnl.cap
  have HB2 := hid (HB1.out.trans (hnl.bel.mono HB1.out.size))
  obtain ⟨g, rfl⟩ : ∃ g, ao = some ⟨g, 0, none⟩ := by
    rcases own_at hnl.own with ⟨_, h1, _⟩ | ⟨g, h1, _⟩
    · omega
    · exact ⟨g, h1⟩
  have cvA := (hby.drop 44).conv (c - 44)
  have cvB := (hby.take 4).conv c
  rw [l3] at cvA
  rw [l2] at cvB
  rw [l1] at hcap ⊢
  have cvA2 : (convert 29 9 (.slice (some ⟨g, 44, none⟩) 2 (c - 44))).run Try.prog w2 = .ok (.string ⟨#[128, 128]⟩) w2 := cvA
  have cvB2 : (convert 29 9 (.slice (some ⟨g, 0, none⟩) 4 c)).run Try.prog w2 = .ok (.string ⟨#[82, 73, 70, 70]⟩) w2 := cvB
  have hc1 : 46 ≤ c := hcap
  have hc2 : (46 : Int) ≤ (c : Int) := by omega
  have hc3 : (4 : Int) ≤ (c : Int) := by omega
  have hc4 : ¬ c - 44 = 0 := by omega
  clear cvA cvB hby hnl l1 l2 l3 hcap HL HC0 HW HB1 HSI
  go_wp2_with fail
  go_ret
  exact ⟨rfl, HB2.out⟩
end Go.Proofs.Ytkdpalmdcnpnoaa.Wv
namespace Go.Proofs.Ytkdpalmdcnpnoaa.Wv
open Go.RowKit Gen Fld

set_option maxRecDepth 20000 in
theorem rpow_any (n : Nat) (hn : n ≤ 62) (w : World) : Calls Try.prog 75 #[.int .i64 (n : Int)] w fun e w' => e = .returned (.int .i64 ((2 ^ n : Nat) : Int)) ∧ w = w' := by
  go_enter Try.func75, Try.ntmps75
  go_wp2_with fail
  go_loop [3, 4] (fun p i => ∃ k : Nat, k ≤ n ∧ i = .int .i64 k ∧ p = .int .i64 ((2 ^ k : Nat) : Int)) (fun _ i => 62 - (intOf i).toNat)
  case atStart => exact ⟨0, Nat.zero_le _, rfl, rfl⟩
  case round =>
    obtain ⟨k, hk, rfl, rfl⟩ := hrel
    have hs : 2 * 2 ^ k = 2 ^ (k + 1) := by rw [Nat.pow_succ, Nat.mul_comm]
    by_cases hlt : k < n
    · have h1 : (k : Int) < (n : Int) := by omega
      have h2 : (k : Int) < 62 := by omega
      have HS := hid hs
      clear hs
      have hp2 : 2 ^ k ≤ 2305843009213693952 := Nat.le_trans (Nat.pow_le_pow_right (by decide) (show k ≤ 61 by omega)) (by decide)
      generalize 2 ^ k = p at *
      go_wp2_with fail
      go_round
      case rel => exact ⟨k + 1, by omega, by go_num, congrArg (Value.int .i64) (by rw [← HS.out]; omega)⟩
      case measure => simp [intOf]; omega
    · obtain rfl : k = n := by omega
      have hp0 : ¬ (k : Int) < (k : Int) := by omega
      clear hs
      generalize hpe : 2 ^ k = p at *
      have HPE := hid hpe
      clear hpe
      go_wp2_with fail
      go_ret
      refine ⟨?_, rfl⟩
      show Ending.returned (.int .i64 (p : Int)) = _
      rw [← HPE.out]
      push_cast
      rfl
end Go.Proofs.Ytkdpalmdcnpnoaa.Wv
namespace Go.Proofs.Ytkdpalmdcnpnoaa.Wv
open Go.RowKit Gen Fld

/-- What a call leaves that answers with bytes in new memory. -/
def LP (w : World) (l : List Nat) (e : Ending) (w' : World) : Prop := ∃ ao cap, e = .returned (.slice ao l.length cap) ∧ NL w ao cap l w'
theorem le_one (v : Nat) (h : v < 256) : le v 1 = [v] := by
  show [] ++ [v / 2 ^ (8 * 0) % 256] = [v]
  rw [Nat.mul_zero, Nat.pow_zero, Nat.div_one, Nat.mod_eq_of_lt h]; rfl
set_option maxRecDepth 20000 in
theorem rsample_any (x n : Int) (hn1 : 8 ≤ n) (hn2 : n ≤ 24) (h1 : -(2 ^ (n.toNat - 1) : Int) ≤ x) (h2 : x ≤ 2 ^ (n.toNat - 1) - 1) (w : World) :
    Calls Try.prog 53 #[.int .i64 x, .int .i64 n] w (LP w (smp n x)) := by
  by_cases h8 : n = 8
  · subst h8
    have hx1 : -128 ≤ x := h1
    have hx2 : x ≤ 127 := h2
    obtain ⟨v, hv⟩ : ∃ v : Nat, x + 128 = v := ⟨(x + 128).toNat, by omega⟩
    have hvl : v < 256 := by omega
    have HS := hid (show smp 8 x = [v] by
      show le (x + 128).toNat 1 = [v]
      rw [hv, Int.toNat_natCast, le_one v hvl])
    have HU := hid (show wrap64 (v : Int) % 256 = (v : Int) by unfold wrap64; omega)
    have HF := hid (show LP w [v] (.returned (.slice (some ⟨w.heap.size, 0, none⟩) 1 1)) (w.alloc (.cells #[.int .u8 (v : Int)] 5)) from ⟨some ⟨w.heap.size, 0, none⟩, 1, rfl, World.ownsRow_lit w _ 1 (Nat.le_refl _) (by unfold maxLen; omega) rfl, bel_new w _, fun b hb => by rw [List.mem_singleton.1 hb]; exact hvl⟩)
    clear h1 h2 hx1 hx2 hvl
    go_enter Try.func53, Try.ntmps53
    go_wp2_with fail
    rw [HU.out]
    go_ret
    rw [HS.out]
    exact HF.out
  · have q8 : (n == 8) = false := by rw [beq_eq_false_iff_ne]; exact h8
    obtain ⟨hd2, hdf, hf7⟩ := wd_fre (n := n) (by omega) hn2
    have hd3 := wd_le n
    have HS := hid (show smp n x = le (u64 (x * 2 ^ fre n)) (wd n) by unfold smp; rw [if_neg h8])
    have HE := hid (smp_err n.toNat (fre n) (wd n) x (by omega) hdf (by omega) (by omega) h1 h2)
    obtain ⟨hy1, hy2⟩ := smp_in n.toNat (fre n) (wd n) x (by omega) hdf hd3 h1 h2
    have HWD := hid fun w => rwidth_any n w
    have HPW := hid fun w => rpow_any (fre n) (by omega) w
    have hfr : 8 * (wd n : Int) - n = (fre n : Int) := by omega
    generalize fre n = F at *
    generalize wd n = d at *
    obtain ⟨y, hy⟩ : ∃ y, y = x * 2 ^ F := ⟨_, rfl⟩
    rw [← hy] at HS HE hy1 hy2
    obtain ⟨P, hP⟩ : ∃ P : Nat, P = 2 ^ F := ⟨_, rfl⟩
    rw [← hP] at HPW
    have hw : wrap64 (x * (P : Int)) = y := by rw [hP]; push_cast; rw [← hy]; unfold wrap64; omega
    have HI := hid fun w => ri_any y (d : Int) (by omega) (by omega) w
    rw [HE.out] at HI
    have HW := hid hw
    clear h1 h2 hy hdf h8 hP hw
    go_enter Try.func53, Try.ntmps53
    go_wp2_with fail
    refine (HWD.out _).mono ?_
    rintro e w1 ⟨rfl, rfl⟩
    go_wp2_with fail
    refine (HPW.out _).mono ?_
    rintro e w1 ⟨rfl, rfl⟩
    have hw := HW.out
    go_wp2_with fail
    refine (HI.out _).mono ?_
    rintro e w2 ⟨ao, cap, rfl, ho, hb⟩
    have HF := hid (show LP w (le (u64 y) d) (.returned (.slice ao (le (u64 y) d).length cap)) w2 from ⟨ao, cap, rfl, ho, hb, le_lt _ _⟩)
    clear ho hb hw
    go_wp2_with fail
    go_ret
    rw [HS.out]
    exact HF.out
end Go.Proofs.Ytkdpalmdcnpnoaa.Wv
namespace Go.Proofs.Ytkdpalmdcnpnoaa.Wv
open Go.RowKit Gen Fld

/-- Bytes of a call's own, to which may be appended. -/
structure WR (w : World) (base : Nat) (ao : Option Addr) (cap : Nat) (l : List Nat) : Prop where
  lt : ∀ b ∈ l, b < 256
  row : (ao = none ∧ l = [] ∧ cap = 0) ∨ ∃ g, ao = some ⟨g, 0, none⟩ ∧ base ≤ g ∧ g < w.heap.size ∧ l.length ≤ cap ∧ cap ≤ maxLen ∧
    (∀ j, j < cap → (w.cell? ⟨g, j, none⟩).isSome = true) ∧ (∀ j, j < cap → w.frozen? ⟨g, j, none⟩ = false) ∧ (∀ (j x : Nat), l[j]? = some x → w.cell? ⟨g, j, none⟩ = some (.int .u8 (x : Int)))
theorem WR.byts {w : World} {base : Nat} {ao : Option Addr} {cap : Nat} {l : List Nat} (h : WR w base ao cap l) : Byts w ao l := by
  refine ⟨h.lt, fun j x hj => ?_⟩
  rcases h.row with ⟨_, rfl, _⟩ | ⟨g, e, _, _, _, _, _, _, hc⟩
  · simp at hj
  · exact ⟨g, 0, e, by rw [Nat.zero_add]; exact hc j x hj⟩
theorem WR.cap {w : World} {base : Nat} {ao : Option Addr} {cap : Nat} {l : List Nat} (h : WR w base ao cap l) : l.length ≤ cap := by
  rcases h.row with ⟨_, rfl, rfl⟩ | ⟨g, e, _, _, hn, _⟩
  · exact Nat.le_refl _
  · exact hn
theorem WR.nil {w : World} {base : Nat} {ao : Option Addr} {cap : Nat} {l : List Nat} (h : WR w base ao cap l) : ao = none → l.length = 0 ∧ cap = 0 := fun e => by
  rcases h.row with ⟨_, rfl, rfl⟩ | ⟨g, e2, _⟩
  · exact ⟨rfl, rfl⟩
  · rw [e] at e2; cases e2
theorem WR.blt {w : World} {base : Nat} {ao : Option Addr} {cap : Nat} {l : List Nat} (h : WR w base ao cap l) : ∀ b, blk ao = some b → base ≤ b ∧ b < w.heap.size := fun b hb => by
  rcases h.row with ⟨rfl, _, _⟩ | ⟨g, rfl, h1, h2, _⟩
  · cases hb
  · cases hb; exact ⟨h1, h2⟩
theorem WR.addr {w : World} {base : Nat} {ao : Option Addr} {cap : Nat} {l : List Nat} (h : WR w base ao cap l) (hl : 0 < l.length) : ∃ g, ao = some ⟨g, 0, none⟩ := by
  rcases h.row with ⟨_, rfl, _⟩ | ⟨g, e, _⟩
  · cases hl
  · exact ⟨g, e⟩
theorem WR.block {w w' : World} {base : Nat} {ao : Option Addr} {cap : Nat} {l : List Nat} (h : WR w base ao cap l) (hs : w.heap.size ≤ w'.heap.size) (hb : ∀ g, blk ao = some g → w'.heap[g]? = w.heap[g]?) : WR w' base ao cap l := by
  refine ⟨h.lt, h.row.imp id ?_⟩
  rintro ⟨g, rfl, h1, h2, h3, h4, h5, h6, h7⟩
  have e := hb g rfl
  exact ⟨g, rfl, h1, Nat.lt_of_lt_of_le h2 hs, h3, h4, fun j hj => by rw [World.cell?_of_block (a := ⟨g, j, none⟩) e]; exact h5 j hj, fun j hj => by rw [World.frozen?_of_block (a := ⟨g, j, none⟩) e]; exact h6 j hj,
    fun j x hj => by rw [World.cell?_of_block (a := ⟨g, j, none⟩) e]; exact h7 j x hj⟩
theorem WR.keep {w w' : World} {base : Nat} {ao : Option Addr} {cap : Nat} {l : List Nat} (h : WR w base ao cap l) (hb : Below w.heap.size w w') : WR w' base ao cap l := h.block hb.size fun g hg => hb.block g (h.blt g hg).2
theorem WR.mono {w : World} {base base' : Nat} {ao : Option Addr} {cap : Nat} {l : List Nat} (h : WR w base ao cap l) (hb : base' ≤ base) : WR w base' ao cap l :=
  ⟨h.lt, h.row.imp id fun ⟨g, e, h1, h2⟩ => ⟨g, e, Nat.le_trans hb h1, h2⟩⟩
theorem WR.of_own {w : World} {base : Nat} {ao : Option Addr} {n cap : Nat} {l : List Nat} (hlt : ∀ b ∈ l, b < 256) (h : w.ownsRow base 5 1 (.slice ao n cap) n (bl l)) : WR w base ao cap l := by
  refine ⟨hlt, ?_⟩
  have hl := h.1
  rw [bl_len, Nat.mul_one] at hl
  rcases h.2 with ⟨hv, h0⟩ | ⟨g, c, cur, hv, q1, q2, q3, q4, q5, q6⟩
  · cases hv; exact .inl ⟨rfl, List.eq_nil_of_length_eq_zero (by omega), rfl⟩
  · cases hv
    rw [Nat.mul_one] at q5
    refine .inr ⟨g, rfl, q1, (Array.getElem?_eq_some_iff.1 q2).1, by omega, q4, fun j hj => ?_, fun j hj => ?_, fun j x hj => ?_⟩
    · unfold World.cell?; rw [q2]; simp; omega
    · unfold World.frozen?; rw [q2]; simp
    · exact ownsRow_cell h j _ (by rw [bl_at, hj]; rfl)
/-- A text's bytes in new memory. -/
theorem WR.of_string (w : World) (s : ByteArray) (hs : s.size ≤ 1099511627776) : WR (Lib.bytesWorld w 5 s) w.heap.size (some ⟨w.heap.size, 0, none⟩) (grownCap w s.size 0 5) (sb s) := by
  have hb := byts_of_string w s
  have hat := Lib.bytesWorld_at_new w 5 s
  have hz : (Lib.bytesCells w 5 s).size = grownCap w s.size 0 5 := by
    have := grownCap_ge w s.size 0 5
    have e : s.data.size = s.size := rfl
    simp only [Lib.bytesCells, Array.size_append, Array.size_map, Array.size_replicate, e]
    omega
  refine ⟨hb.lt, .inr ⟨w.heap.size, rfl, Nat.le_refl _, by rw [Lib.bytesWorld_size]; omega, by rw [sb_len]; exact grownCap_ge w s.size 0 5, grownCap_le_maxLen w _ 0 5 (by unfold maxLen; omega), fun j hj => ?_, fun j hj => ?_, fun j x hj => ?_⟩⟩
  · unfold World.cell?; rw [hat]; simp; omega
  · unfold World.frozen?; rw [hat]; simp; omega
  · obtain ⟨b, off, e, hc⟩ := hb.at_ j x hj
    cases e
    rw [Nat.zero_add] at hc; exact hc
theorem setCells_heap (g : Nat) : ∀ (vs : List Value) (o : Nat) (w : World), (w.setCells g o vs).heap.size = w.heap.size ∧ (∀ k, k ≠ g → (w.setCells g o vs).heap[k]? = w.heap[k]?) ∧ (w.setCells g o vs).os = w.os ∧ (w.setCells g o vs).tape = w.tape ∧ (w.setCells g o vs).output = w.output
  | [], _, w => ⟨rfl, fun _ _ => rfl, rfl, rfl, rfl⟩
  | v :: r, o, w => by
    obtain ⟨h1, h2, h3, h4, h5⟩ := setCells_heap g r (o + 1) (w.setCell ⟨g, o, none⟩ v)
    rw [World.setCells]
    exact ⟨h1.trans (by simp [World.setCell]), fun k hk => (h2 k hk).trans (Below.heap_setCell w ⟨g, o, none⟩ v k hk), h3, h4, h5⟩
theorem bl_isb (l : List Nat) (j : Nat) (u : Value) (h : (bl l)[j]? = some u) : ∃ x, l[j]? = some x ∧ u = .int .u8 (x : Int) := by
  rw [bl_at] at h
  cases hx : l[j]? with
  | none => rw [hx] at h; cases h
  | some x => rw [hx] at h; cases h; exact ⟨x, rfl, rfl⟩
theorem run_append_any {P : Program} (w : World) (t ty : TypeId) (base : Nat) (i : TypeInfo) (z : Value) (h1 : P.underlying t = some (.slice 5)) (h2 : P.info? 5 = some i) (h3 : i.zero = some z) (h4 : i.size = 1) (h5 : i.bytes = 1) (h6 : z.cells.size = 1)
    {ao : Option Addr} {cap : Nat} {l : List Nat} (hw : WR w base ao cap l) {bo : Option Addr} {c : Nat} {m : List Nat} (hm : Byts w bo m) (hn : bo = none → m.length = 0 ∧ c = 0) (hb1 : l.length + m.length ≤ 1099511627776) (hbase : base ≤ w.heap.size) :
    ∃ ao' cap' w', (Builtin.append_ #[t, t] ty #[.slice ao l.length cap, .slice bo m.length c]).run P w = .ok (.slice ao' (l.length + m.length) cap') w' ∧ WR w' base ao' cap' (l ++ m) ∧ w.grownBy w' (blk ao) ∧ (blk ao' = blk ao ∨ ∀ g, blk ao' = some g → w.heap.size ≤ g) := by
  have hlt2 : ∀ b ∈ l ++ m, b < 256 := fun b hb => (List.mem_append.1 hb).elim (hw.lt b) (hm.lt b)
  have b1 : l.length + m.length ≤ maxLen := by unfold maxLen; omega
  have b2 : (l.length + m.length) * 1 ≤ 140737488355328 := by omega
  have hnews := hm.cells
  cases bo with
  | none =>
    obtain ⟨h0, rfl⟩ := hn rfl
    obtain rfl : m = [] := List.eq_nil_of_length_eq_zero h0
    refine ⟨ao, cap, w, ?_, by rw [List.append_nil]; exact hw, World.grownBy.refl _ _, .inl rfl⟩
    have hnc := hw.cap
    rcases hw.row with ⟨rfl, rfl, rfl⟩ | ⟨g, rfl, _⟩
    · simp [Builtin.append_, run_underlying h1, sizeOf, typeInfo, h2, Builtin.lenOf, Builtin.firstCells]
    · simp [Builtin.append_, run_underlying h1, sizeOf, typeInfo, h2, Builtin.lenOf, Builtin.firstCells, hnc, storeCells]
  | some ad =>
    rcases hw.row with ⟨rfl, rfl, rfl⟩ | ⟨g, rfl, q1, q2, q3, q4, q5, q6, q7⟩
    · obtain ⟨v', w', hrun, r1, r2, r3⟩ := run_append_own (P := P) w w.heap.size t ty 5 i z 1 1 h1 h2 h3 h4 h5 h6 (by decide) (.slice none 0 0) 0 [] (World.ownsRow_nil w _ 5 1) ad m.length c (bl m) (by rw [bl_len, Nat.mul_one]) (hnews ad rfl) (bl_one m) (by simpa using b1) (by simpa using b2) (Nat.le_refl _)
      rw [List.nil_append] at r1
      have hrun2 : (Builtin.append_ #[t, t] ty #[.slice none ([] : List Nat).length 0, .slice (some ad) m.length c]).run P w = .ok v' w' := hrun
      rcases r1.2 with ⟨rfl, h0⟩ | ⟨g, c', cur, rfl, q⟩
      · refine ⟨none, 0, w', by rw [hrun2]; congr 2; simpa using h0.symm, ?_, r2, .inl rfl⟩
        have : m = [] := List.eq_nil_of_length_eq_zero (by omega)
        subst this
        exact ⟨(fun _ h => by cases h), .inl ⟨rfl, rfl, rfl⟩⟩
      · have hf := World.ownsRow.lt r1 g rfl
        refine ⟨_, c', w', hrun2, by rw [List.nil_append]; exact (WR.of_own (n := 0 + m.length) hm.lt r1).mono hbase, r2, .inr fun g' hg' => ?_⟩
        cases hg'
        exact hf.1
    · by_cases hroom : l.length + m.length ≤ cap
      · have hf := run_firstCells_some (P := P) w 1 m.length ad m.length c (bl m) (by rw [bl_len, Nat.mul_one]) (hnews ad rfl)
        have hst := run_storeCells_cells (P := P) g l.length (bl m) 0 w (fun j hj => q5 _ (by rw [bl_len] at hj; omega)) (fun j hj => q6 _ (by rw [bl_len] at hj; omega)) (bl_one m)
        rw [Nat.add_zero] at hst
        refine ⟨some ⟨g, 0, none⟩, cap, w.setCells g l.length (bl m), ?_, ?_, ?_, .inl rfl⟩
        · simp [Builtin.append_, run_underlying h1, sizeOf, typeInfo, h2, h4, Builtin.lenOf, hroom, hf, Addr.add_lit, hst]
        · obtain ⟨e1, e2, _⟩ := setCells_heap g (bl m) l.length w
          have hin := World.cell?_setCells_in g (bl m) l.length w (fun j hj => q5 _ (by rw [bl_len] at hj; omega))
          have hout := fun j (hj : j < l.length ∨ l.length + m.length ≤ j) => World.cell?_setCells_out g (bl m) l.length w ⟨g, j, none⟩ (fun _ _ => by rw [bl_len]; exact hj)
          have hc : ∀ (j x : Nat), (l ++ m)[j]? = some x → (w.setCells g l.length (bl m)).cell? ⟨g, j, none⟩ = some (.int .u8 (x : Int)) := fun j x hj => by
            by_cases hjl : j < l.length
            · rw [hout j (.inl hjl)]
              exact q7 j x (by rwa [List.getElem?_append_left hjl] at hj)
            · rw [List.getElem?_append_right (by omega)] at hj
              have hjm := (List.getElem?_eq_some_iff.1 hj).1
              have h9 := hin (j - l.length) (by rw [bl_len]; exact hjm)
              rw [show l.length + (j - l.length) = j from by omega] at h9
              rw [h9]
              have h8 := bl_at m (j - l.length)
              rw [hj, List.getElem?_eq_getElem (by rw [bl_len]; exact hjm)] at h8
              exact h8
          refine ⟨hlt2, .inr ⟨g, rfl, q1, by rw [e1]; exact q2, by rw [List.length_append]; exact hroom, q4, fun j hj => ?_, fun j hj => by rw [World.frozen?_setCells]; exact q6 j hj, hc⟩⟩
          by_cases hj2 : j < l.length ∨ l.length + m.length ≤ j
          · rw [hout j hj2]; exact q5 j hj
          · have h9 := hin (j - l.length) (by rw [bl_len]; omega)
            rw [show l.length + (j - l.length) = j from by omega] at h9
            rw [h9]; rfl
        · obtain ⟨e1, e2, e3, e4, e5⟩ := setCells_heap g (bl m) l.length w
          exact ⟨e3, e4, e5, by rw [e1]; exact Nat.le_refl _, fun k _ hk => e2 k (fun e => hk (by rw [e]; rfl))⟩
      · obtain ⟨v', w', hrun, r1, r2⟩ := run_append_arg_grows (P := P) w t ty 5 i z 1 1 h1 h2 h3 h4 h5 h6 (by decide) ⟨g, 0, none⟩ l.length cap (bl l) (by rw [bl_len, Nat.mul_one]) (fun j u hj => by
            obtain ⟨x, hx, rfl⟩ := bl_isb l j u hj
            rw [Addr.add_lit, Nat.zero_add]; exact q7 j x hx) ad m.length c (bl m) (by rw [bl_len, Nat.mul_one]) (hnews ad rfl) (by omega) b1 b2
        rw [← bl_app] at r1
        have hl := r1.lt
        rcases r1.2 with ⟨rfl, h0⟩ | ⟨g', c', cur, rfl, q⟩
        · omega
        · refine ⟨_, c', w', hrun, (WR.of_own hlt2 r1).mono hbase, ⟨r2.os, r2.tape, r2.output, r2.size, fun k hk _ => r2.block k hk (by simp)⟩, .inr fun g2 hg2 => (hl g2 (by rw [ownBlock_slice]; exact hg2)).1⟩
end Go.Proofs.Ytkdpalmdcnpnoaa.Wv
namespace Go.Proofs.Ytkdpalmdcnpnoaa.Wv
open Go.RowKit Gen Fld

section
variable {P : Program} {ops : Array Oper} {o : Oper} {a : Act} {K : Act → World → Prop} {Q : Exit → Act → World → Prop}
theorem wp_append_any (w : World) (s x : Operand) (t : TypeId)
    (hop : o.op = .call { callee := .builtin .append, args := #[s, x], argTypes := #[t, t] })
    (base : Nat) (i : TypeInfo) (z : Value) (h1 : P.underlying t = some (.slice 5)) (h2 : P.info? 5 = some i) (h3 : i.zero = some z) (h4 : i.size = 1) (h5 : i.bytes = 1) (h6 : z.cells.size = 1)
    (ao : Option Addr) (n cap : Nat) (l : List Nat) (hn : l.length = n) (hs : a.eval s = .slice ao n cap) (hw : WR w base ao cap l)
    (bo : Option Addr) (k c : Nat) (m : List Nat) (hk : m.length = k) (hx : a.eval x = .slice bo k c) (hm : Byts w bo m) (hnil : bo = none → m.length = 0 ∧ c = 0)
    (hb : n + k ≤ 1099511627776) (hbase : base ≤ w.heap.size)
    (hK : ∀ ao' cap' w', WR w' base ao' cap' (l ++ m) → w.grownBy w' (blk ao) → (blk ao' = blk ao ∨ ∀ g, blk ao' = some g → w.heap.size ≤ g) → K (a.put o.dst (.slice ao' (n + k) cap')) w') :
    Oper.wp P o a w K Q := by
  subst hn
  subst hk
  obtain ⟨ao', cap', w', hrun, r1, r2, r3⟩ := run_append_any (P := P) w t o.type base i z h1 h2 h3 h4 h5 h6 hw hm hnil hb hbase
  unfold Oper.wp
  simp [execOp, hop, resolve, invoke, builtin, hs, hx, hrun, Result.andThen]
  exact hK ao' cap' w' r1 r2 r3
theorem step_append_any {w : World} {E : Prop} (hgd : o.guard = none) (s x : Operand) (t : TypeId)
    (hop : o.op = .call { callee := .builtin .append, args := #[s, x], argTypes := #[t, t] })
    (base : Nat) (i : TypeInfo) (z : Value) (h1 : P.underlying t = some (.slice 5)) (h2 : P.info? 5 = some i) (h3 : i.zero = some z) (h4 : i.size = 1) (h5 : i.bytes = 1) (h6 : z.cells.size = 1)
    (ao : Option Addr) (n cap : Nat) (l : List Nat) (hn : l.length = n) (hs : a.eval s = .slice ao n cap) (hw : WR w base ao cap l)
    (bo : Option Addr) (k c : Nat) (m : List Nat) (hk : m.length = k) (hx : a.eval x = .slice bo k c) (hm : Byts w bo m) (hnil : bo = none → m.length = 0 ∧ c = 0)
    (hb : n + k ≤ 1099511627776) (hbase : base ≤ w.heap.size)
    (hK : ∀ ao' cap' w', WR w' base ao' cap' (l ++ m) → w.grownBy w' (blk ao) → (blk ao' = blk ao ∨ ∀ g, blk ao' = some g → w.heap.size ≤ g) → K (a.put o.dst (.slice ao' (n + k) cap')) w') :
    if Region.wanted o (yielded ops a.tmps) = true then Oper.wp P o a w K Q else E := by
  have hw' : Region.wanted o (yielded ops a.tmps) = true := by simp [Region.wanted, hgd]
  rw [if_pos hw']
  exact wp_append_any w s x t hop base i z h1 h2 h3 h4 h5 h6 ao n cap l hn hs hw bo k c m hk hx hm hnil hb hbase hK
theorem wpList_append_any (w : World) {rest : List Oper} (hgd : o.guard = none) (s x : Operand) (t : TypeId)
    (hop : o.op = .call { callee := .builtin .append, args := #[s, x], argTypes := #[t, t] })
    (base : Nat) (i : TypeInfo) (z : Value) (h1 : P.underlying t = some (.slice 5)) (h2 : P.info? 5 = some i) (h3 : i.zero = some z) (h4 : i.size = 1) (h5 : i.bytes = 1) (h6 : z.cells.size = 1)
    (ao : Option Addr) (n cap : Nat) (l : List Nat) (hn : l.length = n) (hs : a.eval s = .slice ao n cap) (hw : WR w base ao cap l)
    (bo : Option Addr) (k c : Nat) (m : List Nat) (hk : m.length = k) (hx : a.eval x = .slice bo k c) (hm : Byts w bo m) (hnil : bo = none → m.length = 0 ∧ c = 0)
    (hb : n + k ≤ 1099511627776) (hbase : base ≤ w.heap.size)
    (hK : ∀ ao' cap' w', WR w' base ao' cap' (l ++ m) → w.grownBy w' (blk ao) → (blk ao' = blk ao ∨ ∀ g, blk ao' = some g → w.heap.size ≤ g) → wpList P ops Q rest (a.put o.dst (.slice ao' (n + k) cap')) w') :
    wpList P ops Q (o :: rest) a w :=
  wpList_plain hgd fun _ hK' => wp_append_any w s x t hop base i z h1 h2 h3 h4 h5 h6 ao n cap l hn hs hw bo k c m hk hx hm hnil hb hbase fun ao' cap' w' r1 r2 r3 => hK' _ _ (hK ao' cap' w' r1 r2 r3)
end

/-- Bytes in new memory, to which may be appended. -/
structure NW (w : World) (ao : Option Addr) (cap : Nat) (l : List Nat) (w' : World) : Prop where
  row : WR w' w.heap.size ao cap l
  bel : Below w.heap.size w w'
theorem NL.nw {w w' : World} {ao : Option Addr} {cap : Nat} {l : List Nat} (h : NL w ao cap l w') : NW w ao cap l w' := ⟨WR.of_own h.lt h.own, h.bel⟩
theorem NW.keep {w w1 w' : World} {ao : Option Addr} {cap : Nat} {l : List Nat} (h : NW w ao cap l w1) (hb : Below w1.heap.size w1 w') : NW w ao cap l w' := ⟨h.row.keep hb, h.bel.trans (hb.mono h.bel.size)⟩
theorem NW.app {w w5 w7 : World} {ao ao7 : Option Addr} {cap c7 : Nat} {l m : List Nat} (h : NW w ao cap l w5) (ho : WR w7 w.heap.size ao7 c7 (l ++ m)) (hg : w5.grownBy w7 (blk ao)) : NW w ao7 c7 (l ++ m) w7 :=
  ⟨ho, h.bel.trans ⟨hg.os, hg.tape, hg.output, hg.size, fun k hk => hg.block k (Nat.lt_of_lt_of_le hk h.bel.size) (fun e => by have := (h.row.blt k e.symm).1; omega)⟩⟩
theorem NW.mono {w0 w w' : World} {ao : Option Addr} {cap : Nat} {l : List Nat} (h : NW w ao cap l w') (hb : Below w0.heap.size w0 w) : NW w0 ao cap l w' := ⟨h.row.mono hb.size, hb.trans (h.bel.mono hb.size)⟩
theorem WR.grown {w5 w7 : World} {base : Nat} {ao bo : Option Addr} {cap : Nat} {m : List Nat} (h : WR w5 base bo cap m) (hg : w5.grownBy w7 (blk ao)) (hx : ∀ b, blk ao = some b → blk bo ≠ some b) : WR w7 base bo cap m :=
  h.block hg.size fun g e => hg.block g (h.blt g e).2 (fun e2 => hx g e2.symm e)
/-- What a call leaves that answers with bytes in new memory, to which may be appended. -/
def LW (w : World) (l : List Nat) (e : Ending) (w' : World) : Prop := ∃ ao cap, e = .returned (.slice ao l.length cap) ∧ NW w ao cap l w'
theorem LW.of {w w' : World} {l : List Nat} {ao : Option Addr} {n cap : Nat} (hn : l.length = n) (h : NW w ao cap l w') : LW w l (.returned (.slice ao n cap)) w' := by subst hn; exact ⟨ao, cap, rfl, h⟩
theorem rb_any (v n : Nat) (hv : v < 18446744073709551616) (hn : n ≤ 8) (w : World) :
    Calls Try.prog 51 #[.int .u64 (v : Int), .int .i64 (n : Int)] w fun e w' => e = .returned (.slice (some ⟨w.heap.size, 0, none⟩) n n) ∧ NW w (some ⟨w.heap.size, 0, none⟩) n (le v n) w' :=
  (rbytes_any v n hv hn w).mono fun _ _ ⟨h1, h2, h3⟩ => ⟨h1, WR.of_own (le_lt _ _) h2, h3⟩

/-- A chunk's bytes. -/
def chb (s l : List Nat) : List Nat := s ++ le l.length 4 ++ l ++ List.replicate (l.length % 2) 0
theorem chb_len (s l : List Nat) : (chb s l).length = s.length + 4 + l.length + l.length % 2 := by
  unfold chb; rw [List.length_append, List.length_append, List.length_append, le_len, List.length_replicate]
theorem lit_wr (w : World) (xs : List Nat) (n : Nat) (hn : xs.length = n) (hm : n ≤ 1024) (hlt : ∀ b ∈ xs, b < 256) (fz : Nat × Nat) (hz : fz = (0, 0) ∨ n ≤ fz.1) : WR (w.alloc (.cells (bl xs).toArray 5 fz)) w.heap.size (some ⟨w.heap.size, 0, none⟩) n xs := by
  subst hn
  have hat := heap_alloc_new w (.cells (bl xs).toArray 5 fz)
  have hz' : ∀ j, j < xs.length → ¬ (fz.1 ≤ j ∧ j < fz.2) := fun j hj => by
    rcases hz with rfl | h
    · simp
    · omega
  refine ⟨hlt, .inr ⟨w.heap.size, rfl, Nat.le_refl _, by simp, Nat.le_refl _, by unfold maxLen; omega, fun j hj => ?_, fun j hj => ?_, fun j x hj => ?_⟩⟩
  · unfold World.cell?; rw [hat]; simp [bl_len]; exact hj
  · unfold World.frozen?; rw [hat]; have := hz' j hj; simp; omega
  · unfold World.cell?; rw [hat]; simp [bl_at, hj]
set_option maxRecDepth 20000 in
theorem rchunk_any {w : World} (s : ByteArray) (hs : s.size ≤ 16) {a : Option Addr} {c n : Nat} {l : List Nat} (hb : Byts w a l) (hn : l.length = n) (hnil : a = none → l.length = 0 ∧ c = 0) (hlt : ∀ ad, a = some ad → ad.block < w.heap.size) (hl : n ≤ 1073741824) :
    Calls Try.prog 20 #[.string s, .slice a n c] w (LW w (chb (sb s) l)) := by
  obtain ⟨i0, hi, hz0, hz1, hz2⟩ := info_parts Try.info5
  have hcv := fun W => conv_string W s
  have HS0 := hid (show NW w (some ⟨w.heap.size, 0, none⟩) (grownCap w s.size 0 5) (sb s) (Lib.bytesWorld w 5 s) from ⟨WR.of_string w s (by omega), below_string w s⟩)
  have HBY := hid fun w' (h : Below w.heap.size w w') => hb.keep h
  have HNIL := hid hnil
  have HLT := hid hlt
  have hu := u64_small n (by omega)
  have HRB := hid fun w => (show Calls Try.prog 51 #[.int .u64 (n : Int), .int .i64 4] w fun e w' => e = .returned (.slice (some ⟨w.heap.size, 0, none⟩) 4 4) ∧ NW w (some ⟨w.heap.size, 0, none⟩) 4 (le n 4) w' from rb_any n 4 (by omega) (by decide) w)
  have HN := hid hn
  have HSL := hid (sb_len s)
  have HCH := hid (show chb (sb s) l = sb s ++ le n 4 ++ l ++ List.replicate (n % 2) 0 by unfold chb; rw [hn])
  clear hb hnil hlt hn
  go_enter Try.func20, Try.ntmps20
  go_wp2_with fail
  generalize hG : grownCap w s.size 0 5 = G at *
  generalize hW1 : Lib.bytesWorld w 5 s = w1 at *
  clear hG hW1 hcv
  refine (HRB.out _).mono ?_
  rintro e w2 ⟨rfl, h2⟩
  have HS2 := hid (HS0.out.keep h2.bel)
  have HB2 := hid h2.row
  have h2s := HS2.out.bel.size
  clear h2
  go_wp2_with (at_builtin; (refine (wpList_append_any w2 (by rfl) _ _ _ (by rfl) w.heap.size i0 _ Try.underlying29 hi hz0 hz1 hz2 rfl _ s.size G (sb s) HSL.out (by rfl) HS2.out.row _ 4 4 (le n 4) (le_len _ _) (by rfl) HB2.out.byts (fun e => by cases e) (by omega) h2s ?_)))
  intro ao3 c3 w3 ho3 hg3 _
  have HN3 := hid (HS2.out.app ho3 hg3)
  have HL3 := hid (show (sb s ++ le n 4).length = s.size + 4 by rw [List.length_append, le_len, HSL.out])
  have h3s := HN3.out.bel.size
  clear ho3 hg3 h2s HS2 HB2 HS0
  obtain ⟨L3, hL3⟩ : ∃ L3, L3 = sb s ++ le n 4 := ⟨_, rfl⟩
  rw [← hL3] at HN3 HL3 HCH
  clear hL3
  have HBY3 := hid (HBY.out _ HN3.out.bel)
  go_wp2_with (at_builtin; (refine (wpList_append_any w3 (by rfl) _ _ _ (by rfl) w.heap.size i0 _ Try.underlying29 hi hz0 hz1 hz2 rfl ao3 (s.size + 4) c3 L3 HL3.out (by rfl) HN3.out.row a n c l HN.out (by rfl) HBY3.out HNIL.out (by omega) h3s ?_)))
  intro ao4 c4 w4 ho4 hg4 _
  have HN4 := hid (HN3.out.app ho4 hg4)
  have HL4 := hid (show (L3 ++ l).length = s.size + 4 + n by rw [List.length_append, HL3.out, HN.out])
  clear ho4 hg4 HN3 HBY3 h3s
  obtain ⟨L4, hL4⟩ : ∃ L4, L4 = L3 ++ l := ⟨_, rfl⟩
  rw [← hL4] at HN4 HL4 HCH
  clear hL4
  by_cases hodd : n % 2 = 1
  · rw [hodd] at HCH
    have hodd2 : ((n : Int) % 2 == 1) = true := by rw [beq_iff_eq]; omega
    have HN5 := hid (HN4.out.keep (bel_new w4 (.cells #[.int .u8 0] 5)))
    have HZ5 := hid (show WR (w4.alloc (.cells #[.int .u8 0] 5)) w4.heap.size (some ⟨w4.heap.size, 0, none⟩) 1 [0] from lit_wr w4 [0] 1 rfl (by decide) (by decide) (0, 0) (.inl rfl))
    have h5s := HN5.out.bel.size
    clear hodd
    go_wp2_with (at_builtin; (refine (wpList_append_any (w4.alloc (.cells #[.int .u8 0] 5)) (by rfl) _ _ _ (by rfl) w.heap.size i0 _ Try.underlying29 hi hz0 hz1 hz2 rfl ao4 (s.size + 4 + n) c4 L4 HL4.out (by rfl) HN5.out.row _ 1 1 [0] rfl (by rfl) HZ5.out.byts (fun e => by cases e) (by omega) h5s ?_)))
    intro ao6 c6 w6 ho6 hg6 _
    have HN6 := hid (HN5.out.app ho6 hg6)
    have HL6 := hid (show (L4 ++ [0]).length = s.size + 4 + n + 1 by rw [List.length_append, HL4.out]; rfl)
    clear ho6 hg6
    go_wp2_with fail
    go_ret
    rw [HCH.out]
    exact LW.of HL6.out HN6.out
  · have h0 : n % 2 = 0 := by omega
    rw [h0] at HCH
    have hodd2 : ((n : Int) % 2 == 1) = false := by rw [beq_eq_false_iff_ne]; omega
    clear hodd h0
    go_wp2_with fail
    go_ret
    rw [HCH.out]
    show LW w (L4 ++ []) _ _
    rw [List.append_nil]
    exact LW.of HL4.out HN4.out
end Go.Proofs.Ytkdpalmdcnpnoaa.Wv
namespace Go.Proofs.Ytkdpalmdcnpnoaa.Wv
open Go.RowKit Gen Fld

/-- A WAV's bytes, of what follows its beginning. -/
def whb (l : List Nat) : List Nat := [82, 73, 70, 70] ++ le (l.length + 4) 4 ++ [87, 65, 86, 69] ++ l
theorem conv4a (w : World) : (convert 29 29 (.slice (some ⟨w.heap.size, 0, none⟩) 4 4)).run Try.prog (w.alloc (.cells #[.int .u8 82, .int .u8 73, .int .u8 70, .int .u8 70] 5)) = .ok (.slice (some ⟨w.heap.size, 0, none⟩) 4 4) (w.alloc (.cells #[.int .u8 82, .int .u8 73, .int .u8 70, .int .u8 70] 5 (4, 5))) :=
  Lib.run_convert_bytes_const (P := Try.prog) w 29 5 #[.int .u8 82, .int .u8 73, .int .u8 70, .int .u8 70] 4 4 Try.underlying29 Try.underlying5
set_option maxRecDepth 20000 in
theorem rwhole_any {w : World} {a : Option Addr} {c n : Nat} {l : List Nat} (hb : Byts w a l) (hn : l.length = n) (hnil : a = none → l.length = 0 ∧ c = 0) (hl : n ≤ 1073741824) :
    Calls Try.prog 23 #[.slice a n c] w (LW w (whb l)) := by
  obtain ⟨i0, hi, hz0, hz1, hz2⟩ := info_parts Try.info5
  have hcv := conv4a w
  have HBY := hid fun w' (h : Below w.heap.size w w') => hb.keep h
  have HNIL := hid hnil
  have hu := u64_small (n + 4) (by omega)
  rw [show ((n + 4 : Nat) : Int) = (n : Int) + 4 from rfl] at hu
  have HRB := hid fun w => (show Calls Try.prog 51 #[.int .u64 ((n : Int) + 4), .int .i64 4] w fun e w' => e = .returned (.slice (some ⟨w.heap.size, 0, none⟩) 4 4) ∧ NW w (some ⟨w.heap.size, 0, none⟩) 4 (le (n + 4) 4) w' from rb_any (n + 4) 4 (by omega) (by decide) w)
  have HN := hid hn
  have HS0 := hid (show NW w (some ⟨w.heap.size, 0, none⟩) 4 [82, 73, 70, 70] (w.alloc (.cells #[.int .u8 82, .int .u8 73, .int .u8 70, .int .u8 70] 5 (4, 5))) from ⟨lit_wr w [82, 73, 70, 70] 4 rfl (by decide) (by decide) (4, 5) (.inr (Nat.le_refl _)), bel_new w _⟩)
  have HCH := hid (show whb l = [82, 73, 70, 70] ++ le (n + 4) 4 ++ [87, 65, 86, 69] ++ l by unfold whb; rw [hn])
  clear hb hnil hn
  have HML := hid (le_len (n + 4) 4)
  obtain ⟨M, hM⟩ : ∃ M, M = le (n + 4) 4 := ⟨_, rfl⟩
  rw [← hM] at HML HRB HCH
  clear hM
  go_enter Try.func23, Try.ntmps23
  go_wp2_with fail
  generalize hW1 : w.alloc (.cells #[.int .u8 82, .int .u8 73, .int .u8 70, .int .u8 70] 5 (4, 5)) = w1 at *
  clear hW1 hcv hu
  refine (HRB.out _).mono ?_
  rintro e w2 ⟨rfl, h2⟩
  have HS2 := hid (HS0.out.keep h2.bel)
  have HB2 := hid h2.row
  have h2s := HS2.out.bel.size
  clear h2
  go_wp2_with (at_builtin; (refine (wpList_append_any w2 (by rfl) _ _ _ (by rfl) w.heap.size i0 _ Try.underlying29 hi hz0 hz1 hz2 rfl _ 4 4 [82, 73, 70, 70] rfl (by rfl) HS2.out.row _ 4 4 M HML.out (by rfl) HB2.out.byts (fun e => by cases e) (by omega) h2s ?_)))
  intro ao3 c3 w3 ho3 hg3 _
  have HN3 := hid (HS2.out.app ho3 hg3)
  have HL3 := hid (show ([82, 73, 70, 70] ++ M).length = 8 by rw [List.length_append, HML.out]; rfl)
  clear ho3 hg3 h2s HS2 HB2 HS0
  obtain ⟨L3, hL3⟩ : ∃ L3, L3 = [82, 73, 70, 70] ++ M := ⟨_, rfl⟩
  rw [← hL3] at HN3 HL3 HCH
  clear hL3
  have HN4 := hid (HN3.out.keep (bel_new w3 (.cells #[.int .u8 87, .int .u8 65, .int .u8 86, .int .u8 69] 5 (4, 5))))
  have HM4 := hid (show WR (w3.alloc (.cells #[.int .u8 87, .int .u8 65, .int .u8 86, .int .u8 69] 5 (4, 5))) w3.heap.size (some ⟨w3.heap.size, 0, none⟩) 4 [87, 65, 86, 69] from lit_wr w3 [87, 65, 86, 69] 4 rfl (by decide) (by decide) (4, 5) (.inr (Nat.le_refl _)))
  have h4s := HN4.out.bel.size
  have hcv := conv4 w3
  go_wp2_with (at_builtin; (refine (wpList_append_any (w3.alloc (.cells #[.int .u8 87, .int .u8 65, .int .u8 86, .int .u8 69] 5 (4, 5))) (by rfl) _ _ _ (by rfl) w.heap.size i0 _ Try.underlying29 hi hz0 hz1 hz2 rfl ao3 8 c3 L3 HL3.out (by rfl) HN4.out.row _ 4 4 [87, 65, 86, 69] rfl (by rfl) HM4.out.byts (fun e => by cases e) (by omega) h4s ?_)))
  intro ao5 c5 w5 ho5 hg5 _
  have HN5 := hid (HN4.out.app ho5 hg5)
  have HL5 := hid (show (L3 ++ [87, 65, 86, 69]).length = 12 by rw [List.length_append, HL3.out]; rfl)
  clear ho5 hg5 h4s HM4 HN4 HN3 hcv
  obtain ⟨L5, hL5⟩ : ∃ L5, L5 = L3 ++ [87, 65, 86, 69] := ⟨_, rfl⟩
  rw [← hL5] at HN5 HL5 HCH
  clear hL5
  have HBY5 := hid (HBY.out _ HN5.out.bel)
  have h5s := HN5.out.bel.size
  go_wp2_with (at_builtin; (refine (wpList_append_any w5 (by rfl) _ _ _ (by rfl) w.heap.size i0 _ Try.underlying29 hi hz0 hz1 hz2 rfl ao5 12 c5 L5 HL5.out (by rfl) HN5.out.row a n c l HN.out (by rfl) HBY5.out HNIL.out (by omega) h5s ?_)))
  intro ao6 c6 w6 ho6 hg6 _
  have HN6 := hid (HN5.out.app ho6 hg6)
  have HL6 := hid (show (L5 ++ l).length = 12 + n by rw [List.length_append, HL5.out, HN.out])
  clear ho6 hg6
  go_wp2_with fail
  go_ret
  rw [HCH.out]
  exact LW.of HL6.out HN6.out
end Go.Proofs.Ytkdpalmdcnpnoaa.Wv
namespace Go.Proofs.Ytkdpalmdcnpnoaa.Wv
open Go.RowKit Gen Fld

set_option maxRecDepth 20000 in
set_option maxHeartbeats 1000000 in
theorem rformat_any (c n r : Nat) (hc : c ≤ 8) (hn : n ≤ 24) (hr : r ≤ 1048575) (w : World) : Calls Try.prog 21 #[.agg #[.int .i64 (c : Int), .int .i64 (n : Int), .int .i64 (r : Int)]] w (LW w (fmtb c n r)) := by
  obtain ⟨i0, hi, hz0, hz1, hz2⟩ := info_parts Try.info5
  have HW := hid fun w => rwidth_any (n : Int) w
  have hd := wd_le (n : Int)
  have HF := hid (show fmtb c n r = le 1 2 ++ le c 2 ++ le r 4 ++ le (r * (c * wd n)) 4 ++ le (c * wd n) 2 ++ le n 2 from rfl)
  generalize wd (n : Int) = d at *
  obtain ⟨y, hy⟩ : ∃ y, y = c * d := ⟨_, rfl⟩
  have hy24 : y ≤ 24 := by rw [hy]; exact Nat.le_trans (Nat.mul_le_mul hc hd) (by decide)
  have HY := hid (show wrap64 ((c : Int) * (d : Int)) = (y : Int) by rw [← Int.natCast_mul, ← hy]; unfold wrap64; omega)
  rw [← hy] at HF
  obtain ⟨z, hz⟩ : ∃ z, z = r * y := ⟨_, rfl⟩
  have hzl : z ≤ 25165800 := by rw [hz]; exact Nat.le_trans (Nat.mul_le_mul hr hy24) (by decide)
  have hzw : wrap64 ((r : Int) * (y : Int)) = (z : Int) := by rw [← Int.natCast_mul, ← hz]; unfold wrap64; omega
  rw [← hz] at HF
  clear hy hz
  have u1 := u64_small c (by omega)
  have u2 := u64_small r (by omega)
  have u3 := u64_small z (by omega)
  have u4 := u64_small y (by omega)
  have u5 := u64_small n (by omega)
  have HR0 := hid fun w => (show Calls Try.prog 51 #[.int .u64 1, .int .i64 2] w fun e w' => e = .returned (.slice (some ⟨w.heap.size, 0, none⟩) 2 2) ∧ NW w (some ⟨w.heap.size, 0, none⟩) 2 (le 1 2) w' from rb_any 1 2 (by omega) (by decide) w)
  have HR1 := hid fun w => (show Calls Try.prog 51 #[.int .u64 (c : Int), .int .i64 2] w fun e w' => e = .returned (.slice (some ⟨w.heap.size, 0, none⟩) 2 2) ∧ NW w (some ⟨w.heap.size, 0, none⟩) 2 (le c 2) w' from rb_any c 2 (by omega) (by decide) w)
  have HR2 := hid fun w => (show Calls Try.prog 51 #[.int .u64 (r : Int), .int .i64 4] w fun e w' => e = .returned (.slice (some ⟨w.heap.size, 0, none⟩) 4 4) ∧ NW w (some ⟨w.heap.size, 0, none⟩) 4 (le r 4) w' from rb_any r 4 (by omega) (by decide) w)
  have HR3 := hid fun w => (show Calls Try.prog 51 #[.int .u64 (z : Int), .int .i64 4] w fun e w' => e = .returned (.slice (some ⟨w.heap.size, 0, none⟩) 4 4) ∧ NW w (some ⟨w.heap.size, 0, none⟩) 4 (le z 4) w' from rb_any z 4 (by omega) (by decide) w)
  have HR4 := hid fun w => (show Calls Try.prog 51 #[.int .u64 (y : Int), .int .i64 2] w fun e w' => e = .returned (.slice (some ⟨w.heap.size, 0, none⟩) 2 2) ∧ NW w (some ⟨w.heap.size, 0, none⟩) 2 (le y 2) w' from rb_any y 2 (by omega) (by decide) w)
  have HR5 := hid fun w => (show Calls Try.prog 51 #[.int .u64 (n : Int), .int .i64 2] w fun e w' => e = .returned (.slice (some ⟨w.heap.size, 0, none⟩) 2 2) ∧ NW w (some ⟨w.heap.size, 0, none⟩) 2 (le n 2) w' from rb_any n 2 (by omega) (by decide) w)
  have HB0 := hid (bel_new w (.cells #[.int .i64 (c : Int), .int .i64 (n : Int), .int .i64 (r : Int)] 23))
  have hcs : ∀ w', Below (w.alloc (.cells #[.int .i64 (c : Int), .int .i64 (n : Int), .int .i64 (r : Int)] 23)).heap.size (w.alloc (.cells #[.int .i64 (c : Int), .int .i64 (n : Int), .int .i64 (r : Int)] 23)) w' → w'.cell? ⟨w.heap.size, 0, none⟩ = some (.int .i64 (c : Int)) ∧ w'.cell? ⟨w.heap.size, 1, none⟩ = some (.int .i64 (n : Int)) ∧ w'.cell? ⟨w.heap.size, 2, none⟩ = some (.int .i64 (r : Int)) := fun w' hb => by
    have hlt : w.heap.size < (w.alloc (.cells #[.int .i64 (c : Int), .int .i64 (n : Int), .int .i64 (r : Int)] 23)).heap.size := by simp
    have e := (hb.block w.heap.size hlt).trans (heap_alloc_new w _)
    refine ⟨?_, ?_, ?_⟩ <;> (unfold World.cell?; rw [e]; rfl)
  have HC := hid hcs
  clear hcs hd
  obtain ⟨b0, b1, b2⟩ := HC.out _ (Below.refl _ _)
  go_enter Try.func21, Try.ntmps21
  go_wp2_with fail
  generalize w.alloc (.cells #[.int .i64 (c : Int), .int .i64 (n : Int), .int .i64 (r : Int)] 23) = W0 at *
  go_quiet (exact Calls.quiet_of_same ((HW.out _).mono fun _ _ ⟨a, b⟩ => ⟨a, b.symm⟩))
  have bq : Below W0.heap.size W0 (W0.drewN nq) := ⟨rfl, rfl, rfl, Nat.le_refl _, fun _ _ => rfl⟩
  clear b0 b1 b2
  generalize hWq : W0.drewN nq = Wq at *
  clear hWq
  have HBQ := hid (HB0.out.trans (bq.mono HB0.out.size))
  have HC2 := hid fun w' (h : Below Wq.heap.size Wq w') => HC.out w' (bq.trans (h.mono bq.size))
  clear bq HC HB0
  obtain ⟨b0, b1, b2⟩ := HC2.out _ (Below.refl _ _)
  go_wp2_with fail
  rw [HY.out]
  have d0 : Below Wq.heap.size Wq Wq.drew := ⟨rfl, rfl, rfl, Nat.le_refl _, fun _ _ => rfl⟩
  have s0 := (HC2.out _ d0).1
  clear b0 b1 b2
  go_region_held3 (fun w' => w'.cell? ⟨w.heap.size, 0, none⟩ = some (.int .i64 (c : Int)))
    (first | with_reducible exact s0 | with_reducible exact s1 | with_reducible exact s2 | with_reducible exact s3 | go_keep)
    ((first
      | (go_at_call 51; (with_reducible refine (HR0.out _).mono ?_); rintro e w1 ⟨rfl, h1⟩; have d1 := d0.trans (h1.bel.mono d0.size); have s1 := (HC2.out _ d1).1)
      | (go_at_call 51; (with_reducible refine (HR1.out _).mono ?_); rintro e w2 ⟨rfl, h2⟩; have d2 := d1.trans (h2.bel.mono d1.size); have s2 := (HC2.out _ d2).1; have n2 := (h1.mono d0).keep h2.bel)
      | (refine step_append_any (by rfl) _ _ _ (by rfl) Wq.heap.size i0 _ Try.underlying29 hi hz0 hz1 hz2 rfl _ 2 2 (le 1 2) (le_len _ _) (by rfl) n2.row _ 2 2 (le c 2) (le_len _ _) (by rfl) h2.row.byts (fun e => by cases e) (by omega) d2.size ?_; intro ao3 c3 w3 ho3 hg3 _; have n3 := n2.app ho3 hg3; have s3 := (HC2.out _ n3.bel).1)))
  have HN3 := hid n3
  have HL3 := hid (show (le 1 2 ++ le c 2).length = 4 by rw [List.length_append, le_len, le_len])
  clear s0 s1 s2 s3 d0 d1 d2 h1 h2 n2 n3 ho3 hg3
  obtain ⟨L3, hL3⟩ : ∃ L3, L3 = le 1 2 ++ le c 2 := ⟨_, rfl⟩
  rw [← hL3] at HN3 HL3 HF
  clear hL3
  have HM0 := hid (le_len r 4)
  obtain ⟨M0, hM0⟩ : ∃ M0, M0 = le r 4 := ⟨_, rfl⟩
  rw [← hM0] at HM0 HR2 HF
  clear hM0
  have HM1 := hid (le_len z 4)
  obtain ⟨M1, hM1⟩ : ∃ M1, M1 = le z 4 := ⟨_, rfl⟩
  rw [← hM1] at HM1 HR3 HF
  clear hM1
  have HM2 := hid (le_len y 2)
  obtain ⟨M2, hM2⟩ : ∃ M2, M2 = le y 2 := ⟨_, rfl⟩
  rw [← hM2] at HM2 HR4 HF
  clear hM2
  have HM3 := hid (le_len n 2)
  obtain ⟨M3, hM3⟩ : ∃ M3, M3 = le n 2 := ⟨_, rfl⟩
  rw [← hM3] at HM3 HR5 HF
  clear hM3
  obtain ⟨b0, b1, b2⟩ := HC2.out _ HN3.out.bel
  go_wp2_with fail
  refine (HR2.out _).mono ?_
  rintro e w4 ⟨rfl, h4⟩
  have HS4 := hid (HN3.out.keep h4.bel)
  have HB4 := hid h4.row
  have h4s := HS4.out.bel.size
  clear h4 b0 b1 b2 HN3
  go_wp2_with (at_builtin; (refine (wpList_append_any w4 (by rfl) _ _ _ (by rfl) Wq.heap.size i0 _ Try.underlying29 hi hz0 hz1 hz2 rfl _ 4 _ L3 HL3.out (by rfl) HS4.out.row _ 4 4 M0 HM0.out (by rfl) HB4.out.byts (fun e => by cases e) (by omega) h4s ?_)))
  intro ao5 c5 w5 ho5 hg5 _
  have HN5 := hid (HS4.out.app ho5 hg5)
  have HL5 := hid (show (L3 ++ M0).length = 8 by rw [List.length_append, HL3.out, HM0.out])
  clear ho5 hg5 HS4 HB4 h4s
  obtain ⟨L5, hL5⟩ : ∃ L5, L5 = L3 ++ M0 := ⟨_, rfl⟩
  rw [← hL5] at HN5 HL5 HF
  clear hL5
  obtain ⟨b0, b1, b2⟩ := HC2.out _ HN5.out.bel
  go_wp2_with fail
  refine (HR3.out _).mono ?_
  rintro e w6 ⟨rfl, h6⟩
  have HS6 := hid (HN5.out.keep h6.bel)
  have HB6 := hid h6.row
  have h6s := HS6.out.bel.size
  clear h6 b0 b1 b2 HN5
  go_wp2_with (at_builtin; (refine (wpList_append_any w6 (by rfl) _ _ _ (by rfl) Wq.heap.size i0 _ Try.underlying29 hi hz0 hz1 hz2 rfl _ 8 _ L5 HL5.out (by rfl) HS6.out.row _ 4 4 M1 HM1.out (by rfl) HB6.out.byts (fun e => by cases e) (by omega) h6s ?_)))
  intro ao7 c7 w7 ho7 hg7 _
  have HN7 := hid (HS6.out.app ho7 hg7)
  have HL7 := hid (show (L5 ++ M1).length = 12 by rw [List.length_append, HL5.out, HM1.out])
  clear ho7 hg7 HS6 HB6 h6s
  obtain ⟨L7, hL7⟩ : ∃ L7, L7 = L5 ++ M1 := ⟨_, rfl⟩
  rw [← hL7] at HN7 HL7 HF
  clear hL7
  obtain ⟨b0, b1, b2⟩ := HC2.out _ HN7.out.bel
  go_wp2_with fail
  refine (HR4.out _).mono ?_
  rintro e w8 ⟨rfl, h8⟩
  have HS8 := hid (HN7.out.keep h8.bel)
  have HB8 := hid h8.row
  have h8s := HS8.out.bel.size
  clear h8 b0 b1 b2 HN7
  go_wp2_with (at_builtin; (refine (wpList_append_any w8 (by rfl) _ _ _ (by rfl) Wq.heap.size i0 _ Try.underlying29 hi hz0 hz1 hz2 rfl _ 12 _ L7 HL7.out (by rfl) HS8.out.row _ 2 2 M2 HM2.out (by rfl) HB8.out.byts (fun e => by cases e) (by omega) h8s ?_)))
  intro ao9 c9 w9 ho9 hg9 _
  have HN9 := hid (HS8.out.app ho9 hg9)
  have HL9 := hid (show (L7 ++ M2).length = 14 by rw [List.length_append, HL7.out, HM2.out])
  clear ho9 hg9 HS8 HB8 h8s
  obtain ⟨L9, hL9⟩ : ∃ L9, L9 = L7 ++ M2 := ⟨_, rfl⟩
  rw [← hL9] at HN9 HL9 HF
  clear hL9
  obtain ⟨b0, b1, b2⟩ := HC2.out _ HN9.out.bel
  go_wp2_with fail
  refine (HR5.out _).mono ?_
  rintro e w10 ⟨rfl, h10⟩
  have HS10 := hid (HN9.out.keep h10.bel)
  have HB10 := hid h10.row
  have h10s := HS10.out.bel.size
  clear h10 b0 b1 b2 HN9
  go_wp2_with (at_builtin; (refine (wpList_append_any w10 (by rfl) _ _ _ (by rfl) Wq.heap.size i0 _ Try.underlying29 hi hz0 hz1 hz2 rfl _ 14 _ L9 HL9.out (by rfl) HS10.out.row _ 2 2 M3 HM3.out (by rfl) HB10.out.byts (fun e => by cases e) (by omega) h10s ?_)))
  intro ao11 c11 w11 ho11 hg11 _
  have HN11 := hid (HS10.out.app ho11 hg11)
  have HL11 := hid (show (L9 ++ M3).length = 16 by rw [List.length_append, HL9.out, HM3.out])
  clear ho11 hg11 HS10 HB10 h10s
  obtain ⟨L11, hL11⟩ : ∃ L11, L11 = L9 ++ M3 := ⟨_, rfl⟩
  rw [← hL11] at HN11 HL11 HF
  clear hL11
  go_wp2_with fail
  go_ret
  rw [HF.out]
  exact LW.of HL11.out (HN11.out.mono HBQ.out)
end Go.Proofs.Ytkdpalmdcnpnoaa.Wv
namespace Go.Proofs.Ytkdpalmdcnpnoaa.Wv
open Go.RowKit Gen Fld Pcm

/-- The first woven samples' bytes. -/
def dtw (d : Dat) : Nat → List Nat
  | 0 => []
  | t + 1 => dtw d t ++ smp d.f.bits (d.wv t)
theorem dtw_len (d : Dat) : ∀ t, (dtw d t).length = t * wd d.f.bits
  | 0 => (Nat.zero_mul _).symm
  | t + 1 => by
    show (dtw d t ++ smp d.f.bits (d.wv t)).length = _
    rw [List.length_append, dtw_len d t, smp_len, Nat.succ_mul]
theorem dtw_in (d : Dat) (k : Nat) : ∀ j, j ≤ d.n → dtw d (k * d.n + j) = dtw d (k * d.n) ++ frp d k j
  | 0, _ => (List.append_nil _).symm
  | j + 1, hj => by
    show dtw d (k * d.n + j) ++ smp d.f.bits (d.wv (k * d.n + j)) = _ ++ (frp d k j ++ smp d.f.bits (d.X j k))
    rw [dtw_in d k j (by omega), List.append_assoc]
    have h : d.wv (k * d.n + j) = d.X j k := by
      unfold Dat.wv
      rw [Nat.mul_comm k, Nat.mul_add_mod, Nat.mod_eq_of_lt (by omega), Nat.mul_add_div (by omega), Nat.div_eq_of_lt (by omega), Nat.add_zero]
    rw [h]
theorem dtw_dta (d : Dat) : ∀ k, dtw d (k * d.n) = dta d k
  | 0 => by rw [Nat.zero_mul]; rfl
  | k + 1 => by
    rw [Nat.succ_mul, dtw_in d k d.n (Nat.le_refl _), dtw_dta d k]; rfl
theorem wv_in {d : Dat} (hk : d.chk = 0) : ∀ t, t < d.n * d.cnt → -(2 ^ (d.f.bits.toNat - 1) : Int) ≤ d.wv t ∧ d.wv t ≤ 2 ^ (d.f.bits.toNat - 1) - 1 := fun t ht => by
  obtain ⟨hr, hch, hn8, hn0, hcnt, hln, hfar⟩ := chk_ok hk
  have hi : t % d.n < d.n := Nat.mod_lt _ hn0
  have hj : t / d.n < d.cnt := Nat.div_lt_of_lt_mul ht
  unfold Dat.wv
  generalize t % d.n = i at *
  generalize t / d.n = j at *
  cases hb : beyond (2 ^ (d.f.bits.toNat - 1)) (d.X i j) with
  | true =>
    have h1 : anyB (fun j => beyond (2 ^ (d.f.bits.toNat - 1)) (d.X i j)) (d.ln i) = true := (any_iff _ _).2 ⟨j, by rw [hln i hi]; exact hj, hb⟩
    have h2 : d.far = true := (any_iff (fun i => anyB (fun j => beyond (2 ^ (d.f.bits.toNat - 1)) (d.X i j)) (d.ln i)) d.n).2 ⟨i, hi, h1⟩
    rw [hfar] at h2; cases h2
  | false =>
    unfold beyond at hb
    rw [Bool.not_eq_false', decide_eq_true_eq] at hb
    push_cast at hb
    exact hb
set_option maxRecDepth 20000 in
set_option maxHeartbeats 1000000 in
theorem rdata_any {w : World} {d : Dat} (h : Snd w d) (hk : d.chk = 0) : Calls Try.prog 22 #[d.v] w (LW w (dta d d.cnt)) := by
  obtain ⟨i0, hi, hz0, hz1, hz2⟩ := info_parts Try.info5
  obtain ⟨hr, hch, hn8, hn0, hcnt, hln, hfar⟩ := chk_ok hk
  have HFIN := hid (show dtw d (d.n * d.cnt) = dta d d.cnt by rw [Nat.mul_comm]; exact dtw_dta d d.cnt)
  have HWI := hid (wv_in hk)
  have HLEN := hid (dtw_len d)
  have hC : d.n * d.cnt ≤ 34359738360 := Nat.mul_le_mul hn8 hcnt
  obtain ⟨hr1, hr2, hr3⟩ := hr
  have hw3 := wd_le d.f.bits
  have HSM := hid fun t (ht : t < d.n * d.cnt) w => rsample_any (d.wv t) d.f.bits hr2.1 hr2.2 (HWI.out t ht).1 (HWI.out t ht).2 w
  have HSL := hid fun x => smp_len d.f.bits x
  have HNX := hid (show ∀ t, dtw d (t + 1) = dtw d t ++ smp d.f.bits (d.wv t) from fun _ => rfl)
  have HWV := hid fun w' (hb : Below w.heap.size w w') => rweave_any w' d (h.below hb)
  have hX := bx_new w d
  have HB0 := hid (bel_new w (.cells #[.int .i64 d.f.ch, .int .i64 d.f.bits, .int .i64 d.f.rate, .slice d.a d.n d.cap] 26))
  unfold Dat.v at HWV
  unfold WeavePost at HWV
  have HK := hid hk
  have HX0 := hid hX
  generalize wd d.f.bits = D at *
  show Calls Try.prog 22 #[.agg #[.int .i64 d.f.ch, .int .i64 d.f.bits, .int .i64 d.f.rate, .slice d.a d.n d.cap]] w _
  clear hr1 hr2 hr3 hch hn8 hn0 hcnt hln hfar hk HWI
  generalize hCC : d.n * d.cnt = C at *
  have HCC := hid hCC
  clear hCC
  obtain ⟨b0, b1, b2, b3⟩ := hX
  go_enter Try.func22, Try.ntmps22
  go_wp2_with fail
  generalize w.alloc (.cells #[.int .i64 d.f.ch, .int .i64 d.f.bits, .int .i64 d.f.rate, .slice d.a d.n d.cap] 26) = W0 at *
  refine (HWV.out _ HB0.out).mono ?_
  rintro e w1 ⟨lo, lcap, len, hle, rfl, hrow, hb1⟩
  rw [if_pos HK.out] at hle
  have hle2 := hle.symm
  clear hle
  subst hle2
  have HB1 := hid (HB0.out.trans (hb1.mono HB0.out.size))
  have HX1 := hid (HX0.out.below hb1)
  have HROW := hid hrow
  clear hb1 hrow b0 b1 b2 b3 HWV HX0
  rw [HK.out]
  go_wp2_with fail
  go_loopg [3, 6] C (fun gg v i wr => ∃ (t : Nat) (ao : Option Addr) (c : Nat), t ≤ C ∧ gg = C - t ∧ i = .int .i64 t ∧ v = .slice ao (dtw d t).length c ∧ Hid (NW w1 ao c (dtw d t) wr))
  case atStart => exact ⟨0, none, 0, Nat.zero_le _, rfl, rfl, rfl, hid ⟨⟨(fun _ h => by cases h), .inl ⟨rfl, rfl, rfl⟩⟩, Below.refl _ _⟩⟩
  case round =>
    obtain ⟨t, ao, c, ht, hg, rfl, rfl, HN⟩ := hrel
    have HG := hid hg
    clear hg
    by_cases hlt : t < C
    · have hlt2 : (t : Int) < (C : Int) := by omega
      have hlen := HLEN.out t
      have hlb : t * D ≤ 103079215080 := Nat.le_trans (Nat.mul_le_mul (Nat.le_trans ht hC) hw3) (by decide)
      rw [hlen]
      obtain ⟨g, hI⟩ := HROW.out.isb (by omega)
      obtain rfl := hI.addr (by omega)
      have HI := hid hI
      clear hI
      obtain ⟨m, hm⟩ : ∃ m, m = smp d.f.bits (d.wv t) := ⟨_, rfl⟩
      have HML := hid (HSL.out (d.wv t))
      have HNT := hid (HNX.out t)
      have HSMT := hid (HSM.out t hlt)
      rw [← hm] at HML HNT HSMT
      have HLT := hid hlen
      clear hlen hm
      obtain ⟨L, hL⟩ : ∃ L, L = dtw d t := ⟨_, rfl⟩
      rw [← hL] at HNT HN HLT
      clear hL
      have HCE := hid (show ∀ w', Below w1.heap.size w1 w' → w'.cell? ⟨g, t, none⟩ = some (.int .i64 (d.wv t)) ∧ w'.cell? ⟨w.heap.size, 1, none⟩ = some (.int .i64 d.f.bits) from fun w' hb => ⟨by have := (HI.out.below hb HI.out.lt).c t hlt; rwa [Nat.zero_add] at this, (HX1.out.below hb).c1⟩)
      have n0 := HN.out.keep (show Below wr.heap.size wr wr.drew from ⟨rfl, rfl, rfl, Nat.le_refl _, fun _ _ => rfl⟩)
      have s0 := HCE.out _ n0.bel
      obtain ⟨c1, b1⟩ := HCE.out _ HN.out.bel
      go_wp2_with fail
      go_region_held3 (fun w' => w'.cell? ⟨g, t, none⟩ = some (.int .i64 (d.wv t)) ∧ w'.cell? ⟨w.heap.size, 1, none⟩ = some (.int .i64 d.f.bits))
        (first | with_reducible exact s0 | with_reducible exact s1 | with_reducible exact s2 | go_keep)
        ((first
          | (go_at_call 53; (with_reducible refine (HSMT.out _).mono ?_); rintro e w5 ⟨a5, c5, rfl, h5⟩; have n1 := n0.keep h5.bel; have s1 := HCE.out _ n1.bel; have r5 := h5.nw.row)
          | (refine step_append_any (by rfl) _ _ _ (by rfl) w1.heap.size i0 _ Try.underlying29 hi hz0 hz1 hz2 rfl _ (t * D) _ L HLT.out (by rfl) n1.row _ m.length _ m rfl (by rfl) r5.byts r5.nil (by rw [HML.out]; omega) n1.bel.size ?_; intro ao3 c3 w3 ho3 hg3 _; have n3 := n1.app ho3 hg3; have s2 := HCE.out _ n3.bel)))
      have HN3 := hid n3
      rw [← HNT.out] at HN3
      have hl3 : t * D + m.length = (dtw d (t + 1)).length := by rw [HNT.out, List.length_append, HLT.out]
      clear s0 s1 s2 n0 n1 n3 h5 r5 ho3 hg3 c1 b1
      rw [hl3]
      clear hl3
      go_wp2_with fail
      go_roundg (C - (t + 1))
      case measure => rw [HG.out]; omega
      case rel => exact ⟨t + 1, ao3, c3, by omega, rfl, by go_num, rfl, HN3⟩
    · have hge : ¬ (t : Int) < (C : Int) := by omega
      obtain rfl : t = C := by omega
      have HF := hid (HN.out.mono HB1.out)
      rw [HFIN.out] at HF ⊢
      clear HN
      go_wp2_with fail
      go_ret
      exact LW.of rfl HF.out
end Go.Proofs.Ytkdpalmdcnpnoaa.Wv
namespace Go.Proofs.Ytkdpalmdcnpnoaa.Wv
open Go.RowKit Gen Fld Pcm

theorem whb_wby (d : Dat) (l1 l2 : List Nat) (h1 : l1 = fmtb d.n d.f.bits.toNat d.f.rate.toNat) (h2 : l2 = dta d d.cnt) : whb (chb [102, 109, 116, 32] l1 ++ chb [100, 97, 116, 97] l2) = wby d := by
  have e1 : l1.length = 16 := by rw [h1]; exact fmtb_len _ _ _
  have e2 : l2.length = dsz d := by rw [h2]; exact dta_len d d.cnt
  have e3 : (chb [102, 109, 116, 32] l1 ++ chb [100, 97, 116, 97] l2).length + 4 = 4 + 24 + (8 + dsz d + dsz d % 2) := by
    rw [List.length_append, chb_len, chb_len, e1, e2]
    simp only [List.length_cons, List.length_nil]
    omega
  unfold whb
  rw [e3]
  unfold chb wby hdr nsz
  rw [e1, e2, ← h1, ← h2]
  simp only [List.append_assoc]
  rfl
theorem WR.alt {w : World} {base : Nat} {ao : Option Addr} {cap : Nat} {l : List Nat} (h : WR w base ao cap l) : ∀ ad, ao = some ad → ad.block < w.heap.size := fun ad e => (h.blt ad.block (by rw [e]; rfl)).2
/-- What the document's Write leaves. -/
def RWrP (w : World) (d : Dat) (e : Ending) (w' : World) : Prop := ∃ ao cap, e = .returned (.tuple #[.slice ao (wlist d).length cap, .int .i64 d.chk]) ∧ NW w ao cap (wlist d) w'
theorem lw_at {w w' : World} {l : List Nat} {n : Nat} {e : Ending} (hn : l.length = n) (h : LW w l e w') : ∃ ao cap, e = .returned (.slice ao n cap) ∧ NW w ao cap l w' := by subst hn; exact h
set_option maxRecDepth 20000 in
set_option maxHeartbeats 2000000 in
theorem rwrite_ok {w : World} {d : Dat} (h : Snd w d) (hk : d.chk = 0) (hz : dsz d ≤ 268435456) (nb rt : Nat) (hbits : d.f.bits = (nb : Int)) (hrate : d.f.rate = (rt : Int)) :
    Calls Try.prog 11 #[.agg #[.int .i64 (d.n : Int), .int .i64 (nb : Int), .int .i64 (rt : Int), .slice d.a d.n d.cap]] w (RWrP w d) := by
  obtain ⟨i0, hi, hz0, hz1, hz2⟩ := info_parts Try.info5
  obtain ⟨hr, hch, hn8, hn0, hcnt, hln, hfar⟩ := chk_ok hk
  obtain ⟨hr1, hr2, hr3⟩ := hr
  rw [hbits] at hr2
  rw [hrate] at hr3
  have H := hid h
  have hdv : d.v = .agg #[.int .i64 (d.n : Int), .int .i64 (nb : Int), .int .i64 (rt : Int), .slice d.a d.n d.cap] := by unfold Dat.v; rw [← hch, hbits, hrate]
  have HCK := hid fun (w' : World) (hb : Below w.heap.size w w') => rcheck_any w' d (h.below hb)
  have HDA := hid fun (w' : World) (hb : Below w.heap.size w w') => rdata_any (h.below hb) hk
  rw [hdv, hk] at HCK
  rw [hdv] at HDA
  have HFM := hid fun w' => rformat_any d.n nb rt hn8 (by omega) (by omega) w'
  have HM1L := hid (fmtb_len d.n nb rt)
  have HM2L := hid (dta_len d d.cnt)
  rw [show d.cnt * (d.n * wd d.f.bits) = dsz d from rfl] at HM2L
  have HWB := hid (fun l1 l2 h1 h2 => whb_wby d l1 l2 h1 h2)
  rw [hbits, hrate, Int.toNat_natCast, Int.toNat_natCast] at HWB
  have hw0 : wcode d = 0 := by unfold wcode; rw [if_pos hk, if_neg (by omega)]
  have HWL := hid (show wlist d = wby d by unfold wlist; rw [if_pos hw0])
  clear hw0
  have HKK := hid hk
  obtain ⟨M1, hM1⟩ : ∃ M1, M1 = fmtb d.n nb rt := ⟨_, rfl⟩
  obtain ⟨M2, hM2⟩ : ∃ M2, M2 = dta d d.cnt := ⟨_, rfl⟩
  have HWF := hid (HWB.out M1 M2 hM1 hM2)
  rw [← hM1] at HM1L HFM
  rw [← hM2] at HM2L HDA
  clear hM1 hM2 HWB
  generalize dsz d = S at *
  have HC1 := hid (chb_len [102, 109, 116, 32] M1)
  have HC2 := hid (chb_len [100, 97, 116, 97] M2)
  rw [HM1L.out] at HC1
  rw [HM2L.out] at HC2
  have HL := hid (show (chb [102, 109, 116, 32] M1 ++ chb [100, 97, 116, 97] M2).length = 24 + (8 + S + S % 2) by
    rw [List.length_append, HC1.out, HC2.out]; simp only [List.length_cons, List.length_nil])
  rw [show ([102, 109, 116, 32] : List Nat).length + 4 + 16 + 16 % 2 = 24 from rfl] at HC1
  rw [show ([100, 97, 116, 97] : List Nat).length + 4 + S + S % 2 = 8 + S + S % 2 from rfl] at HC2
  have HH1 := hid fun (w : World) (a : Option Addr) (c : Nat) (hb : Byts w a M1) (hn : a = none → M1.length = 0 ∧ c = 0) (hl : ∀ ad, a = some ad → ad.block < w.heap.size) => rchunk_any (w := w) ⟨#[102, 109, 116, 32]⟩ (by decide) hb HM1L.out hn hl (by decide)
  have HH2 := hid fun (w : World) (a : Option Addr) (c : Nat) (hb : Byts w a M2) (hn : a = none → M2.length = 0 ∧ c = 0) (hl : ∀ ad, a = some ad → ad.block < w.heap.size) => rchunk_any (w := w) ⟨#[100, 97, 116, 97]⟩ (by decide) hb HM2L.out hn hl (by omega)
  rw [show sb ⟨#[102, 109, 116, 32]⟩ = [102, 109, 116, 32] from rfl] at HH1
  rw [show sb ⟨#[100, 97, 116, 97]⟩ = [100, 97, 116, 97] from rfl] at HH2
  obtain ⟨C1, hC1⟩ : ∃ C1, C1 = chb [102, 109, 116, 32] M1 := ⟨_, rfl⟩
  obtain ⟨C2, hC2⟩ : ∃ C2, C2 = chb [100, 97, 116, 97] M2 := ⟨_, rfl⟩
  rw [← hC1] at HC1 HH1 HL HWF
  rw [← hC2] at HC2 HH2 HL HWF
  clear hC1 hC2
  obtain ⟨T, hT⟩ : ∃ T, T = 8 + S + S % 2 := ⟨_, rfl⟩
  have hTb : T ≤ 268435466 := by omega
  rw [← hT] at HC2 HL
  clear hT
  have HWH := hid fun (w : World) (a : Option Addr) (c : Nat) (hb : Byts w a (C1 ++ C2)) (hn : a = none → (C1 ++ C2).length = 0 ∧ c = 0) => rwhole_any (w := w) hb HL.out hn (by omega)
  rw [HWF.out, ← HWL.out] at HWH
  have HB0 := hid (below_new w (.cells #[.int .i64 (d.n : Int), .int .i64 (nb : Int), .int .i64 (rt : Int), .slice d.a d.n d.cap] 26))
  have hcells : ∀ w', Below (w.alloc (.cells #[.int .i64 (d.n : Int), .int .i64 (nb : Int), .int .i64 (rt : Int), .slice d.a d.n d.cap] 26)).heap.size (w.alloc (.cells #[.int .i64 (d.n : Int), .int .i64 (nb : Int), .int .i64 (rt : Int), .slice d.a d.n d.cap] 26)) w' → w'.cell? ⟨w.heap.size, 0, none⟩ = some (.int .i64 (d.n : Int)) ∧ w'.cell? ⟨w.heap.size, 1, none⟩ = some (.int .i64 (nb : Int)) ∧ w'.cell? ⟨w.heap.size, 2, none⟩ = some (.int .i64 (rt : Int)) ∧ w'.cell? ⟨w.heap.size, 3, none⟩ = some (.slice d.a d.n d.cap) := fun w' hb => by
    have hlt : w.heap.size < (w.alloc (.cells #[.int .i64 (d.n : Int), .int .i64 (nb : Int), .int .i64 (rt : Int), .slice d.a d.n d.cap] 26)).heap.size := by simp
    have e := (hb.block w.heap.size hlt).trans (heap_alloc_new w _)
    refine ⟨?_, ?_, ?_, ?_⟩ <;> (unfold World.cell?; rw [e]; rfl)
  have HC := hid hcells
  clear hcells hdv hch hbits hrate hln hfar hk hr1 hr2 hr3 hcnt hn0 hn8 h
  obtain ⟨b0, b1, b2, b3⟩ := HC.out _ (Below.refl _ _)
  go_enter Try.func11, Try.ntmps11
  go_wp2_with fail
  generalize w.alloc (.cells #[.int .i64 (d.n : Int), .int .i64 (nb : Int), .int .i64 (rt : Int), .slice d.a d.n d.cap] 26) = W0 at *
  refine (HCK.out _ HB0.out).mono ?_
  rintro e w1 ⟨rfl, hb1⟩
  have HB1 := hid (HB0.out.trans (hb1.mono HB0.out.size))
  have HC1w := hid fun w' (hb : Below w1.heap.size w1 w') => HC.out w' (hb1.trans (hb.mono hb1.size))
  clear b0 b1 b2 b3 hb1 HC HCK
  obtain ⟨b0, b1, b2, b3⟩ := HC1w.out _ (Below.refl _ _)
  go_wp2_with fail
  have d0 : Below w1.heap.size w1 w1.drew := ⟨rfl, rfl, rfl, Nat.le_refl _, fun _ _ => rfl⟩
  have s0 := HC1w.out _ d0
  clear b0 b1 b2 b3
  go_region_held3 (fun w' => w'.cell? ⟨w.heap.size, 0, none⟩ = some (.int .i64 (d.n : Int)) ∧ w'.cell? ⟨w.heap.size, 1, none⟩ = some (.int .i64 (nb : Int)) ∧ w'.cell? ⟨w.heap.size, 2, none⟩ = some (.int .i64 (rt : Int)) ∧ w'.cell? ⟨w.heap.size, 3, none⟩ = some (.slice d.a d.n d.cap))
    (first | with_reducible exact s0 | with_reducible exact s1 | with_reducible exact s2 | with_reducible exact s3 | with_reducible exact s4 | with_reducible exact s5 | with_reducible exact s6 | go_keep)
    ((first
      | (go_at_call 21; (with_reducible refine (HFM.out _).mono ?_); rintro e w2 hx2; obtain ⟨a2, c2, rfl, n2⟩ := lw_at HM1L.out hx2; have d2 := d0.trans (n2.bel.mono d0.size); have s1 := HC1w.out _ d2)
      | (go_at_call 20; (with_reducible refine (HH1.out _ a2 c2 n2.row.byts n2.row.nil n2.row.alt).mono ?_); rintro e w3 hx3; obtain ⟨a3, c3, rfl, n3⟩ := lw_at HC1.out hx3; have d3 := d2.trans (n3.bel.mono d2.size); have s2 := HC1w.out _ d3)
      | (go_at_call 22; (with_reducible refine (HDA.out _ (HB1.out.trans (d3.mono HB1.out.size))).mono ?_); rintro e w4 hx4; obtain ⟨a4, c4, rfl, n4⟩ := lw_at HM2L.out hx4; have d4 := d3.trans (n4.bel.mono d3.size); have s3 := HC1w.out _ d4)
      | (go_at_call 20; (with_reducible refine (HH2.out _ a4 c4 n4.row.byts n4.row.nil n4.row.alt).mono ?_); rintro e w5 hx5; obtain ⟨a5, c5, rfl, n5⟩ := lw_at HC2.out hx5; have d5 := d4.trans (n5.bel.mono d4.size); have s4 := HC1w.out _ d5; have n6 := ((n3.mono d2).keep n4.bel).keep n5.bel)
      | (refine step_append_any (by rfl) _ _ _ (by rfl) w1.heap.size i0 _ Try.underlying29 hi hz0 hz1 hz2 rfl _ 24 _ C1 HC1.out (by rfl) n6.row _ T _ C2 HC2.out (by rfl) n5.row.byts n5.row.nil (by omega) n6.bel.size ?_; intro ao7 c7 w7 ho7 hg7 _; have n7 := n6.app ho7 hg7; have s5 := HC1w.out _ n7.bel)
      | (go_at_call 23; (with_reducible refine (HWH.out _ ao7 c7 n7.row.byts n7.row.nil).mono ?_); rintro e w8 ⟨a8, c8, rfl, n8⟩; have n9 := n8.mono n7.bel; have s6 := HC1w.out _ n9.bel)))
  have HN9 := hid (n9.mono HB1.out)
  clear s0 s1 s2 s3 s4 s5 s6 d0 d2 d3 d4 d5 n2 n3 n4 n5 n6 n7 n8 n9 hx2 hx3 hx4 hx5 ho7 hg7
  go_wp2_with fail
  go_ret2
  exact ⟨a8, c8, by rw [HKK.out]; rfl, HN9.out⟩
end Go.Proofs.Ytkdpalmdcnpnoaa.Wv
namespace Go.Proofs.Ytkdpalmdcnpnoaa.Wv
open Go.RowKit Gen Fld Pcm

set_option maxRecDepth 20000 in
theorem rwrite_any {w : World} {d : Dat} (h : Snd w d) (hz : d.chk = 0 → dsz d ≤ 268435456) : Calls Try.prog 11 #[d.v] w (RWrP w d) := by
  by_cases hk : d.chk = 0
  · obtain ⟨hr, hch, _⟩ := chk_ok hk
    have hr2 := hr.2.1
    have hr3 := hr.2.2
    have e1 : d.f.bits = ((d.f.bits.toNat : Nat) : Int) := by omega
    have e2 : d.f.rate = ((d.f.rate.toNat : Nat) : Int) := by omega
    have h9 := rwrite_ok h hk (hz hk) d.f.bits.toNat d.f.rate.toNat e1 e2
    rw [← e1, ← e2, hch] at h9
    exact h9
  · have HCK := hid fun (w' : World) (hb : Below w.heap.size w w') => rcheck_any w' d (h.below hb)
    unfold Dat.v at HCK
    have HB0 := hid (below_new w (.cells #[.int .i64 d.f.ch, .int .i64 d.f.bits, .int .i64 d.f.rate, .slice d.a d.n d.cap] 26))
    obtain ⟨b0, b1, b2, b3⟩ := bx_new w d
    have q0 : (d.chk != 0) = true := by rw [bne_iff_ne]; exact hk
    have HW := hid (show wlist d = [] by unfold wlist wcode; rw [if_neg hk, if_neg hk])
    show Calls Try.prog 11 #[.agg #[.int .i64 d.f.ch, .int .i64 d.f.bits, .int .i64 d.f.rate, .slice d.a d.n d.cap]] w _
    clear hk
    go_enter Try.func11, Try.ntmps11
    go_wp2_with fail
    generalize w.alloc (.cells #[.int .i64 d.f.ch, .int .i64 d.f.bits, .int .i64 d.f.rate, .slice d.a d.n d.cap] 26) = W0 at *
    refine (HCK.out _ HB0.out).mono ?_
    rintro e w1 ⟨rfl, hb1⟩
    have HF := hid (HB0.out.trans (hb1.mono HB0.out.size))
    clear hb1 b0 b1 b2 b3
    go_wp2_with fail
    go_ret2
    exact ⟨none, 0, by rw [HW.out]; rfl, by rw [HW.out]; exact ⟨(fun _ h => by cases h), .inl ⟨rfl, rfl, rfl⟩⟩, HF.out⟩
theorem small_sz {d : Dat} (h : d.n ≤ 9 ∧ ∀ i, i < d.n → d.ln i ≤ 400) : dsz d ≤ 268435456 := by
  have h1 : d.cnt ≤ 400 := by
    unfold Dat.cnt
    split
    · omega
    · exact h.2 0 (by omega)
  have h2 : d.n * wd d.f.bits ≤ 27 := Nat.mul_le_mul h.1 (wd_le _)
  exact Nat.le_trans (Nat.mul_le_mul h1 h2) (by decide)
theorem small_code {d : Dat} (h : dsz d ≤ 268435456) : wcode d = d.chk := by
  unfold wcode
  split
  · rename_i hk
    rw [if_neg (by omega), hk]
  · rfl
set_option maxRecDepth 20000 in
set_option maxHeartbeats 1000000 in
theorem writes_walk (w : World) (d : Dat) (h : Snd w d) (n : Int) : Calls Try.prog 3 #[d.v, .int .i64 n] w fun e w' => e = .returned (.bool true) ∧ Below w.heap.size w w' := by
  have HSM := hid fun w' (hw : Below w.heap.size w w') => small_any w' d (h.below hw) 300
  have HWR := hid fun w' (hw : Below w.heap.size w w') => write_any (h.below hw)
  have HRW := hid fun w' (hw : Below w.heap.size w w') (hz : d.chk = 0 → dsz d ≤ 268435456) => rwrite_any (h.below hw) hz
  have HKN := hid fun w' => known_true w'
  have HWA := hid fun w' => width_any n w'
  have HWB := hid fun w' => rwidth_any n w'
  unfold Dat.v at HSM HWR HRW
  have HB0 := hid (below_new w (.cells #[.int .i64 d.f.ch, .int .i64 d.f.bits, .int .i64 d.f.rate, .slice d.a d.n d.cap] 26))
  have HX0 := hid (bx_new w d)
  show Calls Try.prog 3 #[.agg #[.int .i64 d.f.ch, .int .i64 d.f.bits, .int .i64 d.f.rate, .slice d.a d.n d.cap], .int .i64 n] w _
  clear h
  obtain ⟨b0, b1, b2, b3⟩ := HX0.out
  go_enter Try.func3, Try.ntmps3
  go_wp2_with fail
  generalize w.alloc (.cells #[.int .i64 d.f.ch, .int .i64 d.f.bits, .int .i64 d.f.rate, .slice d.a d.n d.cap] 26) = W0 at *
  refine (HSM.out _ HB0.out).mono ?_
  rintro e w1 ⟨b, rfl, hsm, hb1⟩
  have HB1 := hid (HB0.out.trans (hb1.mono HB0.out.size))
  have HX1 := hid (HX0.out.below hb1)
  have HS := hid hsm
  clear hsm hb1 b0 b1 b2 b3 HSM HX0
  cases b with
  | false =>
    go_wp2_with fail
    refine (HKN.out _).mono ?_
    rintro e w2 ⟨rfl, hb2⟩
    have HF := hid (HB1.out.trans (hb2.mono HB1.out.size))
    clear hb2
    go_wp2_with fail
    go_ret
    exact ⟨rfl, HF.out⟩
  | true =>
    obtain ⟨s1, s2⟩ := HS.out rfl
    have hz := small_sz (d := d) ⟨s1, fun i hi => Nat.le_trans (s2 i hi) (by decide)⟩
    have HC := hid (small_code hz)
    have HZ := hid hz
    clear s1 s2 hz HS
    obtain ⟨b0, b1, b2, b3⟩ := HX1.out
    go_wp2_with fail
    refine (HWR.out _ HB1.out).mono ?_
    rintro e w2 ⟨ao, ca, rfl, hn2⟩
    rw [HC.out]
    have HN2 := hid hn2.nw
    have HB2 := hid (HB1.out.trans (hn2.bel.mono HB1.out.size))
    have HX2 := hid (HX1.out.below hn2.bel)
    clear hn2 b0 b1 b2 b3
    obtain ⟨b0, b1, b2, b3⟩ := HX2.out
    go_wp2_with fail
    refine (HRW.out _ HB2.out (fun _ => HZ.out)).mono ?_
    rintro e w3 ⟨bo, cb, rfl, hn3⟩
    have HB3 := hid (HB2.out.trans (hn3.bel.mono HB2.out.size))
    have c1 := (HN2.out.keep hn3.bel).row.byts.conv ca
    have c2 := hn3.row.byts.conv cb
    clear hn3 b0 b1 b2 b3 HN2
    generalize tos (wlist d) = P at *
    generalize (wlist d).length = L at *
    generalize wd n = D at *
    go_wp2_with fail
    refine (HWA.out _).mono ?_
    rintro e w4 ⟨rfl, rfl⟩
    go_wp2_with fail
    refine (HWB.out _).mono ?_
    rintro e w4 ⟨rfl, rfl⟩
    go_wp2_with fail
    refine (HKN.out _).mono ?_
    rintro e w4 ⟨rfl, hb4⟩
    have HF := hid (HB3.out.trans (hb4.mono HB3.out.size))
    clear hb4 c1 c2
    go_wp2_with fail
    go_ret
    exact ⟨rfl, HF.out⟩
end Go.Proofs.Ytkdpalmdcnpnoaa.Wv
