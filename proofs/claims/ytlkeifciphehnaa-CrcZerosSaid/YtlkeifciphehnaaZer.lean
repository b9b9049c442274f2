/- Zeros of the table: it is straight, and its powers lead a sum on; the document's own. No condition. -/
import Derived.Test.YtlkeifciphehnaaPow
import Derived.BigQuiet
import Derived.Deep.QuietTactic
namespace Go.Proofs.Ytlkeifciphehnaa.Crc
open Go.RowKit Gen

/-- The lowest bit of a place. -/
def lowb (p : Nat) : Nat := (BitVec.ofNat 64 p &&& -(BitVec.ofNat 64 p)).toNat
theorem low_all : ∀ p : Nat, p < 256 → bits .and .i64 (p : Int) (-(p : Int)) = (lowb p : Int) ∧ lowb p < 256 ∧ p ^^^ lowb p < 256 := by decide +kernel
theorem ofInt64' (a : Nat) (ha : a < 18446744073709551616) : (BitVec.ofInt 64 (a : Int)).toNat = a := ofInt64 a ha
theorem xor64 (a b : Nat) (ha : a < 256) (hb : b < 256) (hc : a ^^^ b < 256) : bits .xor .i64 (a : Int) (b : Int) = ((a ^^^ b : Nat) : Int) := by
  show IntKind.i64.wrap ((BitVec.ofInt 64 (a : Int) ^^^ BitVec.ofInt 64 (b : Int)).toNat : Int) = _
  rw [BitVec.toNat_xor, ofInt64 a (by omega), ofInt64 b (by omega), IntWalk.i64_in _ (by omega)]
theorem ei_split (p : Nat) : ei p = ei (p ^^^ lowb p) ^^^ ei (lowb p) := by
  rw [← ei_lin.lin, Nat.xor_assoc, Nat.xor_self, Nat.xor_zero]

set_option maxRecDepth 100000 in
theorem straight_any {w : World} {g : Nat} (h : Tab w g) : Calls Try.prog 25 #[.pointer (some ⟨g, 0, none⟩)] w fun e w' => e = .returned (.bool true) ∧ Below w.heap.size w w' := by
  have HT := hid h
  clear h
  go_enter Try.func25, Try.ntmps25
  go_wp2_with fail
  go_loopw [3, 4, 5] (fun _ _ i wr => ∃ k : Nat, k ≤ 256 ∧ i = .int .i64 k ∧ Below w.heap.size w wr) (fun _ _ i _ => 256 - (intOf i).toNat)
  case atStart => exact ⟨0, by decide, rfl, Below.refl _ _⟩
  case round =>
    obtain ⟨k, hk, rfl, hb⟩ := hrel
    have HB := hid hb
    clear hb
    by_cases hlt : k < 256
    · obtain ⟨e1, l1, l2⟩ := low_all k hlt
      have T : Tab wr g := HT.out.keep (HB.out.block _ HT.out.lt)
      have c1 := World.rowIs.cell T hlt
      have c2 := World.rowIs.cell T l1
      have c3 := World.rowIs.cell T l2
      have e2 := xor64 k (lowb k) hlt l1 l2
      have e3 := xor32 _ _ (ei_lt (x := k ^^^ lowb k) (by omega)) (ei_lt (x := lowb k) (by omega))
      rw [← ei_split] at e3
      have q1 : (k : Int) < 256 := by omega
      have q2 : ((lowb k : Nat) : Int) < 256 := by omega
      have q3 : ((k ^^^ lowb k : Nat) : Int) < 256 := by omega
      clear T
      generalize hy : k ^^^ lowb k = y at *
      have HY := hid hy
      clear hy
      generalize hl : lowb k = l at *
      have HL := hid hl
      clear hl
      go_wp2_with fail
      go_quiet (fail)
      have HB2 := hid (HB.out.trans (show Below w.heap.size wr (wr.drewN nq) from ⟨rfl, rfl, rfl, Nat.le_refl _, fun _ _ => rfl⟩))
      clear c1 c2 c3 e1 e2 e3 q2 q3 l1 l2
      generalize wr.drewN nq = W at HB2 ⊢
      go_wp2_with fail
      go_roundw
      case rel => exact ⟨k + 1, by omega, by go_num, HB2.out⟩
      case measure => simp [intOf]; omega
    · go_wp2_with fail
      go_ret
      exact ⟨rfl, HB.out⟩

theorem zfn_any {w : World} {g p : Nat} (h : Tab w g) (hp : w.cell? ⟨p, 0, none⟩ = some (.pointer (some ⟨g, 0, none⟩))) (x : Nat) (hx : x < 4294967296) :
    Calls Try.prog 26 #[.int .u32 (x : Int), .pointer (some ⟨p, 0, none⟩)] w fun e w' => e = .returned (.int .u32 (ei x : Int)) ∧ Below w.heap.size w w' := by
  go_enter Try.func26, Try.ntmps26
  go_wp2_with fail
  refine (pass_any h x 0 hx (by decide)).mono ?_
  rintro e w' ⟨rfl, rfl⟩
  rw [Nat.xor_zero]
  go_wp2_with fail
  go_ret
  exact ⟨rfl, Below.refl _ _⟩

/-- n bytes 0 behind a sum. -/
def zs (n s : Nat) : Nat := nt (pw ei n (nt s))
theorem zs_zero (s : Nat) : zs 0 s = s := nt_nt s
theorem zs_add (m n s : Nat) : zs n (zs m s) = zs (m + n) s := by unfold zs; rw [nt_nt, pw_add]
theorem zs_lt {s : Nat} (n : Nat) (h : s < 4294967296) : zs n s < 4294967296 := nt_lt (pw_lt ei_lin n _ (nt_lt h))

set_option maxHeartbeats 1000000 in
set_option maxRecDepth 100000 in
theorem zeros_any {w : World} {g : Nat} (h : Tab w g) (s : Nat) (hs : s < 4294967296) (n : Int) (hn : n ≤ 9223372036854775807) :
    Calls Try.prog 19 #[.pointer (some ⟨g, 0, none⟩), .int .u32 (s : Int), .int .i64 n] w fun e w' => e = .returned (.int .u32 (zs n.toNat s : Int)) ∧ Below w.heap.size w w' := by
  have hz := z44
  have hzs : (zeros 32).size = 32 := by simp [zeros]
  generalize zeros 32 = Z at hz hzs
  have HZS := hid hzs
  clear hzs
  have HT := hid (World.rowIs.alloc h (.cells #[.pointer (some ⟨g, 0, none⟩)] 23))
  have HB := hid ((Below.refl _ w).alloc (Nat.le_refl _) (.cells #[.pointer (some ⟨g, 0, none⟩)] 23))
  have hcell : (w.alloc (.cells #[.pointer (some ⟨g, 0, none⟩)] 23)).cell? ⟨w.heap.size, 0, none⟩ = some (.pointer (some ⟨g, 0, none⟩)) := by rw [World.cell?_alloc_at _ _ _ _ rfl]; rfl
  have HC := hid hcell
  have hlast : w.heap.size < (w.alloc (.cells #[.pointer (some ⟨g, 0, none⟩)] 23)).heap.size := by simp
  have HL := hid hlast
  have hn1 := nt_lt hs
  have hnot := not32 hs
  have hsg := sg32
  clear h hlast hcell
  go_enter Try.func19, Try.ntmps19
  go_wp2_with fail
  generalize w.alloc (.cells #[.pointer (some ⟨g, 0, none⟩)] 23) = W at HT HB HC HL ⊢
  refine (straight_any HT.out).mono ?_
  rintro e w1 ⟨rfl, hb1⟩
  have HT1 := hid (Tab.keep HT.out (hb1.block _ (Tab.lt HT.out)))
  have hcell : w1.cell? ⟨w.heap.size, 0, none⟩ = some (.pointer (some ⟨g, 0, none⟩)) := (hb1.cell (p := ⟨w.heap.size, 0, none⟩) HL.out).trans HC.out
  have HC1 := hid hcell
  have HB1 := hid (HB.out.trans (hb1.mono HB.out.size))
  have HL1 := hid (Nat.lt_of_lt_of_le HL.out hb1.size)
  clear hb1 HT HC HB HL hcell
  have hcell := HC1.out
  go_wp2_with fail
  have hfn : ∀ x, x < 4294967296 → ∀ w', Below w1.heap.size w1 w' → Calls Try.prog 26 (#[.int .u32 (x : Int)] ++ #[.pointer (some ⟨w.heap.size, 0, none⟩)]) w' (fun e w'' => e = .returned (.int .u32 (ei x : Int)) ∧ Below w'.heap.size w' w'') := fun x hx w' hb =>
    zfn_any (HT1.out.keep (hb.block _ HT1.out.lt)) ((hb.cell (p := ⟨w.heap.size, 0, none⟩) HL1.out).trans HC1.out) x hx
  refine (matof_any ei 26 _ (fun args w => Try.call26 args w) _ hfn).mono ?_
  rintro e w2 ⟨rfl, hb2⟩
  have HB2 := hid (HB1.out.trans (hb2.mono HB1.out.size))
  clear hb2 HB1 hfn HT1 HC1 HL1 hcell
  have HR4 := hid (heap_alloc_last w2 (.cells Z 44))
  have HB5 := hid (HB2.out.alloc HB2.out.size (.cells Z 44))
  have HL4 := hid HB2.out.size
  clear HB2
  go_wp2_with (first
    | (refine wpList_store_row rfl 44 _ _ rfl w2.heap.size (mat ei) rfl rfl 44 Z HR4.out (s44m _) (by rw [HZS.out, mat_size]) (mat_one _) ?_)
    | (refine wpList_load_row rfl 44 _ rfl w2.heap.size rfl 44 (mat ei) (0, 0) _ (setRow_heap _ _ _ _ _ _ HR4.out) Try.underlying44 rfl (s44m ei) ?_))
  have HB6 := hid (below_setRow HB5.out HL4.out (mat ei))
  clear HR4 HB5 HL4
  generalize (w2.alloc (.cells Z 44)).setRow w2.heap.size (mat ei) = W4 at HB6 ⊢
  refine (repeat_any ei ei_lin _ hn1 n hn _).mono ?_
  rintro e w5 ⟨rfl, hb5⟩
  have HB7 := hid (HB6.out.trans (hb5.mono HB6.out.size))
  clear hb5 HB6 hnot
  have hnot := not32 (pw_lt ei_lin n.toNat _ hn1)
  go_wp2_with fail
  go_ret
  exact ⟨rfl, HB7.out⟩

theorem rzeros_any {w : World} (s : Nat) (hs : s < 4294967296) (n : Nat) (hn : n ≤ 1099511627776) :
    Calls Try.prog 20 #[.int .u32 (s : Int), .int .i64 (n : Int)] w fun e w' => e = .returned (.int .u32 (zs n s : Int)) ∧ w = w' := by
  have hn1 := nt_lt hs
  have hnot : bits .xor .u32 (s : Int) 4294967295 = ((nt s : Nat) : Int) := xor32 s 4294967295 hs (by decide)
  go_enter Try.func20, Try.ntmps20
  go_wp2_with fail
  clear hnot
  go_loop [5, 6] (fun v i => ∃ k : Nat, k ≤ n ∧ i = .int .i64 k ∧ v = .int .u32 (pw ei k (nt s) : Int)) (fun _ i => n - (intOf i).toNat)
  case atStart => exact ⟨0, Nat.zero_le _, rfl, rfl⟩
  case round =>
    obtain ⟨k, hk, rfl, rfl⟩ := hrel
    have hr := pw_lt ei_lin k (nt s) hn1
    by_cases hlt : k < n
    · go_wp2_with fail
      refine (eight_any _ hr _).mono ?_
      rintro e w' ⟨rfl, rfl⟩
      go_wp2_with fail
      go_round
      case rel => exact ⟨k + 1, by omega, by go_num, by rw [pw_succ]⟩
      case measure => simp [intOf]; omega
    · obtain rfl : k = n := by omega
      have hnot : bits .xor .u32 (pw ei k (nt s) : Int) 4294967295 = ((nt (pw ei k (nt s)) : Nat) : Int) := xor32 _ 4294967295 hr (by decide)
      go_wp2_with fail
      go_ret
      exact ⟨rfl, rfl⟩

set_option maxHeartbeats 1000000 in
set_option maxRecDepth 100000 in
theorem zeros_walk (s : Nat) (hs : s < 4294967296) (n : Int) (hlo : -9223372036854775808 ≤ n) (hn : n ≤ 9223372036854775807) (w : World) :
    Calls Try.prog 6 #[.int .u32 (s : Int), .int .i64 n] w fun e w' => e = .returned (.bool true) ∧ Below w.heap.size w w' := by
  by_cases h0 : n < 0
  · have hz0 : n.toNat = 0 := by omega
    have HZ0 := hid hz0
    clear hz0
    go_enter Try.func6, Try.ntmps6
    go_wp2_with fail
    refine (make_any _).mono ?_
    rintro e w1 ⟨rfl, ht, hb1⟩
    have HB := hid hb1
    clear hb1
    go_wp2_with fail
    refine (zeros_any ht s hs n hn).mono ?_
    rintro e w2 ⟨rfl, hb2⟩
    have HB2 := hid (HB.out.trans (hb2.mono HB.out.size))
    clear hb2 HB
    rw [HZ0.out, zs_zero]
    go_wp2_with fail
    refine (known_true _).mono ?_
    rintro e w3 ⟨rfl, hb3⟩
    have HB3 := hid (HB2.out.trans (hb3.mono HB2.out.size))
    clear hb3 HB2
    go_wp2_with fail
    go_ret
    exact ⟨rfl, HB3.out⟩
  · obtain ⟨k, rfl⟩ : ∃ k : Nat, n = k := ⟨n.toNat, by omega⟩
    have h0' : ¬ (k : Int) < 0 := h0
    have hsum : zs ((k : Int) - (k : Int) / 2).toNat (zs ((k : Int) / 2).toNat s) = zs (k : Int).toNat s := by rw [zs_add]; congr 1; omega
    have HS := hid hsum
    clear hsum h0
    go_enter Try.func6, Try.ntmps6
    go_wp2_with fail
    refine (make_any _).mono ?_
    rintro e w1 ⟨rfl, ht, hb1⟩
    have HB := hid hb1
    clear hb1
    go_wp2_with fail
    have hl1 := zs_lt ((k : Int) / 2).toNat hs
    refine (zeros_any ht s hs ((k : Int) / 2) (by omega)).mono ?_
    rintro e w2 ⟨rfl, hb2⟩
    have ht2 := ht.keep (hb2.block _ ht.lt)
    have HB2 := hid (HB.out.trans (hb2.mono HB.out.size))
    clear hb2 HB ht
    go_wp2_with fail
    refine (zeros_any ht2 _ hl1 ((k : Int) - (k : Int) / 2) (by omega)).mono ?_
    rintro e w3 ⟨rfl, hb3⟩
    rw [HS.out]
    have ht3 := ht2.keep (hb3.block _ ht2.lt)
    have HB3 := hid (HB2.out.trans (hb3.mono HB2.out.size))
    clear hb3 HB2 ht2
    go_wp2_with fail
    refine (zeros_any ht3 s hs (k : Int) hn).mono ?_
    rintro e w4 ⟨rfl, hb4⟩
    have ht4 := ht3.keep (hb4.block _ ht3.lt)
    have HB4 := hid (HB3.out.trans (hb4.mono HB3.out.size))
    clear hb4 HB3 ht3
    by_cases h3 : k ≤ 3000
    · have h3' : ¬ (3000 : Int) < (k : Int) := by omega
      go_wp2_with fail
      refine (zeros_any ht4 s hs (k : Int) hn).mono ?_
      rintro e w5 ⟨rfl, hb5⟩
      have HB5 := hid (HB4.out.trans (hb5.mono HB4.out.size))
      clear hb5 HB4 ht4
      go_wp2_with fail
      refine (rzeros_any s hs k (by omega)).mono ?_
      rintro e w6 ⟨rfl, rfl⟩
      go_wp2_with fail
      refine (known_true _).mono ?_
      rintro e w7 ⟨rfl, hb7⟩
      have HB7 := hid (HB5.out.trans (hb7.mono HB5.out.size))
      clear hb7 HB5
      go_wp2_with fail
      go_ret
      exact ⟨rfl, HB7.out⟩
    · have h3' : (3000 : Int) < (k : Int) := by omega
      go_wp2_with fail
      refine (known_true _).mono ?_
      rintro e w7 ⟨rfl, hb7⟩
      have HB7 := hid (HB4.out.trans (hb7.mono HB4.out.size))
      clear hb7 HB4
      go_wp2_with fail
      go_ret
      exact ⟨rfl, HB7.out⟩
end Go.Proofs.Ytlkeifciphehnaa.Crc
