/- One call of a writer and of the document's own list of bits: both have the same bits behind it, and answer the same. Conditions: fewer than 2^39 bits, and they are a number below 2 to their number. -/
import Derived.Test.YtpjiglnjllpjcaaLb
import Derived.Test.YtpjiglnjllpjcaaAdds
namespace Go.Proofs.Ytpjiglnjllpjcaa.Bit
open Go.RowKit

theorem pad_same (N L : Nat) (h : L % 8 = 0) : pad N L = N ∧ 8 * ((L + 7) / 8) = L := by
  have e : 8 * ((L + 7) / 8) = L := by omega
  unfold pad
  rw [e, Nat.sub_self, Nat.pow_zero, Nat.mul_one]
  exact ⟨rfl, rfl⟩

def AlPost (w : World) (B p : Nat) (ao : Option Addr) (N L : Nat) (e : Ending) (w' : World) : Prop :=
  e = .returned (.tuple #[]) ∧ ∃ ao' cap', WrN w' B p 0 ao' cap' (pad N L) (8 * ((L + 7) / 8)) ∧ Pushed w w' p ao ao' (L / 8)
theorem walign_any (B p : Nat) (ao : Option Addr) (cap N L : Nat) (w : World) (hw : WrN w B p 0 ao cap N L) (hL : L ≤ 7000000000000) :
    Calls Try.prog 27 #[.pointer (some ⟨p, 0, none⟩)] w (AlPost w B p ao N L) := by
  have c2 := Wr.c2 hw
  by_cases h8 : L % 8 = 0
  · have hfin : WrN w B p 0 ao cap (pad N L) (8 * ((L + 7) / 8)) := by obtain ⟨e1, e2⟩ := pad_same N L h8; rw [e1, e2]; exact hw
    have h1 : ¬ (0 : Int) < (L : Int) % 8 := by omega
    have HF := hid hfin
    clear hw hfin h8
    go_enter Try.func27, Try.ntmps27
    go_wp2_with fail
    go_end0
    refine ⟨rfl, ao, cap, HF.out, Pushed.refl _ _ _ _⟩
  · have h1 : (0 : Int) < (L : Int) % 8 := by omega
    have hn : 8 * ((L + 7) / 8) = L + (8 - L % 8) := by omega
    have hp : pad N L = N * 2 ^ (8 - L % 8) + 0 := by unfold pad; rw [hn, show L + (8 - L % 8) - L = 8 - L % 8 from by omega, Nat.add_zero]
    have HN := hid (And.intro hn hp)
    have HW := hid hw
    clear hw hn hp
    go_enter Try.func27, Try.ntmps27
    go_wp2_with fail
    refine (push_N B p 0 _ _ 0 (8 - L % 8) ao cap N L _ rfl (by omega) HW.out (Nat.two_pow_pos _) (by omega) (by omega)).mono ?_
    rintro e w' ⟨rfl, ao', cap', h4, h5⟩
    rw [← HN.out.1, ← HN.out.2] at h4
    have HF := hid (And.intro h4 h5)
    clear h4 h5
    go_wp2_with fail
    go_end0
    exact ⟨rfl, ao', cap', HF.out.1, HF.out.2⟩

def ManyPost (w : World) (B p : Nat) (ao : Option Addr) (N L b : Nat) (n : Int) (e : Ending) (w' : World) : Prop :=
  e = .returned (.int .i64 (manyS N L b n).2.2) ∧ ∃ ao' cap', WrN w' B p 0 ao' cap' (manyS N L b n).1 (manyS N L b n).2.1 ∧ Pushed w w' p ao ao' (L / 8)

theorem ones_many (B p : Nat) (ao : Option Addr) (cap N L : Nat) (w : World) (hw : WrN w B p 0 ao cap N L) (n : Int) (hL : L ≤ 7000000000000) :
    Calls Try.prog 28 #[.pointer (some ⟨p, 0, none⟩), .int .i64 n] w (ManyPost w B p ao N L 1 n) := by
  by_cases h1 : n < 0
  · have e : manyS N L 1 n = (N, L, 1) := if_pos h1
    refine (ones_arg _ n w h1).mono ?_
    rintro _ w' ⟨rfl, rfl⟩
    unfold ManyPost
    rw [e]
    exact ⟨rfl, ao, cap, hw, Pushed.refl _ _ _ _⟩
  · by_cases h2 : 1048576 < n
    · have e : manyS N L 1 n = (N, L, 4) := by unfold manyS; rw [if_neg h1, if_pos h2]
      refine (ones_long _ n w h2).mono ?_
      rintro _ w' ⟨rfl, rfl⟩
      unfold ManyPost
      rw [e]
      exact ⟨rfl, ao, cap, hw, Pushed.refl _ _ _ _⟩
    · obtain ⟨m, rfl⟩ := Int.eq_ofNat_of_zero_le (show 0 ≤ n by omega)
      have e : manyS N L 1 m = (N * 2 ^ m + (2 ^ m - 1), L + m, 0) := by unfold manyS many; rw [if_neg h1, if_neg h2, Nat.one_mul]; rfl
      unfold ManyPost
      rw [e]
      exact ones_ok B p 0 m ao cap N L w hw (by omega) hL
theorem zeros_many (B p : Nat) (ao : Option Addr) (cap N L : Nat) (w : World) (hw : WrN w B p 0 ao cap N L) (n : Int) (hL : L ≤ 7000000000000) :
    Calls Try.prog 29 #[.pointer (some ⟨p, 0, none⟩), .int .i64 n] w (ManyPost w B p ao N L 0 n) := by
  by_cases h1 : n < 0
  · have e : manyS N L 0 n = (N, L, 1) := if_pos h1
    refine (zeros_arg _ n w h1).mono ?_
    rintro _ w' ⟨rfl, rfl⟩
    unfold ManyPost
    rw [e]
    exact ⟨rfl, ao, cap, hw, Pushed.refl _ _ _ _⟩
  · by_cases h2 : 1048576 < n
    · have e : manyS N L 0 n = (N, L, 4) := by unfold manyS; rw [if_neg h1, if_pos h2]
      refine (zeros_long _ n w h2).mono ?_
      rintro _ w' ⟨rfl, rfl⟩
      unfold ManyPost
      rw [e]
      exact ⟨rfl, ao, cap, hw, Pushed.refl _ _ _ _⟩
    · obtain ⟨m, rfl⟩ := Int.eq_ofNat_of_zero_le (show 0 ≤ n by omega)
      have e : manyS N L 0 m = (N * 2 ^ m, L + m, 0) := by unfold manyS; rw [if_neg h1, if_neg h2, many_bit0]; rfl
      unfold ManyPost
      rw [e]
      exact zeros_ok B p 0 m ao cap N L w hw (by omega) hL

/-- What a call makes of the bits. -/
def step (x : Nat × Nat) (k v n : Int) : Nat × Nat :=
  if k = 0 then put2 x v n else if k = 1 then ((manyS x.1 x.2 1 n).1, (manyS x.1 x.2 1 n).2.1) else if k = 2 then ((manyS x.1 x.2 0 n).1, (manyS x.1 x.2 0 n).2.1)
  else if k = 3 then (pad x.1 x.2, 8 * ((x.2 + 7) / 8)) else if k = 4 then (x.1 * 2 ^ x.2 + x.1, x.2 + x.2) else x

theorem many_lt (N L b n : Nat) (h : N < 2 ^ L) (hb : b < 2) : many N b n < 2 ^ (L + n) := by
  unfold many
  rw [Nat.pow_add]
  have h1 : (N + 1) * 2 ^ n ≤ 2 ^ L * 2 ^ n := Nat.mul_le_mul_right _ h
  rw [Nat.add_mul, Nat.one_mul] at h1
  have h2 := Nat.two_pow_pos n
  have h3 : b * (2 ^ n - 1) ≤ 1 * (2 ^ n - 1) := Nat.mul_le_mul_right _ (by omega)
  omega
theorem manyS_lt (N L b : Nat) (n : Int) (h : N < 2 ^ L) (hb : b < 2) : (manyS N L b n).1 < 2 ^ (manyS N L b n).2.1 := by
  unfold manyS; split
  · exact h
  · split
    · exact h
    · exact many_lt N L b n.toNat h hb
theorem manyS_len (N L b : Nat) (n : Int) (h : n ≤ 300 ∨ 1048576 < n) : (manyS N L b n).2.1 ≤ L + 300 := by
  unfold manyS; split
  · exact Nat.le_add_right _ _
  · split
    · exact Nat.le_add_right _ _
    · show L + n.toNat ≤ L + 300; omega
theorem step_lt (x : Nat × Nat) (k v n : Int) (h : x.1 < 2 ^ x.2) : (step x k v n).1 < 2 ^ (step x k v n).2 := by
  unfold step
  split
  · exact put2_lt _ _ _ h
  split
  · exact manyS_lt _ _ _ _ h (by decide)
  split
  · exact manyS_lt _ _ _ _ h (by decide)
  split
  · show x.1 * 2 ^ (8 * ((x.2 + 7) / 8) - x.2) < 2 ^ (8 * ((x.2 + 7) / 8))
    have e : 2 ^ (8 * ((x.2 + 7) / 8)) = 2 ^ x.2 * 2 ^ (8 * ((x.2 + 7) / 8) - x.2) := by rw [← Nat.pow_add]; congr 1; omega
    rw [e]
    exact Nat.mul_lt_mul_of_pos_right h (Nat.two_pow_pos _)
  split
  · show x.1 * 2 ^ x.2 + x.1 < 2 ^ (x.2 + x.2)
    rw [Nat.pow_add]
    have h1 : (x.1 + 1) * 2 ^ x.2 ≤ 2 ^ x.2 * 2 ^ x.2 := Nat.mul_le_mul_right _ h
    rw [Nat.add_mul, Nat.one_mul] at h1
    omega
  · exact h
theorem step_len (x : Nat × Nat) (k v n : Int) (h : 1 ≤ k → k ≤ 2 → n ≤ 300 ∨ 1048576 < n) : (step x k v n).2 ≤ (if k = 4 then 2 else 1) * x.2 + 300 := by
  unfold step
  split
  · have := put2_len x v n; split <;> omega
  split
  · have := manyS_len x.1 x.2 1 n (h (by omega) (by omega)); split <;> omega
  split
  · have := manyS_len x.1 x.2 0 n (h (by omega) (by omega)); split <;> omega
  split
  · show 8 * ((x.2 + 7) / 8) ≤ _; split <;> omega
  split
  · show x.2 + x.2 ≤ _; omega
  · omega

/-- A writer in the first block of the call's own, and the list of the same bits. -/
def WS (w wr : World) (v : Value) (x : Nat × Nat) : Prop := ∃ (ao : Option Addr) (cap : Nat) (lo : Option Addr) (lcap : Nat), v = .slice lo x.2 lcap ∧ WrN wr w.heap.size w.heap.size 0 ao cap x.1 x.2 ∧
  Lst wr w.heap.size lo lcap x.1 x.2 ∧ (∀ g, blk lo = some g → g ≠ w.heap.size ∧ blk ao ≠ some g) ∧ Below w.heap.size w wr

theorem WS.below {w wr : World} {v : Value} {x : Nat × Nat} (h : WS w wr v x) : Below w.heap.size w wr := by obtain ⟨_, _, _, _, _, _, _, _, hb⟩ := h; exact hb
theorem WS.fr {w wr w' : World} {v : Value} {x : Nat × Nat} (h : WS w wr v x) (hf : Fr (fun _ => False) wr w') : WS w w' v x := by
  obtain ⟨ao, cap, lo, lcap, rfl, hw, hl, hs, hb⟩ := h
  exact ⟨ao, cap, lo, lcap, rfl, hw.fr hf, hl.fr hf (fun _ _ x => x), hs, hb.trans ⟨hf.os, hf.tape, hf.output, hf.size, fun k hk => hf.block k (Nat.lt_of_lt_of_le hk hb.size) (fun e => e)⟩⟩
theorem WS.upto {w wr w' : World} {v : Value} {x : Nat × Nat} (h : WS w wr v x) (hb : Below wr.heap.size wr w') : WS w w' v x :=
  h.fr ⟨hb.os, hb.tape, hb.output, hb.size, fun k hk _ => hb.block k hk⟩

theorem ws_turn {w w0 w1 w2 : World} {ao ao' lo : Option Addr} {cap cap' lcap N L N' L' k : Nat} {v : Value} (hw : WrN w0 w.heap.size w.heap.size 0 ao cap N L) (hl : Lst w0 w.heap.size lo lcap N L)
    (hs : ∀ g, blk lo = some g → g ≠ w.heap.size ∧ blk ao ≠ some g) (hb : Below w.heap.size w w0) (h1 : WrN w1 w.heap.size w.heap.size 0 ao' cap' N' L') (hp : Pushed w0 w1 w.heap.size ao ao' k) (h2 : Ls w1 w.heap.size lo N' L' v w2) : WS w w2 v (N', L') := by
  obtain ⟨lo', lcap', rfl, l2, b2, at2⟩ := h2
  have hb1 := hb.trans (hp.below (Nat.le_refl _) (fun g hg => (Wr.rlt hw g hg).1) hb.size)
  refine ⟨ao', cap', lo', lcap', rfl, h1.fr ⟨b2.os, b2.tape, b2.output, b2.size, fun k hk _ => b2.block k hk⟩, l2, ?_, hb1.trans (b2.mono hb1.size)⟩
  intro g hg
  have hpl := Wr.plt h1
  rcases at2 with e | e
  · rw [e] at hg
    refine ⟨(hs g hg).1, ?_⟩
    rcases hp.at_ with e2 | e2
    · rw [e2]; exact (hs g hg).2
    · intro e3
      have := e2 g e3
      have := (hl.lt g hg).2
      omega
  · have hge := e g hg
    refine ⟨by omega, fun e3 => ?_⟩
    have := (Wr.rlt h1 g e3).2
    omega
/-- The list that the writer does not reach, behind a call of the writer. -/
theorem lst_past {w w0 w1 : World} {ao ao' lo : Option Addr} {lcap N L k : Nat} (hl : Lst w0 w.heap.size lo lcap N L) (hs : ∀ g, blk lo = some g → g ≠ w.heap.size ∧ blk ao ≠ some g) (hp : Pushed w0 w1 w.heap.size ao ao' k) : Lst w1 w.heap.size lo lcap N L :=
  hl.fr hp.fr fun g hg e => e.elim (hs g hg).1 (hs g hg).2

def DoPost (w : World) (x : Nat × Nat) (k v n : Int) (e : Ending) (w' : World) : Prop := ∃ y, e = .returned (.tuple #[y, .bool true]) ∧ WS w w' y (step x k v n)

theorem box_past {w wr w1 : World} {ob : Obj} {ao ao' : Option Addr} {cap N L j : Nat} (hw : WrN wr w.heap.size w.heap.size 0 ao cap N L) (hp : Pushed (wr.alloc ob) w1 w.heap.size ao ao' j) (off : Nat) :
    w1.cell? ⟨wr.heap.size, off, none⟩ = (wr.alloc ob).cell? ⟨wr.heap.size, off, none⟩ :=
  hp.fr.cell (p := ⟨wr.heap.size, off, none⟩) (by simp) (by
    rintro (e | e)
    · have := Wr.plt hw; simp at e; omega
    · have := (Wr.rlt hw _ e).2; simp at this)

set_option maxHeartbeats 3200000 in
set_option maxRecDepth 100000 in
theorem do_any {w wr : World} {x : Nat × Nat} {y : Value} (h : WS w wr y x) (hx : x.1 < 2 ^ x.2) (hL : x.2 ≤ 400000000000) (k v n : Int) (hv : 0 ≤ v) (hv2 : v < 18446744073709551616) :
    Calls Try.prog 10 #[.pointer (some ⟨w.heap.size, 0, none⟩), y, .agg #[.int .i64 k, .int .u64 v, .int .i64 n]] wr (DoPost w x k v n) := by
  obtain ⟨ao, cap, lo, lcap, rfl, hw', hl', hs, hb'⟩ := h
  have hw := hw'.fr ((Fr.refl (fun _ => False) wr).alloc (.cells #[.int .i64 k, .int .u64 v, .int .i64 n] 34))
  have hl := hl'.fr ((Fr.refl (fun _ => False) wr).alloc (.cells #[.int .i64 k, .int .u64 v, .int .i64 n] 34)) (fun _ _ x => x)
  have hb : Below w.heap.size w (wr.alloc (.cells #[.int .i64 k, .int .u64 v, .int .i64 n] 34)) := hb'.alloc hb'.size _
  have c1 : (wr.alloc (.cells #[.int .i64 k, .int .u64 v, .int .i64 n] 34)).cell? ⟨wr.heap.size, 1, none⟩ = some (.int .u64 v) := by simp
  have c2 : (wr.alloc (.cells #[.int .i64 k, .int .u64 v, .int .i64 n] 34)).cell? ⟨wr.heap.size, 2, none⟩ = some (.int .i64 n) := by simp
  have hsz := hb.size
  unfold DoPost
  by_cases k0 : k = 0
  · subst k0
    rw [show step x 0 v n = put2 x v n from rfl]
    go_enter Try.func10, Try.ntmps10
    go_wp2_with fail
    refine (put_any w.heap.size w.heap.size 0 v n v.toNat ao cap x.1 x.2 _ hw (by omega) (by omega)).mono ?_
    rintro e w1 ⟨rfl, ao', cap', h1, hp⟩
    have d1 := (box_past hw' hp 1).trans c1
    have d2 := (box_past hw' hp 2).trans c2
    have hl1 := lst_past hl hs hp
    go_wp2_with fail
    refine (rput_any w1 w.heap.size lo lcap x.1 x.2 hl1 (Nat.le_trans hsz hp.fr.size) (by omega) v n v.toNat (by omega) (by omega)).mono ?_
    rintro e w2 ⟨y, rfl, h2⟩
    have hfin : WS w w2 y (put2 x v n) := ws_turn hw hl hs hb h1 hp h2
    clear h1 hp d1 d2 hl1 h2 hw hl hs hb c1 c2 hw' hl' hb'
    go_wp2_with fail
    go_ret2
    exact ⟨y, rfl, hfin⟩
  have e0 : (k == 0) = false := beq_eq_false_iff_ne.2 k0
  by_cases k1 : k = 1
  · subst k1
    rw [show step x 1 v n = ((manyS x.1 x.2 1 n).1, (manyS x.1 x.2 1 n).2.1) from rfl]
    go_enter Try.func10, Try.ntmps10
    go_wp2_with fail
    refine (ones_many w.heap.size w.heap.size ao cap x.1 x.2 _ hw n (by omega)).mono ?_
    rintro e w1 ⟨rfl, ao', cap', h1, hp⟩
    have d2 := (box_past hw' hp 2).trans c2
    have hl1 := lst_past hl hs hp
    go_wp2_with fail
    refine (rmany_any w1 w.heap.size lo lcap x.1 x.2 hl1 (Nat.le_trans hsz hp.fr.size) (by omega) n 1 (by decide)).mono ?_
    rintro e w2 ⟨y, rfl, h2⟩
    have hfin : WS w w2 y ((manyS x.1 x.2 1 n).1, (manyS x.1 x.2 1 n).2.1) := ws_turn hw hl hs hb h1 hp h2
    clear h1 hp d2 hl1 h2 hw hl hs hb c1 c2 hw' hl' hb'
    go_wp2_with fail
    go_ret2
    exact ⟨y, rfl, hfin⟩
  have e1 : (k == 1) = false := beq_eq_false_iff_ne.2 k1
  by_cases k2 : k = 2
  · subst k2
    rw [show step x 2 v n = ((manyS x.1 x.2 0 n).1, (manyS x.1 x.2 0 n).2.1) from rfl]
    go_enter Try.func10, Try.ntmps10
    go_wp2_with fail
    refine (zeros_many w.heap.size w.heap.size ao cap x.1 x.2 _ hw n (by omega)).mono ?_
    rintro e w1 ⟨rfl, ao', cap', h1, hp⟩
    have d2 := (box_past hw' hp 2).trans c2
    have hl1 := lst_past hl hs hp
    go_wp2_with fail
    refine (rmany_any w1 w.heap.size lo lcap x.1 x.2 hl1 (Nat.le_trans hsz hp.fr.size) (by omega) n 0 (by decide)).mono ?_
    rintro e w2 ⟨y, rfl, h2⟩
    have hfin : WS w w2 y ((manyS x.1 x.2 0 n).1, (manyS x.1 x.2 0 n).2.1) := ws_turn hw hl hs hb h1 hp h2
    clear h1 hp d2 hl1 h2 hw hl hs hb c1 c2 hw' hl' hb'
    go_wp2_with fail
    go_ret2
    exact ⟨y, rfl, hfin⟩
  have e2 : (k == 2) = false := beq_eq_false_iff_ne.2 k2
  by_cases k3 : k = 3
  · subst k3
    rw [show step x 3 v n = (pad x.1 x.2, 8 * ((x.2 + 7) / 8)) from rfl]
    go_enter Try.func10, Try.ntmps10
    go_wp2_with fail
    refine (walign_any w.heap.size w.heap.size ao cap x.1 x.2 _ hw (by omega)).mono ?_
    rintro e w1 ⟨rfl, ao', cap', h1, hp⟩
    have hl1 := lst_past hl hs hp
    go_wp2_with fail
    refine (ralign_list w1 w.heap.size lo lcap x.1 x.2 hl1 (Nat.le_trans hsz hp.fr.size) (by omega)).mono ?_
    rintro e w2 ⟨y, rfl, h2⟩
    have hfin : WS w w2 y (pad x.1 x.2, 8 * ((x.2 + 7) / 8)) := ws_turn hw hl hs hb h1 hp h2
    clear h1 hp hl1 h2 hw hl hs hb c1 c2 hw' hl' hb'
    go_wp2_with fail
    go_ret2
    exact ⟨y, rfl, hfin⟩
  have e3 : (k == 3) = false := beq_eq_false_iff_ne.2 k3
  by_cases k4 : k = 4
  · subst k4
    rw [show step x 4 v n = (x.1 * 2 ^ x.2 + x.1, x.2 + x.2) from rfl]
    obtain ⟨i0, hi, hz0, hz1, hz2⟩ := info_parts Try.info3
    have hown0 := World.ownsRow_made (e := 3) (size := 1) (wr.alloc (.cells #[.int .i64 4, .int .u64 v, .int .i64 n] 34)) #[] 0 hsz (by decide) rfl
    have hl2 := hl.fr ((Fr.refl (fun _ => False) _).alloc (.cells #[] 3)) (fun _ _ x => x)
    have hsz1 : (wr.alloc (.cells #[.int .i64 4, .int .u64 v, .int .i64 n] 34)).heap.size = wr.heap.size + 1 := by simp
    have HSZ1 := hid hsz1
    rw [hsz1] at hown0
    clear hsz1
    go_enter Try.func10, Try.ntmps10
    go_wp2_with (at_builtin; go_must (refine wpList_append_list _ rfl (.tmp 82) (.tmp 83) 30 rfl w.heap.size 3 i0 (.int .i64 0) 8 Try.underlying30 hi hz0 hz1 hz2 rfl (some ⟨wr.heap.size + 1, 0, none⟩) 0 0 [] rfl hown0 lo x.2 lcap (bitl x.1 x.2) rfl (bitl_len x.1 x.2) hl2.none' hl2.cells (bitl_one x.1 x.2) (by unfold maxLen; omega) (by omega) (by have := hb'.size; simp; omega) ?_))
    intro lo1 lcap1 w1 hown1 hg1 hat1
    have hn1 : Nw (wr.alloc (.cells #[.int .i64 4, .int .u64 v, .int .i64 n] 34)) w.heap.size lo1 lcap1 x.1 x.2 w1 := Nw.start hown1 (by rw [HSZ1.out]; exact hg1) (by rw [HSZ1.out]; exact hat1)
    have hl3 := hl.upto hn1.below
    have hw3 := hw.fr (w' := w1) ⟨hn1.below.os, hn1.below.tape, hn1.below.output, hn1.below.size, fun k hk _ => hn1.below.block k hk⟩
    clear hown1 hg1 hat1 hown0 hl2
    go_wp2_with (at_builtin; go_must (refine wpList_append_list _ rfl (.tmp 84) (.tmp 85) 30 rfl w.heap.size 3 i0 (.int .i64 0) 8 Try.underlying30 hi hz0 hz1 hz2 rfl lo1 x.2 lcap1 (bitl x.1 x.2) rfl hn1.lst lo x.2 lcap (bitl x.1 x.2) rfl (bitl_len x.1 x.2) hl3.none' hl3.cells (bitl_one x.1 x.2) (by unfold maxLen; omega) (by omega) (Nat.le_trans hsz hn1.below.size) ?_))
    intro lo2 lcap2 w2 hown2 hg2 hat2
    have hn2 := hn1.app (Below.refl _ _) hx hown2 hg2 hat2
    have hw4 := hw.fr (w' := w2) ⟨hn2.below.os, hn2.below.tape, hn2.below.output, hn2.below.size, fun k hk _ => hn2.below.block k hk⟩
    clear hown2 hg2 hat2 hn1 hl3 hw3
    go_wp2_with fail
    refine (add_self w.heap.size w.heap.size 0 ao cap x.1 x.2 w2 hw4 hx (by omega)).mono ?_
    rintro e w3 ⟨rfl, ao', cap', h1, hp⟩
    have hfin : WS w w3 (.slice lo2 (x.2 + x.2) lcap2) (x.1 * 2 ^ x.2 + x.1, x.2 + x.2) := by
      have hpl := Wr.plt hw
      have hfar : ∀ g, blk lo2 = some g → ¬ (g = w.heap.size ∨ blk ao = some g) := fun g hg e => by
        have := hn2.new g hg
        rcases e with e | e
        · omega
        · have := (Wr.rlt hw g e).2; omega
      refine ⟨ao', cap', lo2, lcap2, rfl, h1, hn2.lst.fr hp.fr hfar, ?_, (hb.trans (hn2.below.mono hsz)).trans (hp.below (Nat.le_refl _) (fun g hg => (Wr.rlt hw g hg).1) (Nat.le_trans hsz hn2.below.size))⟩
      intro g hg
      refine ⟨fun e => hfar g hg (.inl e), fun e => ?_⟩
      rcases hp.at_ with e2 | e2
      · exact hfar g hg (.inr (by rw [← e2]; exact e))
      · have := e2 g e; have := (hn2.lst.lt g hg).2; omega
    clear h1 hp hn2 hw4 hw hl hs hb c1 c2 hw' hl' hb'
    go_wp2_with fail
    go_ret2
    exact ⟨_, rfl, hfin⟩
  have e4 : (k == 4) = false := beq_eq_false_iff_ne.2 k4
  rw [show step x k v n = x from by unfold step; rw [if_neg k0, if_neg k1, if_neg k2, if_neg k3, if_neg k4]]
  have hfin : WS w (wr.alloc (.cells #[.int .i64 k, .int .u64 v, .int .i64 n] 34)) (.slice lo x.2 lcap) x := ⟨ao, cap, lo, lcap, rfl, hw, hl, hs, hb⟩
  clear hw hl hs hb c1 c2 hw' hl' hb'
  go_enter Try.func10, Try.ntmps10
  go_wp2_with fail
  go_ret2
  exact ⟨_, rfl, hfin⟩
end Go.Proofs.Ytpjiglnjllpjcaa.Bit
