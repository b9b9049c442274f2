/- BitioReads' walk: whatever is asked of at most two hundred bytes, at most a hundred times, a reader answers, and stands, as the document's own reader. Conditions: those of the memory's own form alone. -/
import Derived.Test.YtpjiglnjllpjcaaOnes
import Derived.Test.YtpjiglnjllpjcaaKnown
import Derived.Deep.QuietTactic
import Derived.BigQuiet
namespace Go.Proofs.Ytpjiglnjllpjcaa.Bit
open Go.RowKit

/-- Some bytes as one number. -/
def num (D : Nat → Nat) : Nat → Nat
  | 0 => 0
  | k + 1 => num D k * 2 ^ 8 + D k
theorem num_div (D : Nat → Nat) (hD : ∀ i, D i < 256) (k : Nat) : ∀ r, num D (k + r) / 2 ^ (8 * r) = num D k
  | 0 => by simp
  | r + 1 => by
    have h := num_div D hD k r
    have hd := hD (k + r)
    show (num D (k + r) * 2 ^ 8 + D (k + r)) / _ = _
    rw [show 8 * (r + 1) = 8 + 8 * r from by omega, Nat.pow_add, ← Nat.div_div_eq_div_mul, Nat.mul_comm, Nat.mul_add_div (by decide), Nat.div_eq_of_lt (show D (k + r) < 2 ^ 8 from hd), Nat.add_zero]
    exact h
theorem byt_num (D : Nat → Nat) (hD : ∀ i, D i < 256) (T i : Nat) (hi : i < T) : byt (num D T) (8 * T) i = D i := by
  unfold byt
  have h := num_div D hD (i + 1) (T - (i + 1))
  rw [show i + 1 + (T - (i + 1)) = T from by omega, show 8 * (T - (i + 1)) = 8 * T - 8 * (i + 1) from by omega] at h
  rw [h]
  have hd := hD i
  show (num D i * 2 ^ 8 + D i) % 256 = D i
  omega

def Byts (W : World) (a : Option Addr) (len M : Nat) : Prop := ∀ j, j < len → ∃ b off, a = some ⟨b, off, none⟩ ∧ W.cell? ⟨b, off + j, none⟩ = some (.int .u8 (byt M (8 * len) j : Int)) ∧ b < W.heap.size
theorem Byts.below {W W' : World} {a : Option Addr} {len M : Nat} (h : Byts W a len M) (hb : Below W.heap.size W W') : Byts W' a len M := fun j hj => by
  obtain ⟨b, off, h1, h2, h3⟩ := h j hj
  exact ⟨b, off, h1, (hb.cell (p := ⟨b, off + j, none⟩) h3).trans h2, Nat.lt_of_lt_of_le h3 hb.size⟩

structure Asks (W : World) (a : Option Addr) (len cap b off : Nat) (K N : Nat → Int) : Prop where
  addr : 0 < len → a = some ⟨b, off, none⟩
  k : ∀ i, i < len → W.cell? ⟨b, off + i * 2, none⟩ = some (.int .i64 (K i))
  n : ∀ i, i < len → W.cell? ⟨b, off + i * 2 + 1, none⟩ = some (.int .i64 (N i))
  nb : ∀ i, i < len → -9223372036854775808 ≤ N i ∧ N i ≤ 9223372036854775807
  lt : 0 < len → b < W.heap.size
theorem Asks.below {W W' : World} {a : Option Addr} {len cap b off : Nat} {K N : Nat → Int} (h : Asks W a len cap b off K N) {B : Nat} (hb : Below B W W') (hB : 0 < len → b < B) : Asks W' a len cap b off K N :=
  ⟨h.addr, fun i hi => (hb.cell (p := ⟨b, _, none⟩) (hB (by omega))).trans (h.k i hi), fun i hi => (hb.cell (p := ⟨b, _, none⟩) (hB (by omega))).trans (h.n i hi), h.nb, fun hl => Nat.lt_of_lt_of_le (h.lt hl) hb.size⟩

def getS (M T p : Nat) (n : Int) : Nat × Int × Nat := if n < 0 ∨ 64 < n then (0, 1, p) else if 8 * T < p + n.toNat then (0, 10, p) else (seg M (8 * T) p n.toNat, 0, p + n.toNat)
theorem getS_le (M T p : Nat) (n : Int) (hp : p ≤ 8 * T) : (getS M T p n).2.2 ≤ 8 * T := by
  unfold getS; split
  · exact hp
  · split
    · exact hp
    · show p + n.toNat ≤ _; omega
def GetAny (w : World) (q g M T p : Nat) (n : Int) (e : Ending) (w' : World) : Prop :=
  e = .returned (.tuple #[.int .u64 ((getS M T p n).1 : Int), .int .i64 (getS M T p n).2.1]) ∧ Rd w' q g M T (getS M T p n).2.2 ∧ Fr (fun b => b = q) w w'
theorem get_any {w : World} {q g M T p : Nat} (h : Rd w q g M T p) (hp : p ≤ 8 * T) (hT : T ≤ 1048576) (n : Int) : Calls Try.prog 16 #[.pointer (some ⟨q, 0, none⟩), .int .i64 n] w (GetAny w q g M T p n) := by
  unfold GetAny
  by_cases h1 : n < 0 ∨ 64 < n
  · have e : getS M T p n = (0, 1, p) := if_pos h1
    rw [e]
    refine (get_arg _ n w h1).mono ?_
    rintro e w' ⟨rfl, rfl⟩
    exact ⟨rfl, h, Fr.refl _ _⟩
  · obtain ⟨m, rfl⟩ := Int.eq_ofNat_of_zero_le (show 0 ≤ n by omega)
    by_cases h2 : 8 * T < p + m
    · have e : getS M T p m = (0, 10, p) := by unfold getS; rw [if_neg h1, if_pos (by simpa using h2)]
      rw [e]
      refine (get_end h hp (by omega) m (by omega) h2).mono ?_
      rintro e w' ⟨rfl, nq, rfl⟩
      exact ⟨rfl, h.drewN nq, (Fr.refl _ _).drewN nq⟩
    · have e : getS M T p m = (seg M (8 * T) p m, 0, p + m) := by unfold getS; rw [if_neg h1, if_neg (by simpa using h2)]; rfl
      rw [e]
      exact get_ok h (by omega) m (by omega) (by omega)
def RfGetAny (w : World) (B q : Nat) (lo : Option Addr) (lcap M T p : Nat) (n : Int) (e : Ending) (w' : World) : Prop :=
  e = .returned (.tuple #[.int .u64 ((getS M T p n).1 : Int), .int .i64 (getS M T p n).2.1]) ∧ Rf w' B q lo lcap M T (getS M T p n).2.2 ∧ Fr (fun b => b = q) w w'
theorem rfget_any {w : World} {B q : Nat} {lo : Option Addr} {lcap M T p : Nat} (h : Rf w B q lo lcap M T p) (hp : p ≤ 8 * T) (hT : T ≤ 1048576) (n : Int) : Calls Try.prog 17 #[.pointer (some ⟨q, 0, none⟩), .int .i64 n] w (RfGetAny w B q lo lcap M T p n) := by
  unfold RfGetAny
  by_cases h1 : n < 0 ∨ 64 < n
  · have e : getS M T p n = (0, 1, p) := if_pos h1
    rw [e]
    refine (rfget_arg _ n w h1).mono ?_
    rintro e w' ⟨rfl, rfl⟩
    exact ⟨rfl, h, Fr.refl _ _⟩
  · obtain ⟨m, rfl⟩ := Int.eq_ofNat_of_zero_le (show 0 ≤ n by omega)
    by_cases h2 : 8 * T < p + m
    · have e : getS M T p m = (0, 10, p) := by unfold getS; rw [if_neg h1, if_pos (by simpa using h2)]
      rw [e]
      refine (rfget_end h hp (by omega) m (by omega) h2).mono ?_
      rintro e w' ⟨rfl, nq, rfl⟩
      exact ⟨rfl, h.drewN nq, (Fr.refl _ _).drewN nq⟩
    · have e : getS M T p m = (seg M (8 * T) p m, 0, p + m) := by unfold getS; rw [if_neg h1, if_neg (by simpa using h2)]; rfl
      rw [e]
      exact rfget_ok h (by omega) m (by omega) (by omega)

/-- Both readers at one place. -/
structure Both (w wr : World) (B q g qf : Nat) (lo : Option Addr) (lcap M T p p' : Nat) : Prop where
  rd : Rd wr q g M T p
  rf : Rf wr B qf lo lcap M T p'
  le : p ≤ 8 * T
  le' : p' ≤ 8 * T
  ne : q ≠ qf
  gf : g ≠ qf
  lq : blk lo ≠ some q
  qb : w.heap.size ≤ q
  fb : w.heap.size ≤ qf
  below : Below w.heap.size w wr
theorem Both.step1 {w wr w' : World} {B q g qf : Nat} {lo : Option Addr} {lcap M T p p' s : Nat} (h : Both w wr B q g qf lo lcap M T p p') (hr : Rd w' q g M T s) (hf : Fr (fun b => b = q) wr w') (hs : s ≤ 8 * T) : Both w w' B q g qf lo lcap M T s p' :=
  ⟨hr, h.rf.keep hf (fun e => h.ne e.symm) (fun g hg e => h.lq (by rw [hg, e])), hs, h.le', h.ne, h.gf, h.lq, h.qb, h.fb, h.below.trans ⟨hf.os, hf.tape, hf.output, hf.size, fun k hk => hf.block k (Nat.lt_of_lt_of_le hk h.below.size) (fun e => by have := h.qb; omega)⟩⟩
theorem Both.step2 {w wr w' : World} {B q g qf : Nat} {lo : Option Addr} {lcap M T p p' s : Nat} (h : Both w wr B q g qf lo lcap M T p p') (hr : Rf w' B qf lo lcap M T s) (hf : Fr (fun b => b = qf) wr w') (hs : s ≤ 8 * T) : Both w w' B q g qf lo lcap M T p s :=
  ⟨h.rd.keep hf h.ne h.gf, hr, h.le, hs, h.ne, h.gf, h.lq, h.qb, h.fb, h.below.trans ⟨hf.os, hf.tape, hf.output, hf.size, fun k hk => hf.block k (Nat.lt_of_lt_of_le hk h.below.size) (fun e => by have := h.fb; omega)⟩⟩
theorem Both.drewN {w wr : World} {B q g qf : Nat} {lo : Option Addr} {lcap M T p p' : Nat} (h : Both w wr B q g qf lo lcap M T p p') (n : Nat) : Both w (wr.drewN n) B q g qf lo lcap M T p p' := h.step1 (h.rd.drewN n) ((Fr.refl _ _).drewN n) h.le

theorem rat_q {w : World} {q g M T p : Nat} (h : Rd w q g M T p) : Calls Try.prog 22 #[.pointer (some ⟨q, 0, none⟩)] w fun e w' => e = .returned (.int .i64 (p : Int)) ∧ w' = w :=
  (rat_any h).mono fun _ _ ⟨h1, h2⟩ => ⟨h1, h2.symm⟩

set_option maxHeartbeats 3200000 in
set_option maxRecDepth 100000 in
theorem reads_walk (w : World) (a a' : Option Addr) (T ca len cap b off M : Nat) (K N : Nat → Int) (hb : Byts w a T M) (h : Asks w a' len cap b off K N) :
    Calls Try.prog 4 #[.slice a T ca, .slice a' len cap] w fun e w' => e = .returned (.bool true) ∧ Below w.heap.size w w' := by
  by_cases h200 : 200 < T ∨ 100 < len
  · by_cases h1 : 200 < T
    · have h2 : (200 : Int) < (T : Int) := by omega
      clear h200
      go_enter Try.func4, Try.ntmps4
      go_wp2_with fail
      refine (known_true _).mono ?_
      rintro e w' ⟨rfl, hb⟩
      go_wp2_with fail
      go_ret
      exact ⟨rfl, hb⟩
    · have h2 : ¬ (200 : Int) < (T : Int) := by omega
      have h3 : (100 : Int) < (len : Int) := by omega
      clear h200
      go_enter Try.func4, Try.ntmps4
      go_wp2_with fail
      refine (known_true _).mono ?_
      rintro e w' ⟨rfl, hb⟩
      go_wp2_with fail
      go_ret
      exact ⟨rfl, hb⟩
  · have h2 : ¬ (200 : Int) < (T : Int) := by omega
    have h3 : ¬ (100 : Int) < (len : Int) := by omega
    have hT : T ≤ 200 := by omega
    have H := hid h; have HB := hid hb
    clear h hb h200
    go_enter Try.func4, Try.ntmps4
    go_wp2_with fail
    refine (read_any w a T ca M (by omega) (fun j hj => by obtain ⟨b, off, e1, e2, _⟩ := HB.out j hj; exact ⟨_, e1, by rw [Addr.add_lit]; exact e2⟩) (fun x hx h0 => by obtain ⟨b, off, e1, _, e3⟩ := HB.out 0 h0; rw [e1] at hx; cases hx; exact e3)).mono ?_
    rintro e w1 ⟨q, rfl, hq, hb1, hr1⟩
    have hB1 := HB.out.below hb1
    go_wp2_with fail
    refine (rfread_any w1 a T ca M (by omega) hB1).mono ?_
    rintro e w2 ⟨qf, lo, lcap, rfl, hrf, hqf, hb2⟩
    have hrl : q < w1.heap.size := World.block_lt_of_cell? w1 _ hr1.c0
    have hlo : ∀ g, blk lo = some g → w1.heap.size ≤ g := fun g hg => (hrf.own.lt g (by rw [ownBlock_slice]; exact hg)).1
    have hs1 := hb1.size
    have hbo : Both w w2 w1.heap.size q w.heap.size qf lo lcap M T 0 0 :=
      ⟨hr1.keep (Fr.of_below hb2) (by omega) (by have := hr1.row.lt; omega), hrf, by omega, by omega, by omega, by have := hr1.row.lt; omega, fun e => by have := hlo q e; omega, by omega, by omega, hb1.trans (hb2.mono hs1)⟩
    clear hB1 hb1 hr1 hrf hb2 hq hqf hrl hlo hs1
    generalize w1.heap.size = B1 at hbo
    go_wp2_with fail
    go_loopg [7] len (fun g i wr => ∃ j p : Nat, j ≤ len ∧ g = len - j ∧ i = .int .i64 j ∧ Both w wr B1 q w.heap.size qf lo lcap M T p p)
    case atStart => exact ⟨0, 0, Nat.zero_le _, rfl, rfl, hbo⟩
    case round =>
      obtain ⟨j, p, hj, hg, rfl, hs⟩ := hrel
      have HG := hid hg
      clear hg hbo
      by_cases hlt : j < len
      · obtain rfl := H.out.addr (by omega)
        have hA := H.out.below hs.below (fun _ => H.out.lt (by omega))
        have ck := hA.k j hlt
        have cn := hA.n j hlt
        have hnb := hA.nb j hlt
        have hlt2 : (j : Int) < (len : Int) := by omega
        have hT2 : T ≤ 1048576 := by omega
        have HA : ∀ w', Below w.heap.size w w' → w'.cell? ⟨b, off + j * 2 + 1, none⟩ = some (.int .i64 (N j)) := fun w' hb' => (H.out.below hb' (fun _ => H.out.lt (by omega))).n j hlt
        have HCN := hid HA
        clear hA HA
        generalize hK : K j = kk at *
        generalize hN : N j = nn at *
        clear hK hN
        -- the end of every round
        by_cases h0 : kk = 0
        · subst h0
          go_wp2_with fail
          refine (get_any hs.rd hs.le hT2 nn).mono ?_
          rintro e w3 ⟨rfl, hr3, hf3⟩
          have hs3 := hs.step1 hr3 hf3 (getS_le M T p nn hs.le)
          have cn3 := HCN.out w3 hs3.below
          clear hs hr3 hf3 ck cn
          go_wp2_with fail
          refine (rfget_any hs3.rf hs3.le' hT2 nn).mono ?_
          rintro e w4 ⟨rfl, hr4, hf4⟩
          have hs4 := hs3.step2 hr4 hf4 (getS_le M T p nn hs3.le')
          clear hs3 hr4 hf4 cn3
          generalize getS M T p nn = r at *
          have e1 : ((r.1 : Int) != (r.1 : Int)) = false := by simp
          have e2 : (r.2.1 != r.2.1) = false := by simp
          go_wp2_with fail
          have e3 : (((r.2.2 : Nat) : Int) != ((r.2.2 : Nat) : Int)) = false := by simp
          have e4 : (((8 * T - r.2.2 : Nat) : Int) != ((8 * T - r.2.2 : Nat) : Int)) = false := by simp
          have cc := hs4.rf.c1
          go_quiet (first | (go_at_call 22; exact Calls.quiet_of_same (rat_q (hs4.rd.drewN _))) | (go_at_call 23; exact Calls.quiet_of (rleft_any (hs4.rd.drewN _) hs4.le (by omega))) | (go_at_call 24; exact Calls.quiet_of (rfleft_any (hs4.rf.drewN _) hs4.le' hT2)))
          have hsz := hs4.drewN nq
          clear cc hs4
          go_wp2_with fail
          go_roundg (len - (j + 1))
          case measure => rw [HG.out]; omega
          case rel => exact ⟨j + 1, _, by omega, rfl, by go_num, hsz⟩
        · by_cases h1 : kk = 1
          · subst h1
            go_wp2_with fail
            refine (ones_any hs.rd hs.le (by omega) nn hnb.2).mono ?_
            rintro e w3 ⟨r, hr, rfl, hr3, hf3⟩
            have hs3 := hs.step1 hr3 hf3 (hr.le hs.le)
            have cn3 := HCN.out w3 hs3.below
            have HR := hid hr
            clear hs hr3 hf3 ck cn hr
            go_wp2_with fail
            refine (rfones_any hs3.rf hs3.le' hT2 nn hnb.2).mono ?_
            rintro e w4 ⟨r2, hr2, rfl, hr4, hf4⟩
            obtain rfl := HR.out.one hr2
            have hs4 := hs3.step2 hr4 hf4 (hr2.le hs3.le')
            clear hs3 hr4 hf4 cn3 hr2 HR
            have e1 : (r.1 != r.1) = false := by simp
            have e2 : (r.2.1 != r.2.1) = false := by simp
            go_wp2_with fail
            have e3 : (((r.2.2 : Nat) : Int) != ((r.2.2 : Nat) : Int)) = false := by simp
            have e4 : (((8 * T - r.2.2 : Nat) : Int) != ((8 * T - r.2.2 : Nat) : Int)) = false := by simp
            have cc := hs4.rf.c1
            go_quiet (first | (go_at_call 22; exact Calls.quiet_of_same (rat_q (hs4.rd.drewN _))) | (go_at_call 23; exact Calls.quiet_of (rleft_any (hs4.rd.drewN _) hs4.le (by omega))) | (go_at_call 24; exact Calls.quiet_of (rfleft_any (hs4.rf.drewN _) hs4.le' hT2)))
            have hsz := hs4.drewN nq
            clear cc hs4
            go_wp2_with fail
            go_roundg (len - (j + 1))
            case measure => rw [HG.out]; omega
            case rel => exact ⟨j + 1, _, by omega, rfl, by go_num, hsz⟩
          · by_cases h2 : kk = 2
            · subst h2
              go_wp2_with fail
              refine (ralign_any hs.rd hs.le (by omega)).mono ?_
              rintro e w3 ⟨rfl, hr3, hf3⟩
              have hs3 := hs.step1 hr3 hf3 (alignS_le M T p hs.le).2
              clear hs hr3 hf3 ck cn
              go_wp2_with fail
              refine (rfalign_any hs3.rf hs3.le' hT2).mono ?_
              rintro e w4 ⟨rfl, hr4, hf4⟩
              have hs4 := hs3.step2 hr4 hf4 (alignS_le M T p hs3.le').2
              clear hs3 hr4 hf4
              generalize alignS M T p = r at *
              have e1 : (r.2 != r.2) = false := by simp
              go_wp2_with fail
              have e3 : (((r.1 : Nat) : Int) != ((r.1 : Nat) : Int)) = false := by simp
              have e4 : (((8 * T - r.1 : Nat) : Int) != ((8 * T - r.1 : Nat) : Int)) = false := by simp
              have cc := hs4.rf.c1
              go_quiet (first | (go_at_call 22; exact Calls.quiet_of_same (rat_q (hs4.rd.drewN _))) | (go_at_call 23; exact Calls.quiet_of (rleft_any (hs4.rd.drewN _) hs4.le (by omega))) | (go_at_call 24; exact Calls.quiet_of (rfleft_any (hs4.rf.drewN _) hs4.le' hT2)))
              have hsz := hs4.drewN nq
              clear cc hs4
              go_wp2_with fail
              go_roundg (len - (j + 1))
              case measure => rw [HG.out]; omega
              case rel => exact ⟨j + 1, _, by omega, rfl, by go_num, hsz⟩
            · have d0 : (kk == 0) = false := beq_eq_false_iff_ne.2 h0
              have d1 : (kk == 1) = false := beq_eq_false_iff_ne.2 h1
              have d2 : (kk == 2) = false := beq_eq_false_iff_ne.2 h2
              clear cn
              go_wp2_with fail
              have e3 : (((p : Nat) : Int) != ((p : Nat) : Int)) = false := by simp
              have e4 : (((8 * T - p : Nat) : Int) != ((8 * T - p : Nat) : Int)) = false := by simp
              have cc := hs.rf.c1
              go_quiet (first | (go_at_call 22; exact Calls.quiet_of_same (rat_q (hs.rd.drewN _))) | (go_at_call 23; exact Calls.quiet_of (rleft_any (hs.rd.drewN _) hs.le (by omega))) | (go_at_call 24; exact Calls.quiet_of (rfleft_any (hs.rf.drewN _) hs.le' hT2)))
              have hsz := hs.drewN nq
              clear cc hs
              go_wp2_with fail
              go_roundg (len - (j + 1))
              case measure => rw [HG.out]; omega
              case rel => exact ⟨j + 1, _, by omega, rfl, by go_num, hsz⟩
      · have hge : ¬ (j : Int) < (len : Int) := by omega
        go_wp2_with fail
        refine (known_true _).mono ?_
        rintro e w9 ⟨rfl, hb9⟩
        have hfin := hs.below.trans (hb9.mono hs.below.size)
        clear hs hb9
        go_wp2_with fail
        go_ret
        exact ⟨rfl, hfin⟩
end Go.Proofs.Ytpjiglnjllpjcaa.Bit
