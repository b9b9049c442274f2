/- The document's own bits: a number's bits as a list of ints, the bits of bytes, and a reader that goes over such a list; what its calls answer, and that nothing else has turned. Conditions: fewer than 2^20 bytes. -/
import Derived.Test.YtjimamjhakainaaM16
import Derived.Deep.AppendLies
import Derived.Deep.DeepMust
import Derived.Test.YtjimamjhakainaaM04
namespace Go.Proofs.Ytjimamjhakainaa.Bit
open Go.RowKit

theorem Try.info3 : (Try.prog.info? 3).map (fun i => (i.zero, i.size, i.bytes)) = some (some (.int .i64 0), 1, 8) := by kernel_rfl

/-- Bit i of the n bits of v, the highest first. -/
def bitOf (v n i : Nat) : Nat := v / 2 ^ (n - 1 - i) % 2

set_option maxHeartbeats 800000 in
theorem bits_any (v n : Nat) (w : World) (hn : n ≤ 64) (hv : v < 18446744073709551616) : Calls Try.prog 40 #[.int .u64 v, .int .i64 n] w fun e w' => e = .returned (.slice (some ⟨w.heap.size, 0, none⟩) n n) ∧ Below w.heap.size w w' ∧
    w'.rowIs w.heap.size 3 n (fun i => .int .i64 (bitOf v n i : Int)) := by
  have hmk : ∀ w, (Instr.makeSlice 22 (.int .i64 (n : Int)) (.int .i64 (n : Int))).run Try.prog w = .ok (.slice (some ⟨w.heap.size, 0, none⟩) n n) (w.alloc (.cells (madeCells #[.int .i64 0] n) 3)) := fun w =>
    run_make_row' (P := Try.prog) 22 3 (.int .i64 0) 8 Try.underlying22 Try.info3 rfl .i64 .i64 n (by omega) (by omega) w
  have hst : (w.alloc (.cells (madeCells #[.int .i64 0] n) 3)).rowIs w.heap.size 3 n (fun i => if n - 0 ≤ i then .int .i64 (bitOf v n i : Int) else .int .i64 0) :=
    (World.rowIs_made w (.int .i64 0) n 3).congr fun i hi => by rw [if_neg (by omega)]
  have hb0 : Below w.heap.size w (w.alloc (.cells (madeCells #[.int .i64 0] n) 3)) := (Below.refl _ _).alloc (Nat.le_refl _) _
  go_enter Try.func40, Try.ntmps40
  go_wp2_with fail
  clear hmk
  go_loopg [0, 6] n (fun g x i wr => ∃ j : Nat, j ≤ n ∧ g = n - j ∧ x = .int .u64 ((v / 2 ^ j : Nat) : Int) ∧ i = .int .i64 ((n : Int) - 1 - j) ∧ Below w.heap.size w wr ∧ wr.rowIs w.heap.size 3 n (fun i => if n - j ≤ i then .int .i64 (bitOf v n i : Int) else .int .i64 0))
  case atStart => exact ⟨0, Nat.zero_le _, rfl, by simp, by simp, hb0, hst⟩
  case round =>
    obtain ⟨j, hj, hg, rfl, rfl, hb, hrow⟩ := hrel
    have HG := hid hg
    clear hg hst hb0
    by_cases hlt : j < n
    · have h1 : (0 : Int) ≤ (n : Int) - 1 - j := by omega
      have h2 : (n : Int) - 1 - j < n := by omega
      obtain ⟨i, hi⟩ : ∃ i, n - 1 - j = i := ⟨_, rfl⟩
      have hi2 : (n : Int) - 1 - j = (i : Int) := by omega
      have hi3 : n - 1 - i = j := by omega
      have hin : i < n := by omega
      rw [hi2]
      have hc := hrow.cell hin
      have hf := hrow.frozen i
      have hvj : v / 2 ^ j < 18446744073709551616 := Nat.lt_of_le_of_lt (Nat.div_le_self _ _) hv
      have hnx : (v / 2 ^ j) / 2 = v / 2 ^ (j + 1) := by rw [Nat.div_div_eq_div_mul, ← Nat.pow_succ]
      have HV := hid (show bitOf v n i = v / 2 ^ j % 2 by unfold bitOf; rw [hi3])
      generalize v / 2 ^ j = x at *
      have HNX := hid hnx; have HI := hid hi; have HI2 := hid hi2
      clear hi hi2 hi3 hnx h1 h2
      have h3 : (0 : Int) ≤ (i : Int) := by omega
      have h4 : (i : Int) < (n : Int) := by omega
      have hx : (x : Int) < 18446744073709551616 := by omega
      go_wp2_with fail
      have hset := hrow.set i (.int .i64 ((x : Int) % 2))
      have hset2 : (wr.setCell ⟨w.heap.size, i, none⟩ (.int .i64 ((x : Int) % 2))).rowIs w.heap.size 3 n (fun i => if n - (j + 1) ≤ i then .int .i64 (bitOf v n i : Int) else .int .i64 0) := by
        refine hset.congr fun k hk => ?_
        have := HI.out
        by_cases e : k = i
        · subst e; rw [if_pos rfl, if_pos (by omega), HV.out]; rfl
        · rw [if_neg e]
          by_cases e2 : n - j ≤ k
          · rw [if_pos e2, if_pos (by omega)]
          · rw [if_neg e2, if_neg (by omega)]
      have hb2 := hb.setCell (p := ⟨w.heap.size, i, none⟩) (Nat.le_refl _) (.int .i64 ((x : Int) % 2))
      have ei : (i : Int) - 1 = (n : Int) - 1 - ((j + 1 : Nat) : Int) := by have := HI2.out; omega
      have ex : (x : Int) / 2 = ((v / 2 ^ (j + 1) : Nat) : Int) := by rw [← HNX.out]; omega
      go_roundg (n - (j + 1))
      case measure => rw [HG.out]; omega
      case rel => exact ⟨j + 1, by omega, rfl, by rw [ex], by rw [ei], hb2, hset2⟩
    · have h1 : ¬ (0 : Int) ≤ (n : Int) - 1 - j := by omega
      obtain rfl : j = n := by omega
      go_wp2_with fail
      go_ret
      exact ⟨rfl, hb, hrow.congr fun i hi => by rw [if_pos (by omega)]⟩

/-- The bits of M's T bytes, as ints. -/
def bl (M T k : Nat) : List Value := (List.range k).map fun i => .int .i64 (seg M (8 * T) i 1 : Int)
theorem bl_at (M T k i : Nat) (h : i < k) : (bl M T k)[i]? = some (.int .i64 (seg M (8 * T) i 1 : Int)) := by simp [bl, h]
theorem bit_byte (M T k i : Nat) (hk : k < T) (hi : i < 8) : bitOf (byt M (8 * T) k) 8 i = seg M (8 * T) (8 * k + i) 1 := by
  unfold bitOf byt seg
  have e1 : 8 * T - (8 * k + i) - 1 = (8 * T - 8 * (k + 1)) + (8 - 1 - i) := by omega
  rw [e1, Nat.pow_add, ← Nat.div_div_eq_div_mul, show (2 : Nat) ^ 1 = 2 from rfl]
  have e2 : (256 : Nat) = 2 ^ (8 - 1 - i) * 2 ^ (i + 1) := by rw [← Nat.pow_add, show 8 - 1 - i + (i + 1) = 8 from by omega]
  rw [e2, Nat.mod_mul_right_div_self]
  exact Nat.mod_mod_of_dvd _ (by rw [Nat.pow_succ]; exact Nat.dvd_mul_left _ _)
theorem bl_next (M T k : Nat) (hk : k < T) : bl M T (8 * (k + 1)) = bl M T (8 * k) ++ (List.range 8).map fun i => .int .i64 (bitOf (byt M (8 * T) k) 8 i : Int) := by
  apply List.ext_getElem?
  intro j
  by_cases h1 : j < 8 * k
  · rw [List.getElem?_append_left (by simpa [bl] using h1), bl_at _ _ _ _ h1, bl_at _ _ _ _ (by omega)]
  · rw [List.getElem?_append_right (by simp [bl]; omega)]
    have e : (bl M T (8 * k)).length = 8 * k := by simp [bl]
    rw [e]
    by_cases h2 : j < 8 * (k + 1)
    · rw [bl_at _ _ _ _ h2]
      have h3 : j - 8 * k < 8 := by omega
      simp only [List.getElem?_map, List.getElem?_range h3, Option.map_some]
      rw [bit_byte M T k (j - 8 * k) hk h3, show 8 * k + (j - 8 * k) = j from by omega]
    · rw [List.getElem?_eq_none (by simp [bl]; omega), List.getElem?_eq_none (by simp; omega)]

/-- What the bits of some bytes are: a list of the call's own. -/
def OfPost (w : World) (M T : Nat) (e : Ending) (w' : World) : Prop := ∃ (lo : Option Addr) (lcap : Nat), e = .returned (.slice lo (8 * T) lcap) ∧ w'.ownsRow w.heap.size 3 1 (.slice lo (8 * T) lcap) (8 * T) (bl M T (8 * T)) ∧ Below w.heap.size w w'

end Go.Proofs.Ytjimamjhakainaa.Bit
/- The document's own reader of a list of bits, and its calls Read, Left, Get, Align: what they answer, where it stands behind them, and that nothing else has turned. Conditions: fewer than 2^20 bytes. -/
namespace Go.Proofs.Ytjimamjhakainaa.Bit
open Go.RowKit

structure Rf (w : World) (B q : Nat) (lo : Option Addr) (lcap M T p : Nat) : Prop where
  c0 : w.cell? ⟨q, 0, none⟩ = some (.slice lo (8 * T) lcap)
  c1 : w.cell? ⟨q, 1, none⟩ = some (.int .i64 (p : Int))
  f1 : w.frozen? ⟨q, 1, none⟩ = false
  own : w.ownsRow B 3 1 (.slice lo (8 * T) lcap) (8 * T) (bl M T (8 * T))
  far : blk lo ≠ some q

theorem Rf.keep {w w' : World} {B q : Nat} {lo : Option Addr} {lcap M T p : Nat} (h : Rf w B q lo lcap M T p) {X : Nat → Prop} (hf : Fr X w w') (hq : ¬ X q) (hg : ∀ g, blk lo = some g → ¬ X g) : Rf w' B q lo lcap M T p := by
  have lq : q < w.heap.size := World.block_lt_of_cell? w _ h.c0
  exact ⟨(hf.cell (p := ⟨q, 0, none⟩) lq hq).trans h.c0, (hf.cell (p := ⟨q, 1, none⟩) lq hq).trans h.c1, (hf.frozen (p := ⟨q, 1, none⟩) lq hq).trans h.f1,
    ownsRow_block h.own fun g hg' => hf.block g (h.own.lt g (by rw [ownBlock_slice]; exact hg')).2 (hg g hg'), h.far⟩
theorem Rf.move {w : World} {B q : Nat} {lo : Option Addr} {lcap M T p : Nat} (h : Rf w B q lo lcap M T p) (p' : Nat) : Rf (w.setCell ⟨q, 1, none⟩ (.int .i64 (p' : Int))) B q lo lcap M T p' :=
  ⟨by rw [World.cell?_setCell_other _ _ _ _ (by intro e; simp at e)]; exact h.c0, World.cell?_setCell_same _ _ _ (by rw [h.c1]), by rw [frozen_setCell]; exact h.f1,
    ownsRow_block h.own fun g hg => RowKit.Below.heap_setCell _ _ _ _ (fun e => h.far (by rw [hg, e])), h.far⟩
theorem Rf.drewN {w : World} {B q : Nat} {lo : Option Addr} {lcap M T p : Nat} (h : Rf w B q lo lcap M T p) (n : Nat) : Rf (w.drewN n) B q lo lcap M T p := h.keep (X := fun _ => False) ((Fr.refl _ _).drewN n) (fun x => x) (fun _ _ x => x)
theorem Rf.bit {w : World} {B q : Nat} {lo : Option Addr} {lcap M T p : Nat} (h : Rf w B q lo lcap M T p) (i : Nat) (hi : i < 8 * T) : ∃ g, lo = some ⟨g, 0, none⟩ ∧ w.cell? ⟨g, i, none⟩ = some (.int .i64 (seg M (8 * T) i 1 : Int)) ∧ g ≠ q := by
  rcases ownsRow_at h.own with ⟨_, h1, _, _⟩ | ⟨g, rfl⟩
  · omega
  · exact ⟨g, rfl, ownsRow_cell h.own i _ (bl_at M T _ i hi), fun e => h.far (by rw [← e]; rfl)⟩
theorem seg1 (M T i : Nat) : seg M T i 1 = 0 ∨ seg M T i 1 = 1 := by have := seg_lt M T i 1; omega

def RfGot (w : World) (B q : Nat) (lo : Option Addr) (lcap M T p n : Nat) (e : Ending) (w' : World) : Prop :=
  e = .returned (.tuple #[.int .u64 (seg M (8 * T) p n : Int), .int .i64 0]) ∧ Rf w' B q lo lcap M T (p + n) ∧ Fr (fun b => b = q) w w'

theorem seg_succ (M T p i : Nat) (h : p + (i + 1) ≤ T) : 2 * seg M T p i + seg M T (p + i) 1 = seg M T p (i + 1) := by have := seg_app M T p i 1 h; omega

def RfAligned (w : World) (B q : Nat) (lo : Option Addr) (lcap M T p : Nat) (e : Ending) (w' : World) : Prop :=
  e = .returned (.int .i64 (alignS M T p).2) ∧ Rf w' B q lo lcap M T (alignS M T p).1 ∧ Fr (fun b => b = q) w w'

theorem align_bad (M T p j : Nat) (hp : p % 8 ≠ 0) (hj : j < 8 - p % 8) (hT : p < 8 * T) (h0 : seg M (8 * T) p j = 0) (h1 : seg M (8 * T) (p + j) 1 = 1) : alignS M T p = (p, 11) := by
  have e1 := seg_succ M (8 * T) p j (by omega)
  have e2 := seg_app M (8 * T) p (j + 1) (8 - p % 8 - (j + 1)) (by omega)
  rw [show j + 1 + (8 - p % 8 - (j + 1)) = 8 - p % 8 from by omega] at e2
  have e3 : seg M (8 * T) p (j + 1) = 1 := by omega
  rw [e3] at e2
  have := Nat.two_pow_pos (8 - p % 8 - (j + 1))
  unfold alignS
  rw [if_neg hp, if_neg (by omega)]

end Go.Proofs.Ytjimamjhakainaa.Bit
/- A reader's Ones, and that of the document's own reader: both count the bits 1, up to most or up to a bit 0, and answer the same, wherever they stand. Conditions: fewer than 2^20 bytes. -/
namespace Go.Proofs.Ytjimamjhakainaa.Bit
open Go.RowKit

/-- What Ones answers, and where it leads. -/
def OnesR (M T p : Nat) (most : Int) (r : Int × Int × Nat) : Prop :=
  (∃ m : Nat, most = m ∧ p + m ≤ 8 * T ∧ (∀ i, i < m → seg M (8 * T) (p + i) 1 = 1) ∧ r = (most, 0, p + m)) ∨
  (∃ k : Nat, (k : Int) < most ∧ p + k < 8 * T ∧ (∀ i, i < k → seg M (8 * T) (p + i) 1 = 1) ∧ seg M (8 * T) (p + k) 1 = 0 ∧ r = ((k : Int), 0, p + k + 1)) ∨
  (∃ k : Nat, (k : Int) < most ∧ p + k = 8 * T ∧ (∀ i, i < k → seg M (8 * T) (p + i) 1 = 1) ∧ r = (0, 10, p)) ∨ (most < 0 ∧ r = (0, 1, p))

theorem OnesR.one {M T p : Nat} {most : Int} {r s : Int × Int × Nat} (h : OnesR M T p most r) (g : OnesR M T p most s) : r = s := by
  rcases h with ⟨m, h1, h2, h3, rfl⟩ | ⟨k, h1, h2, h3, h4, rfl⟩ | ⟨k, h1, h2, h3, rfl⟩ | ⟨h1, rfl⟩
  · rcases g with ⟨m', g1, g2, g3, rfl⟩ | ⟨k', g1, g2, g3, g4, rfl⟩ | ⟨k', g1, g2, g3, rfl⟩ | ⟨g1, rfl⟩
    · obtain rfl : m = m' := by omega
      rfl
    · have := h3 k' (by omega); omega
    · omega
    · omega
  · rcases g with ⟨m', g1, g2, g3, rfl⟩ | ⟨k', g1, g2, g3, g4, rfl⟩ | ⟨k', g1, g2, g3, rfl⟩ | ⟨g1, rfl⟩
    · have := g3 k (by omega); omega
    · rcases Nat.lt_trichotomy k k' with e | e | e
      · have := g3 k e; omega
      · subst e; rfl
      · have := h3 k' e; omega
    · have := g3 k (by omega); omega
    · omega
  · rcases g with ⟨m', g1, g2, g3, rfl⟩ | ⟨k', g1, g2, g3, g4, rfl⟩ | ⟨k', g1, g2, g3, rfl⟩ | ⟨g1, rfl⟩
    · omega
    · have := h3 k' (by omega); omega
    · rfl
    · omega
  · rcases g with ⟨m', g1, g2, g3, rfl⟩ | ⟨k', g1, g2, g3, g4, rfl⟩ | ⟨k', g1, g2, g3, rfl⟩ | ⟨g1, rfl⟩
    · omega
    · omega
    · omega
    · rfl
theorem OnesR.le {M T p : Nat} {most : Int} {r : Int × Int × Nat} (h : OnesR M T p most r) (hp : p ≤ 8 * T) : r.2.2 ≤ 8 * T := by
  rcases h with ⟨m, h1, h2, h3, rfl⟩ | ⟨k, h1, h2, h3, h4, rfl⟩ | ⟨k, h1, h2, h3, rfl⟩ | ⟨h1, rfl⟩
  · exact h2
  · exact h2
  · exact hp
  · exact hp

theorem and_u8_one : ∀ x : Fin 256, bits .and .u8 (x.val : Int) 1 = ((x.val % 2 : Nat) : Int) := by decide +kernel
theorem bit_u8 (M T p : Nat) (hp : p < 8 * T) : bits .and .u8 ((byt M (8 * T) (p / 8) : Int) / 2 ^ (7 - p % 8)) 1 = (seg M (8 * T) p 1 : Nat) := by
  have hb := byt_lt M (8 * T) (p / 8)
  rw [shr_nat]
  have h2 : byt M (8 * T) (p / 8) / 2 ^ (7 - p % 8) < 256 := Nat.lt_of_le_of_lt (Nat.div_le_self _ _) hb
  rw [and_u8_one ⟨_, h2⟩]
  have h3 := bit_byte M T (p / 8) (p % 8) (by omega) (Nat.mod_lt _ (by decide))
  unfold bitOf at h3
  rw [show 8 - 1 - p % 8 = 7 - p % 8 from by omega, show 8 * (p / 8) + p % 8 = p from by omega] at h3
  show ((byt M (8 * T) (p / 8) / 2 ^ (7 - p % 8) % 2 : Nat) : Int) = _
  rw [h3]

def OnesPost (w : World) (q g M T p : Nat) (most : Int) (e : Ending) (w' : World) : Prop :=
  ∃ r : Int × Int × Nat, OnesR M T p most r ∧ e = .returned (.tuple #[.int .i64 r.1, .int .i64 r.2.1]) ∧ Rd w' q g M T r.2.2 ∧ Fr (fun b => b = q) w w'

set_option maxHeartbeats 1600000 in
theorem ones_any {w : World} {q g M T p : Nat} (h : Rd w q g M T p) (hp : p ≤ 8 * T) (hT : T ≤ 1099511627776) (most : Int) (hm : most ≤ 9223372036854775807) :
    Calls Try.prog 127 #[.pointer (some ⟨q, 0, none⟩), .int .i64 most] w (OnesPost w q g M T p most) := by
  by_cases hneg : most < 0
  · go_enter Try.func127, Try.ntmps127
    go_wp2_with fail
    go_ret2
    exact ⟨(0, 1, p), .inr (.inr (.inr ⟨hneg, rfl⟩)), rfl, h, Fr.refl _ _⟩
  · have c0 := h.c0; have c1 := h.c1; have f1 := h.f1
    go_enter Try.func127, Try.ntmps127
    go_wp2_with fail
    go_quiet (fail)
    have hr := h.drewN nq
    have hf : Fr (fun b => b = q) w (w.drewN nq) := (Fr.refl _ _).drewN nq
    have c0' := hr.c0; have c1' := hr.c1; have f1' := hr.f1
    clear c0 c1 f1 h
    generalize w.drewN nq = W at *
    go_wp2_with fail
    go_loopg [6, 8] (8 * T - p) (fun g' at_ n wr => ∃ j : Nat, p + j ≤ 8 * T ∧ g' = 8 * T - (p + j) ∧ at_ = .int .i64 ((p : Int) + j) ∧ n = .int .i64 j ∧ (j : Int) ≤ most ∧ W = wr ∧ ∀ i, i < j → seg M (8 * T) (p + i) 1 = 1)
    case atStart => exact ⟨0, by omega, by omega, by simp, rfl, by omega, rfl, fun i hi => absurd hi (Nat.not_lt_zero _)⟩
    case round =>
      obtain ⟨j, hj, hg, rfl, rfl, hjm, rfl, hall⟩ := hrel
      have HG := hid hg; have HALL := hid hall; have HR := hid hr; have HF := hid hf
      clear hg hall hr hf
      by_cases hlt : (j : Int) < most
      · by_cases hend : p + j = 8 * T
        · have h1 : ((p : Int) + j == 8 * (T : Int)) = true := beq_iff_eq.2 (by omega)
          have HE := hid hend
          clear hend
          go_wp2_with fail
          go_ret2
          exact ⟨(0, 10, p), .inr (.inr (.inl ⟨j, hlt, HE.out, HALL.out, rfl⟩)), rfl, HR.out, HF.out⟩
        · have h1 : ((p : Int) + j == 8 * (T : Int)) = false := beq_eq_false_iff_ne.2 (by omega)
          have hc := HR.out.row.cell (i := (p + j) / 8) (by omega)
          have hi1 : (0 : Int) ≤ ((p : Int) + j) / 8 := by omega
          have hi2 : ((p : Int) + j) / 8 < (T : Int) := by omega
          have hs1 : (0 : Int) ≤ 7 - ((p : Int) + j) % 8 := by omega
          have hs2 : 7 - ((p : Int) + j) % 8 ≤ 8 := by omega
          have hbit := bit_u8 M T (p + j) (by omega)
          have hby := byt_lt M (8 * T) ((p + j) / 8)
          have hs01 := seg1 M (8 * T) (p + j)
          generalize hB : byt M (8 * T) ((p + j) / 8) = bb at *
          have HBIT := hid hbit; have H01 := hid hs01
          clear hB hbit hs01
          have hjlt : p + j < 8 * T := by omega
          have hmv := HR.out.move (p + j + 1)
          have hfm := HF.out.setCell (p := ⟨q, 1, none⟩) rfl (.int .i64 ((p + j + 1 : Nat) : Int))
          rw [show ((p + j + 1 : Nat) : Int) = (p : Int) + j + 1 from by omega] at hmv hfm
          rcases H01.out with hb | hb
          · have h2 : (bits BinOp.and IntKind.u8 ((bb : Int) / 2 ^ (7 - (p + j) % 8)) 1 == 0) = true := by rw [HBIT.out, hb]; rfl
            have HB := hid hb
            clear hb
            go_wp2_with fail
            go_ret2
            exact ⟨((j : Int), 0, p + j + 1), .inr (.inl ⟨j, hlt, hjlt, HALL.out, HB.out, rfl⟩), rfl, hmv, hfm⟩
          · have h2 : (bits BinOp.and IntKind.u8 ((bb : Int) / 2 ^ (7 - (p + j) % 8)) 1 == 0) = false := by rw [HBIT.out, hb]; rfl
            have HB := hid hb
            clear hb hmv hfm
            go_wp2_with fail
            go_roundg (8 * T - (p + (j + 1)))
            case measure => rw [HG.out]; omega
            case rel => exact ⟨j + 1, by omega, rfl, by go_num, by go_num, by omega, rfl, fun i hi => by
              by_cases e : i = j
              · subst e; exact HB.out
              · exact HALL.out i (by omega)⟩
      · obtain rfl : most = (j : Int) := by omega
        have hmv := HR.out.move (p + j)
        have hfm := HF.out.setCell (p := ⟨q, 1, none⟩) rfl (.int .i64 ((p + j : Nat) : Int))
        rw [show ((p + j : Nat) : Int) = (p : Int) + j from by omega] at hmv hfm
        have h1 : ¬ (j : Int) < (j : Int) := by omega
        go_wp2_with fail
        go_ret2
        exact ⟨((j : Int), 0, p + j), .inl ⟨j, rfl, hj, HALL.out, rfl⟩, rfl, hmv, hfm⟩

def RfOnesPost (w : World) (B q : Nat) (lo : Option Addr) (lcap M T p : Nat) (most : Int) (e : Ending) (w' : World) : Prop :=
  ∃ r : Int × Int × Nat, OnesR M T p most r ∧ e = .returned (.tuple #[.int .i64 r.1, .int .i64 r.2.1]) ∧ Rf w' B q lo lcap M T r.2.2 ∧ Fr (fun b => b = q) w w'

end Go.Proofs.Ytjimamjhakainaa.Bit
/- Get of rice, and the document's: both answer the same, and stand at the same place. Conditions: the parameter is one; fewer than 2^20 bytes. -/
namespace Go.Proofs.Ytjimamjhakainaa.Rice
open Go.RowKit Bit

/-- What Get of bits answers, and where it leads. -/
def getN (M T p n : Nat) : Nat × Int × Nat := if 8 * T < p + n then (0, 10, p) else (seg M (8 * T) p n, 0, p + n)
theorem getN_end {M T p n : Nat} (h : 8 * T < p + n) : getN M T p n = (0, 10, p) := if_pos h
theorem getN_ok {M T p n : Nat} (h : ¬ 8 * T < p + n) : getN M T p n = (seg M (8 * T) p n, 0, p + n) := if_neg h
/-- A number that is written whole. -/
def getW (M T p k : Nat) : Nat × Int × Nat := if 8 * T < p + 40 then (0, 10, p) else if seg M (8 * T) p 40 / 2 ^ k < 24 then (0, 12, p + 40) else (seg M (8 * T) p 40, 0, p + 40)
/-- What Get answers behind its bits 1. -/
def getF (M T k : Nat) (r : Int × Int × Nat) : Nat × Int × Nat :=
  if r.2.1 ≠ 0 then (0, r.2.1, r.2.2) else if r.1 = 24 then getW M T r.2.2 k else if 8 * T < r.2.2 + k then (0, 10, r.2.2) else (r.1.toNat * 2 ^ k + seg M (8 * T) r.2.2 k, 0, r.2.2 + k)
def GetR (M T p k : Nat) (x : Nat × Int × Nat) : Prop := ∃ r, OnesR M T p 24 r ∧ x = getF M T k r
theorem GetR.one {M T p k : Nat} {x y : Nat × Int × Nat} (h : GetR M T p k x) (g : GetR M T p k y) : x = y := by
  obtain ⟨r, hr, rfl⟩ := h
  obtain ⟨s, hs, rfl⟩ := g
  rw [hr.one hs]

theorem ones_cases {M T p : Nat} {r : Int × Int × Nat} (h : OnesR M T p 24 r) : (∃ q c : Nat, q ≤ 24 ∧ r = ((q : Int), 0, c) ∧ p + q ≤ c ∧ c ≤ 8 * T ∧ (q < 24 → p + q + 1 = c)) ∨ r = (0, 10, p) := by
  rcases h with ⟨m, h1, h2, h3, rfl⟩ | ⟨k, h1, h2, h3, h4, rfl⟩ | ⟨k, h1, h2, h3, rfl⟩ | ⟨h1, rfl⟩
  · exact .inl ⟨24, p + m, by decide, rfl, by omega, by omega, by omega⟩
  · exact .inl ⟨k, p + k + 1, by omega, rfl, by omega, by omega, by omega⟩
  · exact .inr rfl
  · omega

def GetNPost (w : World) (q g M T p n : Nat) (e : Ending) (w' : World) : Prop := e = .returned (.tuple #[.int .u64 ((getN M T p n).1 : Int), .int .i64 (getN M T p n).2.1]) ∧ Rd w' q g M T (getN M T p n).2.2 ∧ Fr (fun b => b = q) w w'
theorem get_n {w : World} {q g M T p : Nat} (h : Rd w q g M T p) (hp : p ≤ 8 * T) (hT : T ≤ 1099511627776) (n : Nat) (hn : n ≤ 64) : Calls Try.prog 54 #[.pointer (some ⟨q, 0, none⟩), .int .i64 (n : Int)] w (GetNPost w q g M T p n) := by
  unfold GetNPost
  by_cases h1 : 8 * T < p + n
  · rw [getN_end h1]
    refine (get_end h hp hT n hn h1).mono ?_
    rintro e w' ⟨rfl, nq, rfl⟩
    exact ⟨rfl, h.drewN nq, (Fr.refl _ _).drewN nq⟩
  · rw [getN_ok h1]
    refine (get_ok h hT n hn (by omega)).mono ?_
    rintro e w' ⟨rfl, h2, h3⟩
    exact ⟨rfl, h2, h3⟩
def RGetNPost (w : World) (B q : Nat) (lo : Option Addr) (lcap M T p n : Nat) (e : Ending) (w' : World) : Prop := e = .returned (.tuple #[.int .u64 ((getN M T p n).1 : Int), .int .i64 (getN M T p n).2.1]) ∧ Rf w' B q lo lcap M T (getN M T p n).2.2 ∧ Fr (fun b => b = q) w w'
def GetPost (w : World) (q g M T p k : Nat) (e : Ending) (w' : World) : Prop := ∃ x : Nat × Int × Nat, GetR M T p k x ∧ e = .returned (.tuple #[.int .u64 (x.1 : Int), .int .i64 x.2.1]) ∧ Rd w' q g M T x.2.2 ∧ Fr (fun b => b = q) w w'
def RGetPost (w : World) (B q : Nat) (lo : Option Addr) (lcap M T p k : Nat) (e : Ending) (w' : World) : Prop := ∃ x : Nat × Int × Nat, GetR M T p k x ∧ e = .returned (.tuple #[.int .u64 (x.1 : Int), .int .i64 x.2.1]) ∧ Rf w' B q lo lcap M T x.2.2 ∧ Fr (fun b => b = q) w w'

def WholePost (w : World) (q g M T p k : Nat) (e : Ending) (w' : World) : Prop := e = .returned (.tuple #[.int .u64 ((getW M T p k).1 : Int), .int .i64 (getW M T p k).2.1]) ∧ Rd w' q g M T (getW M T p k).2.2 ∧ Fr (fun b => b = q) w w'
theorem whole_any {w : World} {q g M T p : Nat} (h : Rd w q g M T p) (hp : p ≤ 8 * T) (hT : T ≤ 1099511627776) (k : Nat) (hk : k ≤ 30) : Calls Try.prog 128 #[.pointer (some ⟨q, 0, none⟩), .int .i64 (k : Int)] w (WholePost w q g M T p k) := by
  have hg := get_n h hp hT 40 (by decide)
  unfold GetNPost at hg
  unfold WholePost
  by_cases h1 : 8 * T < p + 40
  · rw [getN_end h1] at hg
    rw [show getW M T p k = (0, 10, p) from if_pos h1]
    clear h
    go_enter Try.func128, Try.ntmps128
    go_wp2_with fail
    refine hg.mono ?_
    rintro e w1 ⟨rfl, h2, h3⟩
    clear hg
    go_wp2_with fail
    go_ret2
    exact ⟨rfl, h2, h3⟩
  · rw [getN_ok h1] at hg
    have hiw := fun w => iswhole (seg M (8 * T) p 40) k hk w
    by_cases h2 : seg M (8 * T) p 40 / 2 ^ k < 24
    · rw [show getW M T p k = (0, 12, p + 40) from by unfold getW; rw [if_neg h1, if_pos h2]]
      rw [decide_eq_false (show ¬ 24 ≤ seg M (8 * T) p 40 / 2 ^ k by omega)] at hiw
      clear h h2
      generalize seg M (8 * T) p 40 = v at *
      go_enter Try.func128, Try.ntmps128
      go_wp2_with fail
      refine hg.mono ?_
      rintro e w1 ⟨rfl, h2, h3⟩
      clear hg
      go_wp2_with fail
      refine (hiw _).mono ?_
      rintro e w2 ⟨rfl, rfl⟩
      go_wp2_with fail
      go_ret2
      exact ⟨rfl, h2, h3⟩
    · rw [show getW M T p k = (seg M (8 * T) p 40, 0, p + 40) from by unfold getW; rw [if_neg h1, if_neg h2]]
      rw [decide_eq_true (show 24 ≤ seg M (8 * T) p 40 / 2 ^ k by omega)] at hiw
      clear h h2
      generalize seg M (8 * T) p 40 = v at *
      go_enter Try.func128, Try.ntmps128
      go_wp2_with fail
      refine hg.mono ?_
      rintro e w1 ⟨rfl, h2, h3⟩
      clear hg
      go_wp2_with fail
      refine (hiw _).mono ?_
      rintro e w2 ⟨rfl, rfl⟩
      go_wp2_with fail
      go_ret2
      exact ⟨rfl, h2, h3⟩

theorem quot_lt (q k v : Nat) (hq : q < 24) (hk : k ≤ 30) (hv : v < 2 ^ k) : q * 2 ^ k + v < 25769803776 := by
  have h1 : (q + 1) * 2 ^ k ≤ 24 * 2 ^ 30 := Nat.mul_le_mul (by omega) (Nat.pow_le_pow_right (by decide) hk)
  rw [Nat.add_mul] at h1
  omega

set_option maxHeartbeats 800000 in
theorem rice_get {w : World} {q g M T p : Nat} (h : Rd w q g M T p) (hp : p ≤ 8 * T) (hT : T ≤ 1099511627776) (k : Nat) (hk : k ≤ 30) : Calls Try.prog 124 #[.pointer (some ⟨q, 0, none⟩), .int .i64 (k : Int)] w (GetPost w q g M T p k) := by
  have hkk : okK (k : Int) := ⟨by omega, by omega⟩
  have hones := ones_any h hp hT 24 (by decide)
  clear h
  go_enter Try.func124, Try.ntmps124
  go_wp2_with fail
  refine (isparam _ _).mono ?_
  rintro e w1 ⟨rfl, rfl⟩
  rw [decide_eq_true hkk]
  go_wp2_with fail
  refine hones.mono ?_
  rintro e w1 ⟨r, hr, rfl, hr1, hf1⟩
  have HR := hid hr
  rcases ones_cases hr with ⟨qq, c, hqq, rfl, _, hc, _⟩ | rfl
  · clear hr hones
    by_cases h24 : qq = 24
    · subst h24
      have hwh := whole_any hr1 hc hT k hk
      have HX : Hid (getF M T k (((24 : Nat) : Int), 0, c) = getW M T c k) := hid rfl
      clear hr1
      unfold WholePost at hwh
      generalize getW M T c k = x at *
      go_wp2_with fail
      refine hwh.mono ?_
      rintro e w2 ⟨rfl, hr2, hf2⟩
      clear hwh
      have hf := hf1.trans hf2
      go_wp2_with fail
      go_ret2
      exact ⟨x, ⟨_, HR.out, HX.out.symm⟩, rfl, hr2, hf⟩
    · have hlt : qq < 24 := by omega
      have h24' : ((qq : Int) == 24) = false := beq_eq_false_iff_ne.2 (by omega)
      have hg := get_n hr1 hc hT k (by omega)
      unfold GetNPost at hg
      clear hr1
      by_cases h1 : 8 * T < c + k
      · rw [getN_end h1] at hg
        have HX : Hid (getF M T k ((qq : Int), 0, c) = (0, 10, c)) := hid (by unfold getF; rw [if_neg (show ¬ (0 : Int) ≠ 0 from fun h => h rfl), if_neg (show ¬ (qq : Int) = 24 by omega), if_pos h1])
        go_wp2_with fail
        refine hg.mono ?_
        rintro e w2 ⟨rfl, hr2, hf2⟩
        clear hg
        have hf := hf1.trans hf2
        go_wp2_with fail
        go_ret2
        exact ⟨_, ⟨_, HR.out, HX.out.symm⟩, rfl, hr2, hf⟩
      · rw [getN_ok h1] at hg
        have HX : Hid (getF M T k ((qq : Int), 0, c) = (qq * 2 ^ k + seg M (8 * T) c k, 0, c + k)) := hid (by unfold getF; rw [if_neg (show ¬ (0 : Int) ≠ 0 from fun h => h rfl), if_neg (show ¬ (qq : Int) = 24 by omega), if_neg h1, Int.toNat_natCast])
        have hsl := seg_lt M (8 * T) c k
        generalize seg M (8 * T) c k = v at *
        have HV := hid (shl_or qq v k hsl (by have := quot_lt qq k v hlt hk hsl; omega))
        go_wp2_with fail
        refine hg.mono ?_
        rintro e w2 ⟨rfl, hr2, hf2⟩
        clear hg
        have hf := hf1.trans hf2
        go_wp2_with fail
        go_ret2
        exact ⟨_, ⟨_, HR.out, HX.out.symm⟩, congrArg (fun z : Int => Ending.returned (.tuple #[.int .u64 z, .int .i64 0])) HV.out, hr2, hf⟩
  · clear hr hones
    go_wp2_with fail
    go_ret2
    exact ⟨_, ⟨_, HR.out, rfl⟩, rfl, hr1, hf1⟩

theorem power_gen (k y : Nat) (hk : k ≤ 30) (hy : 2 ^ k = y) (w : World) : Calls Try.prog 43 #[.int .i64 (k : Int)] w fun e w' => e = .returned (.int .i64 (y : Int)) ∧ w = w' := by
  have HY := hid hy
  clear hy
  go_enter Try.func43, Try.ntmps43
  go_wp2_with fail
  go_loopg [3, 4] k (fun g x i wr => ∃ j : Nat, j ≤ k ∧ g = k - j ∧ x = .int .i64 ((2 ^ j : Nat) : Int) ∧ i = .int .i64 j ∧ w = wr)
  case atStart => exact ⟨0, Nat.zero_le _, rfl, rfl, rfl, rfl⟩
  case round =>
    obtain ⟨j, hj, hg, rfl, rfl, rfl⟩ := hrel
    have HG := hid hg
    clear hg
    have hp : 2 ^ j ≤ 2 ^ 30 := Nat.pow_le_pow_right (by decide) (by omega)
    have HN : Hid (2 ^ (j + 1) = 2 ^ j * 2) := hid (Nat.pow_succ _ _)
    generalize hxx : 2 ^ j = x at *
    have HXX := hid hxx
    clear hxx
    by_cases hlt : j < k
    · have g1 : (j : Int) < (k : Int) := by omega
      have g2 : (j : Int) < 62 := by omega
      have g3 : (x : Int) ≤ 1073741824 := by omega
      go_wp2_with fail
      go_roundg (k - (j + 1))
      case measure => rw [HG.out]; omega
      case rel => exact ⟨j + 1, by omega, rfl, congrArg (Value.int .i64) (by rw [HN.out]; omega), by go_num, rfl⟩
    · have g1 : ¬ (j : Int) < (k : Int) := by omega
      obtain rfl : j = k := by omega
      go_wp2_with fail
      go_ret
      exact ⟨congrArg (fun z : Nat => Ending.returned (.int .i64 (z : Int))) (HXX.out.symm.trans HY.out), rfl⟩
theorem power_any (k : Nat) (hk : k ≤ 30) (w : World) : Calls Try.prog 43 #[.int .i64 (k : Int)] w fun e w' => e = .returned (.int .i64 ((2 ^ k : Nat) : Int)) ∧ w = w' := power_gen k _ hk rfl w

end Go.Proofs.Ytjimamjhakainaa.Rice
/- GetAll of rice, and the document's: both answer the same numbers, and stand at the same place. Conditions: the parameter and the number may be; fewer than 2^20 bytes. -/
namespace Go.Proofs.Ytjimamjhakainaa.Rice
open Go.RowKit Bit

/-- j numbers are read, without an error. -/
def Run (M T k p : Nat) : Nat → List Nat → Nat → Prop
  | 0, l, p' => l = [] ∧ p' = p
  | j + 1, l, p' => ∃ l0 p0 u, Run M T k p j l0 p0 ∧ GetR M T p0 k (u, 0, p') ∧ l = l0 ++ [u]
theorem Run.one {M T k p : Nat} : ∀ {j : Nat} {l m : List Nat} {a b : Nat}, Run M T k p j l a → Run M T k p j m b → l = m ∧ a = b
  | 0, _, _, _, _, ⟨h1, h2⟩, ⟨g1, g2⟩ => ⟨h1.trans g1.symm, h2.trans g2.symm⟩
  | j + 1, _, _, _, _, ⟨l0, p0, u, h1, h2, h3⟩, ⟨m0, q0, v, g1, g2, g3⟩ => by
    obtain ⟨rfl, rfl⟩ := Run.one h1 g1
    have := h2.one g2
    simp only [Prod.mk.injEq, true_and] at this
    obtain ⟨rfl, rfl⟩ := this
    exact ⟨h3.trans g3.symm, rfl⟩
theorem Run.len {M T k p : Nat} : ∀ {j : Nat} {l : List Nat} {a : Nat}, Run M T k p j l a → l.length = j
  | 0, _, _, ⟨h1, _⟩ => by rw [h1]; rfl
  | j + 1, _, _, ⟨l0, p0, u, h1, _, h3⟩ => by rw [h3, List.length_append, h1.len]; rfl
theorem Run.at_ {M T k p : Nat} : ∀ {n : Nat} {l : List Nat} {a : Nat}, Run M T k p n l a → ∀ j, j < n → ∃ l0 p0 u p1, Run M T k p j l0 p0 ∧ GetR M T p0 k (u, 0, p1)
  | 0, _, _, _, j, hj => absurd hj (Nat.not_lt_zero _)
  | n + 1, _, _, ⟨l0, p0, u, h1, h2, _⟩, j, hj => by
    by_cases e : j = n
    · rw [e]; exact ⟨l0, p0, u, _, h1, h2⟩
    · exact h1.at_ j (by omega)
/-- What GetAll answers, and where it leads. -/
def AllR (M T k p n : Nat) (x : List Nat × Int × Nat) : Prop := (Run M T k p n x.1 x.2.2 ∧ x.2.1 = 0) ∨ (x.1 = [] ∧ x.2.1 ≠ 0 ∧ ∃ j l0 p0 u, j < n ∧ Run M T k p j l0 p0 ∧ GetR M T p0 k (u, x.2.1, x.2.2))
theorem AllR.one {M T k p n : Nat} {x y : List Nat × Int × Nat} (h : AllR M T k p n x) (g : AllR M T k p n y) : x = y := by
  have mix : ∀ {x y : List Nat × Int × Nat}, (Run M T k p n x.1 x.2.2 ∧ x.2.1 = 0) → (x = x → y.1 = [] ∧ y.2.1 ≠ 0 ∧ ∃ j l0 p0 u, j < n ∧ Run M T k p j l0 p0 ∧ GetR M T p0 k (u, y.2.1, y.2.2)) → False := fun {x y} h g => by
    obtain ⟨_, g2, j, l0, p0, u, hj, hr, hg⟩ := g rfl
    obtain ⟨l1, p1, v, p2, hr1, hg1⟩ := h.1.at_ j hj
    obtain ⟨_, rfl⟩ := hr.one hr1
    have := hg.one hg1
    simp only [Prod.mk.injEq] at this
    exact g2 this.2.1
  rcases h with h | h <;> rcases g with g | g
  · obtain ⟨e1, e2⟩ := h.1.one g.1
    have e3 := h.2.trans g.2.symm
    obtain ⟨x1, x2, x3⟩ := x
    obtain ⟨y1, y2, y3⟩ := y
    simp only at e1 e2 e3
    subst e1 e2 e3
    rfl
  · exact (mix h fun _ => g).elim
  · exact (mix g fun _ => h).elim
  · obtain ⟨h1, h2, j, l0, p0, u, hj, hr, hg⟩ := h
    obtain ⟨g1, g2, j', l0', p0', u', hj', hr', hg'⟩ := g
    have key : ∀ {j j' : Nat} {l0 l0' : List Nat} {p0 p0' u : Nat} {e : Int} {q : Nat}, Run M T k p j l0 p0 → GetR M T p0 k (u, e, q) → e ≠ 0 → Run M T k p j' l0' p0' → ¬ j < j' := fun {j j' l0 l0' p0 p0' u e q} r1 r2 r3 r4 hlt => by
      obtain ⟨l1, p1, v, p2, hr1, hg1⟩ := r4.at_ j hlt
      obtain ⟨_, rfl⟩ := r1.one hr1
      have := r2.one hg1
      simp only [Prod.mk.injEq] at this
      exact r3 this.2.1
    obtain rfl : j = j' := by
      have := key hr hg h2 hr'
      have := key hr' hg' g2 hr
      omega
    obtain ⟨_, rfl⟩ := hr.one hr'
    have := hg.one hg'
    obtain ⟨x1, x2, x3⟩ := x
    obtain ⟨y1, y2, y3⟩ := y
    simp only [Prod.mk.injEq] at this h1 g1 ⊢
    exact ⟨h1.trans g1.symm, this.2.1, this.2.2⟩

theorem getF_le (M T k : Nat) (r : Int × Int × Nat) (hr : r.2.2 ≤ 8 * T) : (getF M T k r).2.2 ≤ 8 * T := by
  unfold getF getW
  repeat' split
  all_goals (try simp only []); omega
theorem GetR.le {M T p k : Nat} {x : Nat × Int × Nat} (h : GetR M T p k x) (hp : p ≤ 8 * T) : x.2.2 ≤ 8 * T := by
  obtain ⟨r, hr, rfl⟩ := h
  exact getF_le M T k r (hr.le hp)
theorem getF_ge (M T k : Nat) (r : Int × Int × Nat) : r.2.2 ≤ (getF M T k r).2.2 := by
  unfold getF getW
  repeat' split
  all_goals (try simp only []); omega
/-- A number that is read is one that has a code; it takes a bit, at least. -/
theorem GetR.coded {M T p k u c : Nat} (h : GetR M T p k (u, 0, c)) (hk : k ≤ 30) : coded u ∧ p + 1 ≤ c := by
  obtain ⟨r, hr, hx⟩ := h
  have hge := getF_ge M T k r
  rw [← hx] at hge
  rcases ones_cases hr with ⟨q, c', hq, rfl, h1, h2, h3⟩ | rfl
  · have hc : p + 1 ≤ c := by
      have : c' ≤ c := hge
      rcases Nat.lt_or_ge q 24 with e | e
      · have := h3 e; omega
      · omega
    refine ⟨?_, hc⟩
    unfold getF at hx
    rw [if_neg (show ¬ (0 : Int) ≠ 0 from fun h => h rfl)] at hx
    unfold Rice.coded
    by_cases h24 : (q : Int) = 24
    · rw [if_pos h24] at hx
      unfold getW at hx
      have hs := seg_lt M (8 * T) c' 40
      split at hx
      · simp at hx
      · split at hx
        · simp at hx
        · simp only [Prod.mk.injEq] at hx
          rw [hx.1]; exact hs
    · rw [if_neg h24] at hx
      split at hx
      · simp at hx
      · simp only [Prod.mk.injEq, Int.toNat_natCast] at hx
        have := quot_lt q k _ (by omega) hk (seg_lt M (8 * T) c' k)
        rw [hx.1]; omega
  · simp [getF] at hx
theorem Run.le {M T k p : Nat} (hp : p ≤ 8 * T) : ∀ {j : Nat} {l : List Nat} {a : Nat}, Run M T k p j l a → a ≤ 8 * T
  | 0, _, _, ⟨_, h⟩ => by rw [h]; exact hp
  | j + 1, _, _, ⟨l0, p0, u, h1, h2, _⟩ => h2.le (h1.le hp)
theorem Run.ge {M T k p : Nat} (hk : k ≤ 30) : ∀ {j : Nat} {l : List Nat} {a : Nat}, Run M T k p j l a → p + j ≤ a
  | 0, _, _, ⟨_, h⟩ => by omega
  | j + 1, _, _, ⟨l0, p0, u, h1, h2, _⟩ => by have := h1.ge hk; have := (h2.coded hk).2; omega
theorem Run.coded {M T k p : Nat} (hk : k ≤ 30) : ∀ {j : Nat} {l : List Nat} {a : Nat}, Run M T k p j l a → ∀ u ∈ l, Rice.coded u
  | 0, _, _, ⟨h, _⟩, u, hu => by rw [h] at hu; cases hu
  | j + 1, _, _, ⟨l0, p0, v, h1, h2, h3⟩, u, hu => by
    rw [h3] at hu
    rcases List.mem_append.1 hu with e | e
    · exact h1.coded hk u e
    · obtain rfl := List.mem_singleton.1 e
      exact (h2.coded hk).1

/-- Numbers in a row of the call's own. -/
def ul (l : List Nat) : List Value := l.map fun (u : Nat) => .int .u64 (u : Int)
def Ul (w : World) (B : Nat) (lo : Option Addr) (lcap : Nat) (l : List Nat) : Prop := w.ownsRow B 42 1 (.slice lo l.length lcap) l.length (ul l)
theorem Ul.us {w : World} {B : Nat} {lo : Option Addr} {lcap : Nat} {l : List Nat} (h : Ul w B lo lcap l) (hl : l.length ≤ 1048576) (hc : ∀ u ∈ l, u < 18446744073709551616) : ∃ b, Us w lo l.length b 0 (fun i => l.getD i 0) := by
  rcases ownsRow_at h with ⟨_, h1, _, _⟩ | ⟨g, rfl⟩
  · exact ⟨0, fun h0 => by omega, fun i hi => by omega, fun i hi => by omega, fun h0 => by omega, by omega⟩
  · refine ⟨g, fun _ => rfl, fun i hi => ?_, fun i hi => ?_, fun _ => (World.ownsRow.lt h g (by rw [ownBlock_slice]; rfl)).2, by omega⟩
    · rw [Nat.zero_add]
      exact ownsRow_cell h i _ (by simp [ul, hi])
    · have : l.getD i 0 = l[i] := by simp [hi]
      rw [this]
      exact hc _ (List.getElem_mem hi)
theorem Ul.lt {w : World} {B : Nat} {lo : Option Addr} {lcap : Nat} {l : List Nat} (h : Ul w B lo lcap l) : ∀ g, blk lo = some g → B ≤ g ∧ g < w.heap.size := fun g hg => World.ownsRow.lt h g (by rw [ownBlock_slice]; exact hg)
theorem Ul.fr {w w' : World} {B : Nat} {lo : Option Addr} {lcap : Nat} {l : List Nat} (h : Ul w B lo lcap l) {X : Nat → Prop} (hf : Fr X w w') (hx : ∀ g, blk lo = some g → ¬ X g) : Ul w' B lo lcap l := ownsRow_block h fun g hg => hf.block g (h.lt g hg).2 (hx g hg)
theorem ul_app (l : List Nat) (u : Nat) : ul (l ++ [u]) = ul l ++ [.int .u64 (u : Int)] := by unfold ul; rw [List.map_append]; rfl

theorem Try.info42 : (Try.prog.info? 42).map (fun i => (i.zero, i.size, i.bytes)) = some (some (.int .u64 0), 1, 8) := by kernel_rfl
end Go.Proofs.Ytjimamjhakainaa.Rice
