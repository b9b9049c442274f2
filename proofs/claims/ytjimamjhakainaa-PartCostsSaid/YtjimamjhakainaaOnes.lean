/- A reader's Ones, and that of the document's own reader: both count the bits 1, up to most or up to a bit 0, and answer the same, wherever they stand. Conditions: fewer than 2^20 bytes. -/
import Derived.Test.YtjimamjhakainaaRf
namespace Go.Proofs.Ytjimamjhakainaa.Bit
open Go.RowKit

/-- What Ones answers, and where it leads. -/
def OnesR (M T p : Nat) (most : Int) (r : Int × Int × Nat) : Prop :=
  (∃ m : Nat, most = m ∧ p + m ≤ 8 * T ∧ (∀ i, i < m → seg M (8 * T) (p + i) 1 = 1) ∧ r = (most, 0, p + m)) ∨
  (∃ k : Nat, (k : Int) < most ∧ p + k < 8 * T ∧ (∀ i, i < k → seg M (8 * T) (p + i) 1 = 1) ∧ seg M (8 * T) (p + k) 1 = 0 ∧ r = ((k : Int), 0, p + k + 1)) ∨
  (∃ k : Nat, (k : Int) < most ∧ p + k = 8 * T ∧ (∀ i, i < k → seg M (8 * T) (p + i) 1 = 1) ∧ r = (0, 10, p)) ∨ (most < 0 ∧ r = (0, 1, p))

theorem OnesR.one {M T p : Nat} {most : Int} {r s : Int × Int × Nat} (h : OnesR M T p most r) (g : OnesR M T p most s) : r = s := by
  rcases h with ⟨m, h1, h2, h3, rfl⟩ | ⟨k, h1, h2, h3, h4, rfl⟩ | ⟨k, h1, h2, h3, rfl⟩ | ⟨h1, rfl⟩
  · rcases g with ⟨m', g1, g2, g3, rfl⟩ | ⟨k', g1, g2, g3, g4, rfl⟩ | ⟨k', g1, g2, g3, rfl⟩ | ⟨g1, rfl⟩
    · obtain rfl : m = m' := by omega
      rfl
    · have := h3 k' (by omega); omega
    · omega
    · omega
  · rcases g with ⟨m', g1, g2, g3, rfl⟩ | ⟨k', g1, g2, g3, g4, rfl⟩ | ⟨k', g1, g2, g3, rfl⟩ | ⟨g1, rfl⟩
    · have := g3 k (by omega); omega
    · rcases Nat.lt_trichotomy k k' with e | e | e
      · have := g3 k e; omega
      · subst e; rfl
      · have := h3 k' e; omega
    · have := g3 k (by omega); omega
    · omega
  · rcases g with ⟨m', g1, g2, g3, rfl⟩ | ⟨k', g1, g2, g3, g4, rfl⟩ | ⟨k', g1, g2, g3, rfl⟩ | ⟨g1, rfl⟩
    · omega
    · have := h3 k' (by omega); omega
    · rfl
    · omega
  · rcases g with ⟨m', g1, g2, g3, rfl⟩ | ⟨k', g1, g2, g3, g4, rfl⟩ | ⟨k', g1, g2, g3, rfl⟩ | ⟨g1, rfl⟩
    · omega
    · omega
    · omega
    · rfl
theorem OnesR.le {M T p : Nat} {most : Int} {r : Int × Int × Nat} (h : OnesR M T p most r) (hp : p ≤ 8 * T) : r.2.2 ≤ 8 * T := by
  rcases h with ⟨m, h1, h2, h3, rfl⟩ | ⟨k, h1, h2, h3, h4, rfl⟩ | ⟨k, h1, h2, h3, rfl⟩ | ⟨h1, rfl⟩
  · exact h2
  · exact h2
  · exact hp
  · exact hp

theorem and_u8_one : ∀ x : Fin 256, bits .and .u8 (x.val : Int) 1 = ((x.val % 2 : Nat) : Int) := by decide +kernel
theorem bit_u8 (M T p : Nat) (hp : p < 8 * T) : bits .and .u8 ((byt M (8 * T) (p / 8) : Int) / 2 ^ (7 - p % 8)) 1 = (seg M (8 * T) p 1 : Nat) := by
  have hb := byt_lt M (8 * T) (p / 8)
  rw [shr_nat]
  have h2 : byt M (8 * T) (p / 8) / 2 ^ (7 - p % 8) < 256 := Nat.lt_of_le_of_lt (Nat.div_le_self _ _) hb
  rw [and_u8_one ⟨_, h2⟩]
  have h3 := bit_byte M T (p / 8) (p % 8) (by omega) (Nat.mod_lt _ (by decide))
  unfold bitOf at h3
  rw [show 8 - 1 - p % 8 = 7 - p % 8 from by omega, show 8 * (p / 8) + p % 8 = p from by omega] at h3
  show ((byt M (8 * T) (p / 8) / 2 ^ (7 - p % 8) % 2 : Nat) : Int) = _
  rw [h3]

def OnesPost (w : World) (q g M T p : Nat) (most : Int) (e : Ending) (w' : World) : Prop :=
  ∃ r : Int × Int × Nat, OnesR M T p most r ∧ e = .returned (.tuple #[.int .i64 r.1, .int .i64 r.2.1]) ∧ Rd w' q g M T r.2.2 ∧ Fr (fun b => b = q) w w'

set_option maxHeartbeats 1600000 in
theorem ones_any {w : World} {q g M T p : Nat} (h : Rd w q g M T p) (hp : p ≤ 8 * T) (hT : T ≤ 1099511627776) (most : Int) (hm : most ≤ 9223372036854775807) :
    Calls Try.prog 127 #[.pointer (some ⟨q, 0, none⟩), .int .i64 most] w (OnesPost w q g M T p most) := by
  by_cases hneg : most < 0
  · go_enter Try.func127, Try.ntmps127
    go_wp2_with fail
    go_ret2
    exact ⟨(0, 1, p), .inr (.inr (.inr ⟨hneg, rfl⟩)), rfl, h, Fr.refl _ _⟩
  · have c0 := h.c0; have c1 := h.c1; have f1 := h.f1
    go_enter Try.func127, Try.ntmps127
    go_wp2_with fail
    go_quiet (fail)
    have hr := h.drewN nq
    have hf : Fr (fun b => b = q) w (w.drewN nq) := (Fr.refl _ _).drewN nq
    have c0' := hr.c0; have c1' := hr.c1; have f1' := hr.f1
    clear c0 c1 f1 h
    generalize w.drewN nq = W at *
    go_wp2_with fail
    go_loopg [6, 8] (8 * T - p) (fun g' at_ n wr => ∃ j : Nat, p + j ≤ 8 * T ∧ g' = 8 * T - (p + j) ∧ at_ = .int .i64 ((p : Int) + j) ∧ n = .int .i64 j ∧ (j : Int) ≤ most ∧ W = wr ∧ ∀ i, i < j → seg M (8 * T) (p + i) 1 = 1)
    case atStart => exact ⟨0, by omega, by omega, by simp, rfl, by omega, rfl, fun i hi => absurd hi (Nat.not_lt_zero _)⟩
    case round =>
      obtain ⟨j, hj, hg, rfl, rfl, hjm, rfl, hall⟩ := hrel
      have HG := hid hg; have HALL := hid hall; have HR := hid hr; have HF := hid hf
      clear hg hall hr hf
      by_cases hlt : (j : Int) < most
      · by_cases hend : p + j = 8 * T
        · have h1 : ((p : Int) + j == 8 * (T : Int)) = true := beq_iff_eq.2 (by omega)
          have HE := hid hend
          clear hend
          go_wp2_with fail
          go_ret2
          exact ⟨(0, 10, p), .inr (.inr (.inl ⟨j, hlt, HE.out, HALL.out, rfl⟩)), rfl, HR.out, HF.out⟩
        · have h1 : ((p : Int) + j == 8 * (T : Int)) = false := beq_eq_false_iff_ne.2 (by omega)
          have hc := HR.out.row.cell (i := (p + j) / 8) (by omega)
          have hi1 : (0 : Int) ≤ ((p : Int) + j) / 8 := by omega
          have hi2 : ((p : Int) + j) / 8 < (T : Int) := by omega
          have hs1 : (0 : Int) ≤ 7 - ((p : Int) + j) % 8 := by omega
          have hs2 : 7 - ((p : Int) + j) % 8 ≤ 8 := by omega
          have hbit := bit_u8 M T (p + j) (by omega)
          have hby := byt_lt M (8 * T) ((p + j) / 8)
          have hs01 := seg1 M (8 * T) (p + j)
          generalize hB : byt M (8 * T) ((p + j) / 8) = bb at *
          have HBIT := hid hbit; have H01 := hid hs01
          clear hB hbit hs01
          have hjlt : p + j < 8 * T := by omega
          have hmv := HR.out.move (p + j + 1)
          have hfm := HF.out.setCell (p := ⟨q, 1, none⟩) rfl (.int .i64 ((p + j + 1 : Nat) : Int))
          rw [show ((p + j + 1 : Nat) : Int) = (p : Int) + j + 1 from by omega] at hmv hfm
          rcases H01.out with hb | hb
          · have h2 : (bits BinOp.and IntKind.u8 ((bb : Int) / 2 ^ (7 - (p + j) % 8)) 1 == 0) = true := by rw [HBIT.out, hb]; rfl
            have HB := hid hb
            clear hb
            go_wp2_with fail
            go_ret2
            exact ⟨((j : Int), 0, p + j + 1), .inr (.inl ⟨j, hlt, hjlt, HALL.out, HB.out, rfl⟩), rfl, hmv, hfm⟩
          · have h2 : (bits BinOp.and IntKind.u8 ((bb : Int) / 2 ^ (7 - (p + j) % 8)) 1 == 0) = false := by rw [HBIT.out, hb]; rfl
            have HB := hid hb
            clear hb hmv hfm
            go_wp2_with fail
            go_roundg (8 * T - (p + (j + 1)))
            case measure => rw [HG.out]; omega
            case rel => exact ⟨j + 1, by omega, rfl, by go_num, by go_num, by omega, rfl, fun i hi => by
              by_cases e : i = j
              · subst e; exact HB.out
              · exact HALL.out i (by omega)⟩
      · obtain rfl : most = (j : Int) := by omega
        have hmv := HR.out.move (p + j)
        have hfm := HF.out.setCell (p := ⟨q, 1, none⟩) rfl (.int .i64 ((p + j : Nat) : Int))
        rw [show ((p + j : Nat) : Int) = (p : Int) + j from by omega] at hmv hfm
        have h1 : ¬ (j : Int) < (j : Int) := by omega
        go_wp2_with fail
        go_ret2
        exact ⟨((j : Int), 0, p + j), .inl ⟨j, rfl, hj, HALL.out, rfl⟩, rfl, hmv, hfm⟩

def RfOnesPost (w : World) (B q : Nat) (lo : Option Addr) (lcap M T p : Nat) (most : Int) (e : Ending) (w' : World) : Prop :=
  ∃ r : Int × Int × Nat, OnesR M T p most r ∧ e = .returned (.tuple #[.int .i64 r.1, .int .i64 r.2.1]) ∧ Rf w' B q lo lcap M T r.2.2 ∧ Fr (fun b => b = q) w w'

end Go.Proofs.Ytjimamjhakainaa.Bit
