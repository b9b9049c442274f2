/- Calls of a writer as they lie in memory, the statements' test that they are few, and Put of whatever number and whatever n. Conditions: those of the memory's own form; the writer has fewer than 2^42 bits. -/
import Derived.Test.YtpjiglnjllpjcaaAdd
namespace Go.Proofs.Ytpjiglnjllpjcaa.Bit
open Go.RowKit

/-- A slice of calls: Kind, V, N, one behind the other. -/
structure Acts (W : World) (a : Option Addr) (len cap b off : Nat) (K V N : Nat → Int) : Prop where
  addr : 0 < len → a = some ⟨b, off, none⟩
  k : ∀ i, i < len → W.cell? ⟨b, off + i * 3, none⟩ = some (.int .i64 (K i))
  v : ∀ i, i < len → W.cell? ⟨b, off + i * 3 + 1, none⟩ = some (.int .u64 (V i))
  n : ∀ i, i < len → W.cell? ⟨b, off + i * 3 + 2, none⟩ = some (.int .i64 (N i))
  kb : ∀ i, i < len → -9223372036854775808 ≤ K i ∧ K i ≤ 9223372036854775807
  vb : ∀ i, i < len → 0 ≤ V i ∧ V i < 18446744073709551616
  nb : ∀ i, i < len → -9223372036854775808 ≤ N i ∧ N i ≤ 9223372036854775807
  lt : 0 < len → b < W.heap.size
  hl : len ≤ cap
  hc : cap ≤ 9223372036854775807

theorem Acts.below {W W' : World} {a : Option Addr} {len cap b off : Nat} {K V N : Nat → Int} (h : Acts W a len cap b off K V N) {B : Nat} (hb : Below B W W') (hB : 0 < len → b < B) : Acts W' a len cap b off K V N :=
  ⟨h.addr, fun i hi => (hb.cell (p := ⟨b, _, none⟩) (hB (by omega))).trans (h.k i hi), fun i hi => (hb.cell (p := ⟨b, _, none⟩) (hB (by omega))).trans (h.v i hi),
    fun i hi => (hb.cell (p := ⟨b, _, none⟩) (hB (by omega))).trans (h.n i hi), h.kb, h.vb, h.nb, fun hl => Nat.lt_of_lt_of_le (h.lt hl) hb.size, h.hl, h.hc⟩

def cnt (K : Nat → Int) : Nat → Nat
  | 0 => 0
  | k + 1 => cnt K k + if K k = 4 then 1 else 0
theorem cnt_le (K : Nat → Int) : ∀ k, cnt K k ≤ k
  | 0 => Nat.le_refl _
  | k + 1 => by have := cnt_le K k; unfold cnt; split <;> omega

theorem cnt_no (K : Nat → Int) (k : Nat) (h : K k ≠ 4) : cnt K (k + 1) = cnt K k := by show cnt K k + (if K k = 4 then 1 else 0) = _; rw [if_neg h]; rfl
theorem cnt_yes (K : Nat → Int) (k : Nat) (h : K k = 4) : cnt K (k + 1) = cnt K k + 1 := by show cnt K k + (if K k = 4 then 1 else 0) = _; rw [if_pos h]

/-- What 'few' asks. -/
def FewP (len : Nat) (K N : Nat → Int) : Prop := len ≤ 50 ∧ (∀ i, i < len → 1 ≤ K i → K i ≤ 2 → N i ≤ 300 ∨ 1048576 < N i) ∧ cnt K len ≤ 3
def FewPost (len : Nat) (K N : Nat → Int) (w : World) (e : Ending) (w' : World) : Prop := ∃ x, e = .returned (.bool x) ∧ (x = true → FewP len K N) ∧ w = w'

set_option maxHeartbeats 1600000 in
theorem few_any (w : World) (a : Option Addr) (len cap b off : Nat) (K V N : Nat → Int) (h : Acts w a len cap b off K V N) :
    Calls Try.prog 8 #[.slice a len cap] w (FewPost len K N w) := by
  have hl := h.hl
  have hc := h.hc
  have H := hid h
  clear h
  go_enter Try.func8, Try.ntmps8
  go_wp2_with fail
  go_loopg [3, 4] len (fun g t i wr => ∃ k : Nat, k ≤ len ∧ k ≤ 60 ∧ g = len - k ∧ t = .int .i64 (cnt K k) ∧ i = .int .i64 k ∧ w = wr ∧ ∀ j, j < k → 1 ≤ K j → K j ≤ 2 → N j ≤ 300 ∨ 1048576 < N j)
  case atStart => exact ⟨0, Nat.zero_le _, Nat.zero_le _, rfl, rfl, rfl, rfl, fun j hj => absurd hj (Nat.not_lt_zero _)⟩
  case round =>
    obtain ⟨k, hk, hk60, hg, rfl, rfl, rfl, hall⟩ := hrel
    have HG := hid hg
    have HA := hid hall
    have hcb := cnt_le K k
    clear hg hall
    by_cases hlt : k < len ∧ k < 60
    · obtain ⟨hlt1, hlt2⟩ := hlt
      have hlt3 : (k : Int) < (len : Int) := by omega
      have hlt4 : (k : Int) < 60 := by omega
      obtain rfl := H.out.addr (by omega)
      have ck := H.out.k k hlt1
      have cn := H.out.n k hlt1
      have next : (1 ≤ K k → K k ≤ 2 → N k ≤ 300 ∨ 1048576 < N k) → ∀ j, j < k + 1 → 1 ≤ K j → K j ≤ 2 → N j ≤ 300 ∨ 1048576 < N j := fun hn j hj => by
        by_cases e : j = k
        · subst e; exact hn
        · exact HA.out j (by omega)
      have NX := hid next
      clear next
      generalize hK : K k = kk at *
      have HK := hid hK
      generalize hN : N k = nn at *
      have HN := hid hN
      clear hK hN
      by_cases h1 : 1 ≤ kk
      · by_cases h2 : kk ≤ 2
        · by_cases h3 : 300 < nn
          · by_cases h4 : nn ≤ 1048576
            · go_wp2_with fail
              go_ret
              exact ⟨false, rfl, (by intro e; cases e), rfl⟩
            · have h5 : (kk == 4) = false := beq_eq_false_iff_ne.2 (by omega)
              go_wp2_with fail
              go_roundg (len - (k + 1))
              case measure => rw [HG.out]; omega
              case rel => exact ⟨k + 1, by omega, by omega, rfl, by rw [cnt_no K k (by rw [HK.out]; omega)], by go_num, rfl, NX.out (fun _ _ => by omega)⟩
          · have h5 : (kk == 4) = false := beq_eq_false_iff_ne.2 (by omega)
            go_wp2_with fail
            go_roundg (len - (k + 1))
            case measure => rw [HG.out]; omega
            case rel => exact ⟨k + 1, by omega, by omega, rfl, by rw [cnt_no K k (by rw [HK.out]; omega)], by go_num, rfl, NX.out (fun _ _ => by omega)⟩
        · by_cases h4 : kk = 4
          · have h5 : (kk == 4) = true := beq_iff_eq.2 h4
            have HK4 := hid h4
            clear h4
            go_wp2_with fail
            go_roundg (len - (k + 1))
            case measure => rw [HG.out]; omega
            case rel => exact ⟨k + 1, by omega, by omega, rfl, by rw [cnt_yes K k (by rw [HK.out]; exact HK4.out)]; go_num, by go_num, rfl, NX.out (fun _ _ => by omega)⟩
          · have h5 : (kk == 4) = false := beq_eq_false_iff_ne.2 h4
            go_wp2_with fail
            go_roundg (len - (k + 1))
            case measure => rw [HG.out]; omega
            case rel => exact ⟨k + 1, by omega, by omega, rfl, by rw [cnt_no K k (by rw [HK.out]; omega)], by go_num, rfl, NX.out (fun _ _ => by omega)⟩
      · have h5 : (kk == 4) = false := beq_eq_false_iff_ne.2 (by omega)
        go_wp2_with fail
        go_roundg (len - (k + 1))
        case measure => rw [HG.out]; omega
        case rel => exact ⟨k + 1, by omega, by omega, rfl, by rw [cnt_no K k (by rw [HK.out]; omega)], by go_num, rfl, NX.out (fun _ _ => by omega)⟩
    · have fin : len ≤ 50 → k = len := fun h => by omega
      by_cases h1 : len ≤ 50
      · obtain rfl := fin h1
        have h2 : (k : Int) ≤ 50 := by omega
        have h3 : ¬ (k : Int) < (k : Int) := by omega
        by_cases h4 : cnt K k ≤ 3
        · have h5 : (cnt K k : Int) ≤ 3 := by omega
          have hfin : FewP k K N := ⟨h1, HA.out, h4⟩
          have HF := hid hfin
          clear hfin hlt
          go_wp2_with fail
          go_ret
          exact ⟨_, rfl, fun _ => HF.out, rfl⟩
        · have h5 : ¬ (cnt K k : Int) ≤ 3 := by omega
          clear hlt
          go_wp2_with fail
          go_ret
          exact ⟨false, rfl, (by intro e; cases e), rfl⟩
      · have h2 : ¬ (len : Int) ≤ 50 := by omega
        by_cases h3 : k < len
        · have h4 : (k : Int) < (len : Int) := by omega
          have h5 : ¬ (k : Int) < 60 := by omega
          clear hlt
          go_wp2_with fail
          go_ret
          exact ⟨false, rfl, (by intro e; cases e), rfl⟩
        · have h4 : ¬ (k : Int) < (len : Int) := by omega
          clear hlt
          go_wp2_with fail
          go_ret
          exact ⟨false, rfl, (by intro e; cases e), rfl⟩

/-- What Put makes of a writer's bits, whatever it is given, and its answer. -/
def putS (N L v : Nat) (n : Int) : Nat × Nat × Int := if n < 0 ∨ 64 < n then (N, L, 1) else if 2 ^ n.toNat ≤ v then (N, L, 3) else (N * 2 ^ n.toNat + v, L + n.toNat, 0)

theorem putS_len (N L v : Nat) (n : Int) : L ≤ (putS N L v n).2.1 ∧ (putS N L v n).2.1 ≤ L + 64 := by
  unfold putS; split
  · exact ⟨Nat.le_refl _, by simp⟩
  · split
    · exact ⟨Nat.le_refl _, by simp⟩
    · exact ⟨by simp, by simp; omega⟩
theorem putS_lt (N L v : Nat) (n : Int) (h : N < 2 ^ L) : (putS N L v n).1 < 2 ^ (putS N L v n).2.1 := by
  unfold putS; split
  · exact h
  · split
    · exact h
    · rename_i h1 h2
      show N * 2 ^ n.toNat + v < 2 ^ (L + n.toNat)
      rw [Nat.pow_add]
      have : (N + 1) * 2 ^ n.toNat ≤ 2 ^ L * 2 ^ n.toNat := Nat.mul_le_mul_right _ h
      rw [Nat.add_mul] at this; omega

def PutAny (w : World) (B p o : Nat) (ao : Option Addr) (N L v : Nat) (n : Int) (e : Ending) (w' : World) : Prop :=
  e = .returned (.int .i64 (putS N L v n).2.2) ∧ ∃ ao' cap', WrN w' B p o ao' cap' (putS N L v n).1 (putS N L v n).2.1 ∧ Pushed w w' p ao ao' (L / 8)

theorem put_any (B p o : Nat) (vi n : Int) (v : Nat) (ao : Option Addr) (cap N L : Nat) (w : World) (hw : WrN w B p o ao cap N L) (hv : vi = v) (hL : L ≤ 7000000000000) :
    Calls Try.prog 25 #[.pointer (some ⟨p, o, none⟩), .int .u64 vi, .int .i64 n] w (PutAny w B p o ao N L v n) := by
  subst hv
  by_cases h1 : n < 0 ∨ 64 < n
  · refine (put_arg _ _ n w h1).mono ?_
    rintro e w' ⟨rfl, rfl⟩
    have e : putS N L v n = (N, L, 1) := if_pos h1
    unfold PutAny
    rw [e]
    exact ⟨rfl, ao, cap, hw, Pushed.refl _ _ _ _⟩
  · obtain ⟨m, rfl⟩ := Int.eq_ofNat_of_zero_le (show 0 ≤ n by omega)
    by_cases h2 : 2 ^ m ≤ v
    · refine (put_range _ v m w (by omega) h2).mono ?_
      rintro e w' ⟨rfl, rfl⟩
      have e : putS N L v m = (N, L, 3) := by unfold putS; rw [if_neg h1, if_pos (by simpa using h2)]
      unfold PutAny
      rw [e]
      exact ⟨rfl, ao, cap, hw, Pushed.refl _ _ _ _⟩
    · refine (put_ok B p o v m ao cap N L w hw (by omega) (by omega) hL).mono ?_
      intro e w' h
      have e : putS N L v m = (N * 2 ^ m + v, L + m, 0) := by unfold putS; rw [if_neg h1, if_neg (by simpa using h2)]; rfl
      unfold PutAny
      rw [e]
      exact h
end Go.Proofs.Ytpjiglnjllpjcaa.Bit
