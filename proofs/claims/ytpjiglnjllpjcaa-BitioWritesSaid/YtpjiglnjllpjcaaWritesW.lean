/- BitioWrites: whatever a writer is given, it answers, and has, the bits that the document's own list has. Conditions: those of the memory's own form alone. -/
import Derived.Test.YtpjiglnjllpjcaaDo
namespace Go.Proofs.Ytpjiglnjllpjcaa.Bit
open Go.RowKit

/-- The bits behind k calls. -/
def runs (K V N : Nat → Int) : Nat → Nat × Nat
  | 0 => (0, 0)
  | k + 1 => step (runs K V N k) (K k) (V k) (N k)
theorem runs_lt (K V N : Nat → Int) : ∀ k, (runs K V N k).1 < 2 ^ (runs K V N k).2
  | 0 => (by decide : 0 < 2 ^ 0)
  | k + 1 => step_lt _ _ _ _ (runs_lt K V N k)
theorem cnt_mono (K : Nat → Int) (k : Nat) : ∀ m, k ≤ m → cnt K k ≤ cnt K m
  | 0, h => by
    obtain rfl : k = 0 := by omega
    exact Nat.le_refl _
  | m + 1, h => by
    by_cases e : k = m + 1
    · rw [e]; exact Nat.le_refl _
    · have := cnt_mono K k m (by omega)
      show cnt K k ≤ cnt K m + _
      omega
theorem runs_len (K V N : Nat → Int) (len : Nat) (h : ∀ i, i < len → 1 ≤ K i → K i ≤ 2 → N i ≤ 300 ∨ 1048576 < N i) : ∀ k, k ≤ len → (runs K V N k).2 ≤ 2 ^ cnt K k * (300 * k)
  | 0, _ => by simp [runs]
  | k + 1, hk => by
    have h1 := runs_len K V N len h k (by omega)
    have h2 := step_len (runs K V N k) (K k) (V k) (N k) (h k (by omega))
    have h3 := Nat.two_pow_pos (cnt K k)
    show (step _ _ _ _).2 ≤ 2 ^ (cnt K k + if K k = 4 then 1 else 0) * (300 * (k + 1))
    have e1 : 2 ^ cnt K k * (300 * (k + 1)) = 2 ^ cnt K k * (300 * k) + 2 ^ cnt K k * 300 := by rw [← Nat.mul_add]; rfl
    by_cases h4 : K k = 4
    · rw [if_pos h4] at h2 ⊢
      rw [Nat.pow_succ, Nat.mul_right_comm, e1]
      omega
    · rw [if_neg h4] at h2 ⊢
      rw [Nat.add_zero, e1]
      omega
theorem runs_small (K V N : Nat → Int) (len : Nat) (h : FewP len K N) (k : Nat) (hk : k ≤ len) : (runs K V N k).2 ≤ 120000 := by
  have h1 := runs_len K V N len h.2.1 k hk
  have h2 : cnt K k ≤ 3 := Nat.le_trans (cnt_mono K k len hk) h.2.2
  have h3 : 2 ^ cnt K k ≤ 2 ^ 3 := Nat.pow_le_pow_right (by decide) h2
  have h4 : 2 ^ cnt K k * (300 * k) ≤ 8 * (300 * 50) := Nat.mul_le_mul h3 (by have := h.1; omega)
  omega

theorem ws_start (w : World) : WS w (w.alloc (.cells #[.slice none 0 0, .int .u64 0, .int .i64 0] 29)) (.slice none 0 0) (0, 0) :=
  ⟨none, 0, none, 0, rfl, new_writer' w 29 _ (Nat.le_refl _), World.ownsRow_nil _ _ _ _, (by intro g hg; simp [blk] at hg), (Below.refl _ _).alloc (Nat.le_refl _) _⟩
theorem ws_slice {w wr : World} {v : Value} {x : Nat × Nat} (h : WS w wr v x) : ∃ lo lcap, v = .slice lo x.2 lcap := by
  obtain ⟨_, _, lo, lcap, e, _⟩ := h
  exact ⟨lo, lcap, e⟩
theorem len_w {w wr : World} {v : Value} {x : Nat × Nat} (h : WS w wr v x) (hL : x.2 ≤ 120000) : Calls Try.prog 11 #[.pointer (some ⟨w.heap.size, 0, none⟩)] wr fun e w' => e = .returned (.int .i64 x.2) ∧ WS w w' v x := by
  have h' := h
  obtain ⟨_, _, _, _, _, hw, _⟩ := h
  refine (len_any hw (by omega)).mono ?_
  rintro e w' ⟨rfl, nq, rfl⟩
  exact ⟨rfl, h'.fr ((Fr.refl _ _).drewN nq)⟩
theorem bytes_w {w wr : World} {v : Value} {x : Nat × Nat} (h : WS w wr v x) (hL : x.2 ≤ 120000) : Calls Try.prog 12 #[.pointer (some ⟨w.heap.size, 0, none⟩)] wr fun e w' =>
    e = .returned (.slice (some ⟨wr.heap.size, 0, none⟩) ((x.2 + 7) / 8) ((x.2 + 7) / 8)) ∧ WS w w' v x ∧ Row w' wr.heap.size x ∧ Below wr.heap.size wr w' := by
  have h' := h
  obtain ⟨_, _, _, _, _, hw, _⟩ := h
  refine (bytes_any hw (by omega)).mono ?_
  rintro e w' ⟨rfl, hb, hr⟩
  exact ⟨rfl, h'.upto hb, hr, hb⟩
theorem bytes_l {w wr : World} {lo : Option Addr} {lcap L : Nat} {x : Nat × Nat} (h : WS w wr (.slice lo L lcap) x) (hL : x.2 ≤ 120000) : Calls Try.prog 13 #[.slice lo L lcap] wr fun e w' =>
    ∃ g, e = .returned (.slice (some ⟨g, 0, none⟩) ((x.2 + 7) / 8) ((x.2 + 7) / 8)) ∧ WS w w' (.slice lo L lcap) x ∧ Row w' g x ∧ Below wr.heap.size wr w' := by
  have h' := h
  obtain ⟨_, _, lo', lcap', e, _, hl, _, hb⟩ := h
  cases e
  refine (rbytes_any wr w.heap.size lo lcap x.1 x.2 hl hb.size (by omega)).mono ?_
  rintro e w' ⟨g, rfl, hb2, hr⟩
  exact ⟨g, rfl, h'.upto hb2, hr, hb2⟩

set_option maxHeartbeats 3200000 in
set_option maxRecDepth 100000 in
theorem writes_walk (w : World) (a : Option Addr) (len cap b off : Nat) (K V N : Nat → Int) (h : Acts w a len cap b off K V N) :
    Calls Try.prog 3 #[.slice a len cap] w fun e w' => e = .returned (.bool true) ∧ Below w.heap.size w w' := by
  go_enter Try.func3, Try.ntmps3
  go_wp2_with fail
  refine (few_any w a len cap b off K V N h).mono ?_
  rintro e w' ⟨x, rfl, hx, rfl⟩
  have HX := hid hx
  clear hx
  cases x with
  | false =>
    go_wp2_with fail
    refine (known_true _).mono ?_
    rintro e w' ⟨rfl, hb⟩
    go_wp2_with fail
    go_ret
    exact ⟨rfl, hb⟩
  | true =>
    have HF := hid (HX.out rfl)
    have H := hid h
    have hst := ws_start w
    have hl50 : len ≤ 50 := HF.out.1
    clear HX h
    go_wp2_with fail
    go_loopg [4, 5] len (fun g v i wr => ∃ k : Nat, k ≤ len ∧ g = len - k ∧ i = .int .i64 k ∧ WS w wr v (runs K V N k))
    case atStart => exact ⟨0, Nat.zero_le _, rfl, rfl, hst⟩
    case round =>
      obtain ⟨k, hk, hg, rfl, hs⟩ := hrel
      have HG := hid hg
      have hlen := runs_small K V N len HF.out k hk
      have hlt0 := runs_lt K V N k
      have HLT := hid hlt0
      clear hg hst hlt0
      by_cases hlt : k < len
      · obtain rfl := H.out.addr (by omega)
        have hA := H.out.below hs.below (fun _ => H.out.lt (by omega))
        have ck := hA.k k hlt
        have cv := hA.v k hlt
        have cn := hA.n k hlt
        have hvb := hA.vb k hlt
        have hlt2 : (k : Int) < (len : Int) := by omega
        clear hA
        go_wp2_with fail
        refine (do_any hs HLT.out (by omega) (K k) (V k) (N k) hvb.1 hvb.2).mono ?_
        rintro e w1 ⟨y, rfl, hs1⟩
        have hlen1 : (step (runs K V N k) (K k) (V k) (N k)).2 ≤ 120000 := runs_small K V N len HF.out (k + 1) hlt
        have hnx : step (runs K V N k) (K k) (V k) (N k) = runs K V N (k + 1) := rfl
        have HNX := hid hnx
        clear hs ck cv cn hvb hnx hlen
        generalize step (runs K V N k) (K k) (V k) (N k) = x at *
        obtain ⟨lo, lcap, rfl⟩ := ws_slice hs1
        go_wp2_with fail
        have hs2 : WS w w1.drew _ _ := hs1.fr (Fr.refl _ _).drew
        clear hs1
        go_region_with (first
          | (go_at_call 11; (with_reducible refine (len_w ‹WS w _ _ _› (by first | omega | (simp only []; omega))).mono ?_); rintro e w9 ⟨rfl, hs9⟩)
          | (go_at_call 12; (with_reducible refine (bytes_w ‹WS w _ _ _› (by first | omega | (simp only []; omega))).mono ?_); rintro e w9 ⟨rfl, hs9, hr9, hb9⟩; have hc9 := hr9.conv)
          | (go_at_call 13; (with_reducible refine (bytes_l ‹WS w _ _ _› (by first | omega | (simp only []; omega))).mono ?_); rintro e w8 ⟨g8, rfl, hs8, hr8, hb8⟩; have hc8 := hr8.conv; have hc7 := (hr9.upto hb8).conv))
        all_goals
          clear hc9 hc8 hc7 hr9 hr8 hb9 hb8 hs9 hs2
          go_wp2_with fail
          go_roundg (len - (k + 1))
          case measure => rw [HG.out]; omega
          case rel => exact ⟨k + 1, by omega, rfl, by go_num, by rw [← HNX.out]; exact hs8⟩
      · have hge : ¬ (k : Int) < (len : Int) := by omega
        go_wp2_with fail
        refine (known_true _).mono ?_
        rintro e w9 ⟨rfl, hb9⟩
        have hfin := hs.below.trans (hb9.mono hs.below.size)
        clear hs hb9
        go_wp2_with fail
        go_ret
        exact ⟨rfl, hfin⟩
end Go.Proofs.Ytpjiglnjllpjcaa.Bit
