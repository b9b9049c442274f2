/- slices.Concat of two lists. Conditions: lists of fewer than 2^32 numbers. -/
import Derived.Test.YtfidnklppbdebaaJa
namespace Go.Proofs.Ytfidnklppbdebaa.Pcm
open Go.RowKit Gen

def vl (X : Nat → Int) (n : Nat) : List Value := (List.range n).map fun j => .int .i64 (X j)
theorem vl_len (X : Nat → Int) (n : Nat) : (vl X n).length = n := by simp [vl]
theorem vl_at {X : Nat → Int} {n j : Nat} {u : Value} (h : (vl X n)[j]? = some u) : j < n ∧ u = .int .i64 (X j) := by
  have hj : j < n := by
    have := (List.getElem?_eq_some_iff.1 h).1
    rwa [vl_len] at this
  refine ⟨hj, ?_⟩
  simp [vl, hj] at h
  exact h.symm
theorem vl_get (X : Nat → Int) {n j : Nat} (h : j < n) : (vl X n)[j]? = some (.int .i64 (X j)) := by simp [vl, h]
theorem vl_one (X : Nat → Int) (n : Nat) : ∀ u ∈ vl X n, u.oneCell' = true := by
  intro u hu
  simp only [vl, List.mem_map] at hu
  obtain ⟨j, _, rfl⟩ := hu
  rfl
theorem vl_cells {w : World} {a : Option Addr} {n b o : Nat} {X : Nat → Int} (h : Isb w a n b o X) : ∀ ad, a = some ad → ∀ j u, (vl X n)[j]? = some u → w.cell? (ad.add j) = some u := fun ad ha j u hu => by
  obtain ⟨hj, rfl⟩ := vl_at hu
  have := h.addr (by omega)
  rw [ha] at this
  cases this
  rw [Addr.add_lit]
  exact h.c j hj
theorem isb_none {w : World} {a : Option Addr} {n b o : Nat} {X : Nat → Int} (h : Isb w a n b o X) : a = none → n = 0 := fun ha => by
  by_cases h0 : n = 0
  · exact h0
  · have := h.addr (by omega); rw [ha] at this; cases this
/-- A list of a call's own is a list in new memory. -/
theorem own_new {w : World} {B : Nat} {ao : Option Addr} {n cap : Nat} {xs : List Value} {X : Nat → Int} (h : w.ownsRow B 3 1 (.slice ao n cap) n xs) (hx : ∀ j, j < n → xs[j]? = some (.int .i64 (X j))) (hn : n ≤ 9223372036854775807) : NewIs B w ao n X := by
  rcases ownsRow_at h with ⟨rfl, rfl, _, _⟩ | ⟨g, rfl⟩
  · exact ⟨0, 0, isb_nil w X, fun h => absurd h (Nat.lt_irrefl 0)⟩
  · have hl := World.ownsRow.lt h g (by rw [ownBlock_slice]; rfl)
    exact ⟨g, 0, ⟨fun _ => rfl, fun i hi => by rw [Nat.zero_add]; exact ownsRow_cell h i _ (hx i hi), fun _ => hl.2, hn⟩, fun _ => hl.1⟩
def sl (L : Nat → Nat) : Nat → Nat
  | 0 => 0
  | k + 1 => sl L k + L k
def cl (L : Nat → Nat) (X : Nat → Nat → Int) : Nat → List Value
  | 0 => []
  | k + 1 => cl L X k ++ vl (X k) (L k)
theorem cl_len (L : Nat → Nat) (X : Nat → Nat → Int) : ∀ k, (cl L X k).length = sl L k
  | 0 => rfl
  | k + 1 => by show (cl L X k ++ vl (X k) (L k)).length = sl L k + L k; rw [List.length_append, cl_len L X k, vl_len]
def cat (X Y : Nat → Int) (n : Nat) (j : Nat) : Int := if j < n then X j else Y (j - n)
theorem cl_two (L : Nat → Nat) (X : Nat → Nat → Int) (j : Nat) (h : j < sl L 2) : (cl L X 2)[j]? = some (.int .i64 (cat (X 0) (X 1) (L 0) j)) := by
  have e : sl L 2 = L 0 + L 1 := by simp [sl]
  show (([] ++ vl (X 0) (L 0)) ++ vl (X 1) (L 1))[j]? = _
  rw [List.nil_append]
  unfold cat
  by_cases hj : j < L 0
  · rw [if_pos hj, List.getElem?_append_left (by rw [vl_len]; exact hj), vl_get _ hj]
  · rw [if_neg hj, List.getElem?_append_right (by rw [vl_len]; omega), vl_len, vl_get _ (by omega)]

set_option maxHeartbeats 800000 in
set_option maxRecDepth 100000 in
theorem concat_any (w : World) (g : Nat) (la : Nat → Option Addr) (L lc b o : Nat → Nat) (X : Nat → Nat → Int) (hg : g < w.heap.size)
    (hc : ∀ i, i < 2 → w.cell? ⟨g, i, none⟩ = some (.slice (la i) (L i) (lc i))) (hi : ∀ i, i < 2 → Isb w (la i) (L i) (b i) (o i) (X i)) (hL : ∀ i, i < 2 → L i ≤ 4294967296) :
    Calls Try.prog 42 #[.slice (some ⟨g, 0, none⟩) 2 2] w fun e w' => ∃ lo lcap, e = .returned (.slice lo (sl L 2) lcap) ∧ NewIs w.heap.size w' lo (sl L 2) (cat (X 0) (X 1) (L 0)) ∧ Below w.heap.size w w' := by
  obtain ⟨i0, hi0, hz0, hz1, hz2⟩ := info_parts Try.info3
  have HC := hid hc
  have HI := hid hi
  have HL := hid hL
  have hs : ∀ k, k ≤ 2 → sl L k ≤ 8589934592 := fun k hk => by
    match k, hk with
    | 0, _ => exact Nat.zero_le _
    | 1, _ => have := hL 0 (by decide); simp [sl]; omega
    | 2, _ => have := hL 0 (by decide); have := hL 1 (by decide); simp [sl]; omega
  have HS := hid hs
  clear hc hi hL hs
  go_enter Try.func42, Try.ntmps42
  go_wp2_with fail
  go_loopg [3, 11] 2 (fun gh v i wr => ∃ k : Nat, k ≤ 2 ∧ gh = 2 - k ∧ v = .int .i64 (sl L k : Int) ∧ i = .int .i64 k ∧ w = wr)
  case atStart => exact ⟨0, Nat.zero_le _, rfl, rfl, rfl, rfl⟩
  case round =>
    obtain ⟨k, hk, hgh, rfl, rfl, rfl⟩ := hrel
    have HG := hid hgh
    clear hgh
    by_cases hlt : k < 2
    · have hlt2 : (k : Int) < 2 := by omega
      have ck := HC.out k hlt
      have h1 := HL.out k hlt
      have h2 := HS.out k hk
      have HE : Hid (sl L (k + 1) = sl L k + L k) := hid rfl
      generalize sl L k = sk at *
      generalize L k = lk at *
      have g1 : ¬ (sk : Int) + (lk : Int) < 0 := by omega
      go_wp2_with fail
      go_roundg (2 - (k + 1))
      case measure => rw [HG.out]; omega
      case rel => exact ⟨k + 1, by omega, rfl, by rw [HE.out]; go_num, by go_num, rfl⟩
    · obtain rfl : k = 2 := by omega
      have h2 := HS.out 2 (Nat.le_refl _)
      have HGR := hid (grow_any w (sl L 2) (by omega))
      go_wp2_with fail
      refine HGR.out.mono ?_
      rintro e w1 ⟨ao1, cap1, rfl, hown1, hb1⟩
      clear HGR
      go_wp2_with fail
      go_loopg [6, 27] 2 (fun gh v i wr => ∃ (k : Nat) (ao : Option Addr) (cap : Nat), k ≤ 2 ∧ gh = 2 - k ∧ v = .slice ao (sl L k) cap ∧ i = .int .i64 k ∧ wr.ownsRow w.heap.size 3 1 (.slice ao (sl L k) cap) (sl L k) (cl L X k) ∧ Below w.heap.size w wr)
      case atStart => exact ⟨0, ao1, cap1, Nat.zero_le _, rfl, rfl, rfl, hown1, hb1⟩
      case round =>
        clear hown1 hb1
        obtain ⟨k, ao, cap, hk, hgh, rfl, rfl, hown, hb⟩ := hrel
        have HG2 := hid hgh
        clear hgh
        by_cases hlt : k < 2
        · have hlt2 : (k : Int) < 2 := by omega
          have ck : wr.cell? ⟨g, k, none⟩ = some (.slice (la k) (L k) (lc k)) := (hb.cell (p := ⟨g, k, none⟩) hg).trans (HC.out k hlt)
          have hik : Isb wr (la k) (L k) (b k) (o k) (X k) := (HI.out k hlt).below hb (HI.out k hlt).lt
          have h1 := HL.out k hlt
          have h3 := HS.out k hk
          have HE : Hid (sl L (k + 1) = sl L k + L k ∧ cl L X (k + 1) = cl L X k ++ vl (X k) (L k)) := hid ⟨rfl, rfl⟩
          have HIK := hid hik
          have hsz := hb.size
          clear hik
          generalize sl L k = sk at *
          generalize cl L X k = ck2 at *
          go_wp2_with (at_builtin; go_must (refine wpList_append_src _ rfl (.tmp 31) (.tmp 32) 42 rfl w.heap.size 3 i0 (.int .i64 0) 8 Try.underlying42 hi0 hz0 hz1 hz2 rfl ao sk cap ck2 rfl hown (la k) (L k) (lc k) (vl (X k) (L k)) rfl (vl_len _ _) (isb_none HIK.out) (vl_cells HIK.out) (vl_one _ _) (by unfold maxLen; omega) (by omega) hsz ?_))
          intro ao' cap' w3 hown3 hgr _
          have hb3 : Below w.heap.size w w3 := hb.grown hgr hsz (fun g' hg' => (World.ownsRow.lt hown g' (by rw [ownBlock_slice]; exact hg')).1)
          have HO3 : Hid (w3.ownsRow w.heap.size 3 1 (.slice ao' (sl L (k + 1)) cap') (sl L (k + 1)) (cl L X (k + 1))) := hid (by rw [HE.out.1, HE.out.2]; exact hown3)
          clear hown hown3 hgr hb ck
          go_wp2_with fail
          go_roundg (2 - (k + 1))
          case measure => rw [HG2.out]; omega
          case rel => exact ⟨k + 1, ao', cap', by omega, rfl, by rw [HE.out.1], by go_num, HO3.out, hb3⟩
        · obtain rfl : k = 2 := by omega
          have hnew := own_new hown (X := cat (X 0) (X 1) (L 0)) (fun j hj => cl_two L X j hj) (by omega)
          clear hown
          generalize hs2 : sl L 2 = s2 at *
          have HS2 := hid hs2
          clear hs2
          go_wp2_with fail
          go_ret
          rw [HS2.out]
          exact ⟨_, _, rfl, hnew, hb⟩
end Go.Proofs.Ytfidnklppbdebaa.Pcm
