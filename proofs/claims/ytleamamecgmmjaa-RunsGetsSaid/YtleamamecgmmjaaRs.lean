/- Get of runs: what it answers, where the reader stands, and the numbers. Conditions: fewer than 2^20 bytes. -/
import Derived.Test.YtleamamecgmmjaaRo
import Derived.Test.YtleamamecgmmjaaRh
namespace Go.Proofs.Ytleamamecgmmjaa.Runs
open Go.RowKit Bit Rice

/-- One run: the error, where it leads, how many noughts, and the number behind them, if there is one. -/
def Stp (M T k m p : Nat) (x : Int × Nat × Nat × Int) : Prop :=
  ((getG M T p).2.1 ≠ 0 ∧ x = ((getG M T p).2.1, (getG M T p).2.2, 0, 0)) ∨
  ((getG M T p).2.1 = 0 ∧ m < (getG M T p).1 - 1 ∧ x = (12, (getG M T p).2.2, 0, 0)) ∨
  ((getG M T p).2.1 = 0 ∧ (getG M T p).1 - 1 = m ∧ x = (0, (getG M T p).2.2, m, 0)) ∨
  ((getG M T p).2.1 = 0 ∧ (getG M T p).1 - 1 < m ∧ ∃ y : Nat × Int × Nat, GetR M T (getG M T p).2.2 k y ∧
    ((y.2.1 ≠ 0 ∧ x = (y.2.1, y.2.2, 0, 0)) ∨ (y.2.1 = 0 ∧ y.1 = 1099511627775 ∧ x = (12, y.2.2, 0, 0)) ∨ (y.2.1 = 0 ∧ y.1 ≠ 1099511627775 ∧ x = (0, y.2.2, (getG M T p).1 - 1, zgi (y.1 + 1)))))
theorem Stp.one {M T k m p : Nat} {x x' : Int × Nat × Nat × Int} (h : Stp M T k m p x) (h' : Stp M T k m p x') : x = x' := by
  rcases h with ⟨a, rfl⟩ | ⟨a, b, rfl⟩ | ⟨a, b, rfl⟩ | ⟨a, b, y, hy, h⟩ <;> rcases h' with ⟨a', rfl⟩ | ⟨a', b', rfl⟩ | ⟨a', b', rfl⟩ | ⟨a', b', y', hy', h'⟩
  all_goals first | rfl | (exfalso; omega) | (exfalso; exact a a') | (exfalso; exact a' a) | skip
  obtain rfl := hy.one hy'
  rcases h with ⟨c, rfl⟩ | ⟨c, d, rfl⟩ | ⟨c, d, rfl⟩ <;> rcases h' with ⟨c', rfl⟩ | ⟨c', d', rfl⟩ | ⟨c', d', rfl⟩
  all_goals first | rfl | (exfalso; exact c c') | (exfalso; exact c' c) | (exfalso; exact d d') | (exfalso; exact d' d)
theorem Stp.le {M T k m p : Nat} {x : Int × Nat × Nat × Int} (h : Stp M T k m p x) (hp : p ≤ 8 * T) : x.2.1 ≤ 8 * T ∧ x.2.2.1 ≤ m := by
  have hg := getG_le M T p hp
  rcases h with ⟨a, rfl⟩ | ⟨a, b, rfl⟩ | ⟨a, b, rfl⟩ | ⟨a, b, y, hy, h⟩
  · exact ⟨hg, Nat.zero_le _⟩
  · exact ⟨hg, Nat.zero_le _⟩
  · exact ⟨hg, Nat.le_refl _⟩
  · have hl := hy.le hg
    rcases h with ⟨c, rfl⟩ | ⟨c, d, rfl⟩ | ⟨c, d, rfl⟩
    · exact ⟨hl, Nat.zero_le _⟩
    · exact ⟨hl, Nat.zero_le _⟩
    · exact ⟨hl, by show (getG M T p).1 - 1 ≤ m; omega⟩

/-- What Get answers of m numbers, with at most f runs. -/
def GRun (M T k : Nat) : Nat → Nat → Nat → (List Int × Int × Nat) → Prop
  | 0, m, p, r => m = 0 ∧ r = ([], 0, p)
  | f + 1, m, p, r => (m = 0 ∧ r = ([], 0, p)) ∨ (0 < m ∧ ∃ x, Stp M T k m p x ∧ ((x.1 ≠ 0 ∧ r = ([], x.1, x.2.1)) ∨ (x.1 = 0 ∧ x.2.2.1 = m ∧ r = (List.replicate m 0, 0, x.2.1)) ∨
      (x.1 = 0 ∧ x.2.2.1 < m ∧ ∃ s, GRun M T k f (m - x.2.2.1 - 1) x.2.1 s ∧ r = (if s.2.1 = 0 then List.replicate x.2.2.1 0 ++ x.2.2.2 :: s.1 else [], s.2.1, s.2.2))))
theorem GRun.one {M T k : Nat} : ∀ {f m p : Nat} {r r' : List Int × Int × Nat}, GRun M T k f m p r → GRun M T k f m p r' → r = r'
  | 0, _, _, _, _, ⟨_, h⟩, ⟨_, h'⟩ => h.trans h'.symm
  | f + 1, m, p, r, r', h, h' => by
    rcases h with ⟨a, rfl⟩ | ⟨a, x, hx, h⟩ <;> rcases h' with ⟨a', rfl⟩ | ⟨a', x', hx', h'⟩
    · rfl
    · omega
    · omega
    · obtain rfl := hx.one hx'
      rcases h with ⟨c, rfl⟩ | ⟨c, d, rfl⟩ | ⟨c, d, s, hs, rfl⟩ <;> rcases h' with ⟨c', rfl⟩ | ⟨c', d', rfl⟩ | ⟨c', d', s', hs', rfl⟩
      all_goals first | rfl | (exfalso; exact c c') | (exfalso; exact c' c) | (exfalso; omega) | skip
      obtain rfl := hs.one hs'
      rfl
theorem GRun.nil {M T k : Nat} : ∀ {f m p : Nat} {r : List Int × Int × Nat}, GRun M T k f m p r → r.2.1 ≠ 0 → r.1 = []
  | 0, _, _, _, ⟨_, h⟩, hr => by rw [h] at hr; exact absurd rfl hr
  | f + 1, m, p, r, h, hr => by
    rcases h with ⟨a, rfl⟩ | ⟨a, x, hx, h⟩
    · exact absurd rfl hr
    · rcases h with ⟨c, rfl⟩ | ⟨c, d, rfl⟩ | ⟨c, d, s, hs, rfl⟩
      · rfl
      · exact absurd rfl hr
      · show (if s.2.1 = 0 then _ else []) = []
        rw [if_neg hr]
theorem GRun.len {M T k : Nat} : ∀ {f m p : Nat} {r : List Int × Int × Nat}, GRun M T k f m p r → r.2.1 = 0 → r.1.length = m
  | 0, _, _, _, ⟨h0, h⟩, hr => by rw [h, h0]; rfl
  | f + 1, m, p, r, h, hr => by
    rcases h with ⟨a, rfl⟩ | ⟨a, x, hx, h⟩
    · rw [a]; rfl
    · rcases h with ⟨c, rfl⟩ | ⟨c, d, rfl⟩ | ⟨c, d, s, hs, rfl⟩
      · exact absurd hr c
      · simp
      · have hr2 : s.2.1 = 0 := hr
        have := hs.len hr2
        show (if s.2.1 = 0 then _ else []).length = m
        rw [if_pos hr2]
        simp only [List.length_append, List.length_replicate, List.length_cons]
        omega
/-- Some numbers, and what is read behind them. -/
def join (pre : List Int) (s : List Int × Int × Nat) : List Int × Int × Nat := (if s.2.1 = 0 then pre ++ s.1 else [], s.2.1, s.2.2)
def Pre (M T k n p0 : Nat) (pre : List Int) (f m p : Nat) : Prop := m ≤ f ∧ pre.length + m = n ∧ ∀ s, GRun M T k f m p s → GRun M T k n n p0 (join pre s)
theorem Pre.start (M T k n p0 : Nat) : Pre M T k n p0 [] n n p0 := by
  refine ⟨Nat.le_refl _, by simp, fun s h => ?_⟩
  have e : join [] s = s := by
    unfold join
    by_cases e : s.2.1 = 0
    · rw [if_pos e]; rfl
    · rw [if_neg e, ← h.nil e]
  rw [e]; exact h
theorem Pre.done {M T k n p0 : Nat} {pre : List Int} {f p : Nat} (h : Pre M T k n p0 pre f 0 p) : GRun M T k n n p0 (pre, 0, p) := by
  have := h.2.2 ([], 0, p) (by cases f with
    | zero => exact ⟨rfl, rfl⟩
    | succ f => exact .inl ⟨rfl, rfl⟩)
  unfold join at this
  simpa using this
theorem Pre.err {M T k n p0 : Nat} {pre : List Int} {f m p : Nat} (h : Pre M T k n p0 pre f m p) (hm : 0 < m) {x : Int × Nat × Nat × Int} (hx : Stp M T k m p x) (he : x.1 ≠ 0) : GRun M T k n n p0 ([], x.1, x.2.1) := by
  obtain ⟨h1, h2, h3⟩ := h
  obtain ⟨f', rfl⟩ : ∃ f', f = f' + 1 := ⟨f - 1, by omega⟩
  have := h3 ([], x.1, x.2.1) (.inr ⟨hm, x, hx, .inl ⟨he, rfl⟩⟩)
  unfold join at this
  rw [if_neg he] at this
  exact this
theorem Pre.last {M T k n p0 : Nat} {pre : List Int} {f m p : Nat} (h : Pre M T k n p0 pre f m p) (hm : 0 < m) {x : Int × Nat × Nat × Int} (hx : Stp M T k m p x) (he : x.1 = 0) (hz : x.2.2.1 = m) : GRun M T k n n p0 (pre ++ List.replicate m 0, 0, x.2.1) := by
  obtain ⟨h1, h2, h3⟩ := h
  obtain ⟨f', rfl⟩ : ∃ f', f = f' + 1 := ⟨f - 1, by omega⟩
  have := h3 (List.replicate m 0, 0, x.2.1) (.inr ⟨hm, x, hx, .inr (.inl ⟨he, hz, rfl⟩)⟩)
  unfold join at this
  simpa using this
theorem Pre.num {M T k n p0 : Nat} {pre : List Int} {f m p : Nat} (h : Pre M T k n p0 pre f m p) (hm : 0 < m) {x : Int × Nat × Nat × Int} (hx : Stp M T k m p x) (he : x.1 = 0) (hz : x.2.2.1 < m) : ∃ f', Pre M T k n p0 (pre ++ List.replicate x.2.2.1 0 ++ [x.2.2.2]) f' (m - x.2.2.1 - 1) x.2.1 := by
  obtain ⟨h1, h2, h3⟩ := h
  obtain ⟨f', rfl⟩ : ∃ f', f = f' + 1 := ⟨f - 1, by omega⟩
  refine ⟨f', by omega, by simp; omega, fun s hs => ?_⟩
  have := h3 _ (.inr ⟨hm, x, hx, .inr (.inr ⟨he, hz, s, hs, rfl⟩)⟩)
  unfold join at this ⊢
  by_cases e : s.2.1 = 0
  · rw [if_pos e]
    simp only [e, if_true] at this ⊢
    simpa using this
  · rw [if_neg e]
    simp only [e, if_false] at this ⊢
    exact this

/-- What one run leaves. -/
def GrPost (w : World) (q g0 M T p k g o m : Nat) (e : Ending) (w' : World) : Prop := ∃ x : Int × Nat × Nat × Int, Stp M T k m p x ∧
  ((x.1 ≠ 0 ∧ e = .returned (.tuple #[.slice none 0 0, .int .i64 x.1]) ∧ Rd w' q g0 M T x.2.1 ∧ Fr (fun b => b = q) w w') ∨
   (x.1 = 0 ∧ x.2.2.1 = m ∧ e = .returned (.tuple #[.slice none 0 0, .int .i64 0]) ∧ Rd w' q g0 M T x.2.1 ∧ Fr (fun b => b = q) w w') ∨
   (x.1 = 0 ∧ x.2.2.1 < m ∧ ∃ a' cap', e = .returned (.tuple #[.slice a' (m - x.2.2.1 - 1) cap', .int .i64 0]) ∧ (0 < m - x.2.2.1 - 1 → a' = some ⟨g, o + x.2.2.1 + 1, none⟩) ∧ m - x.2.2.1 - 1 ≤ cap' ∧ cap' ≤ 9223372036854775807 ∧
     ∃ w1, Rd w1 q g0 M T x.2.1 ∧ Fr (fun b => b = q) w w1 ∧ w' = w1.setCell ⟨g, o + x.2.2.1, none⟩ (.int .i64 x.2.2.2)))

set_option maxHeartbeats 3200000 in
set_option maxRecDepth 100000 in
theorem getrun_any {w : World} {q g0 M T p : Nat} (h : Rd w q g0 M T p) (hp : p ≤ 8 * T) (hT : T ≤ 1099511627776) (k : Nat) (hk : k ≤ 30) (g o m cap : Nat) (hm : 0 < m) (hmc : m ≤ cap) (hcc : cap ≤ 9223372036854775807) (hm2 : m ≤ 1048576) (hgq : g ≠ q)
    (hcell : ∀ i, i < m → w.cell? ⟨g, o + i, none⟩ = some (.int .i64 0)) (hfr : ∀ i, i < m → w.frozen? ⟨g, o + i, none⟩ = false) (hlt : g < w.heap.size) :
    Calls Try.prog 55 #[.pointer (some ⟨q, 0, none⟩), .slice (some ⟨g, o, none⟩) m cap, .int .i64 (k : Int)] w (GrPost w q g0 M T p k g o m) := by
  have hgl := getG_le M T p hp
  have HGG := hid (ggamma_any h hp hT)
  have HST : Hid (∀ x, Stp M T k m p x → Stp M T k m p x) := hid fun _ h => h
  have HOKG := hid fun v c => getG_ok (M := M) (T := T) (p := p) (v := v) (c := c)
  have HCL := hid hcell
  have HFL := hid hfr
  unfold Stp at HST
  clear h hcell hfr
  go_enter Try.func55, Try.ntmps55
  go_wp2_with fail
  refine Calls.mono HGG.out ?_
  rintro e w1 ⟨rfl, hr1, hf1⟩
  clear HGG
  generalize hgg : getG M T p = gg at *
  have HG := hid hgg
  clear hgg
  obtain ⟨v, er, c⟩ := gg
  simp only at hr1 hgl
  by_cases he : er = 0
  · subst he
    obtain ⟨hv0, hv1⟩ := HOKG.out v c rfl
    by_cases h1 : m < v - 1
    · have g1 : (m : Int) < (v : Int) - 1 := by omega
      have hx : GrPost w q g0 M T p k g o m (.returned (.tuple #[.slice none 0 0, .int .i64 12])) w1 := by
        refine ⟨(12, c, 0, 0), ?_, .inl ⟨show (12 : Int) ≠ 0 by decide, rfl, hr1, hf1⟩⟩
        unfold Stp; rw [HG.out]
        exact .inr (.inl ⟨rfl, h1, rfl⟩)
      clear hr1 hf1 HST HOKG
      go_wp2_with fail
      go_ret2
      exact hx
    · have g1 : ¬ (m : Int) < (v : Int) - 1 := by omega
      by_cases h2 : v - 1 = m
      · obtain rfl : v = m + 1 := by omega
        have hx : GrPost w q g0 M T p k g o m (.returned (.tuple #[.slice none 0 0, .int .i64 0])) w1 := by
          refine ⟨(0, c, m, 0), ?_, .inr (.inl ⟨rfl, rfl, rfl, hr1, hf1⟩)⟩
          unfold Stp; rw [HG.out]
          exact .inr (.inr (.inl ⟨rfl, by simp, rfl⟩))
        clear hr1 hf1 HST HOKG g1 h1 h2
        go_wp2_with fail
        all_goals
          go_ret2
          exact hx
      · obtain ⟨z, rfl⟩ : ∃ z, v = z + 1 := ⟨v - 1, by omega⟩
        have hzm : z < m := by omega
        have g2 : ((m : Int) - (z : Int) == 0) = false := beq_eq_false_iff_ne.2 (by omega)
        have g3 : (((m - z : Nat) : Int) == 0) = false := beq_eq_false_iff_ne.2 (by omega)
        have g4 : (m - z == 0) = false := beq_eq_false_iff_ne.2 (by omega)
        have HRG := hid (rice_get hr1 hgl hT k hk)
        clear hr1 h1 h2 HST HOKG g1 hv0
        go_wp2_with fail
        refine Calls.mono HRG.out ?_
        rintro e w2 ⟨⟨u, er, d⟩, hget, rfl, hr2, hf2⟩
        have hf3 := hf1.trans hf2
        have HGET := hid hget
        have hud : er = 0 → u < 1099511627776 := fun e => by subst e; exact (hget.coded hk).1
        clear HRG hf1 hf2 hget
        simp only at hr2
        by_cases he : er = 0
        · subst he
          have hub := hud rfl
          clear hud
          by_cases hbig : u = 1099511627775
          · subst hbig
            have hx : GrPost w q g0 M T p k g o m (.returned (.tuple #[.slice none 0 0, .int .i64 12])) w2 := by
              refine ⟨(12, d, 0, 0), ?_, .inl ⟨show (12 : Int) ≠ 0 by decide, rfl, hr2, hf3⟩⟩
              unfold Stp; rw [HG.out]
              exact .inr (.inr (.inr ⟨rfl, by simpa using hzm, _, HGET.out, .inr (.inl ⟨rfl, rfl, rfl⟩)⟩))
            have HIZ := hid fun ui (hu : ui = ((1099511627776 : Nat) : Int)) w => iszig ui 1099511627776 hu w
            have hdz : decide (coded 1099511627776) = false := by decide
            clear hr2 hf3
            go_wp2_with fail
            refine (HIZ.out _ (by omega) _).mono ?_
            rintro e w3 ⟨rfl, rfl⟩
            rw [hdz]
            go_wp2_with fail
            go_ret2
            exact hx
          · have HIZ := hid fun ui (hu : ui = ((u + 1 : Nat) : Int)) w => iszig ui (u + 1) hu w
            have HZA := hid fun ui (hu : ui = ((u + 1 : Nat) : Int)) w => zag_any ui (u + 1) hu (by omega) w
            have hdz : decide (coded (u + 1)) = true := decide_eq_true (show u + 1 < 1099511627776 by omega)
            have hstp : Stp M T k m p (0, d, z, zgi (u + 1)) := by
              unfold Stp; rw [HG.out]
              exact .inr (.inr (.inr ⟨rfl, by simpa using hzm, _, HGET.out, .inr (.inr ⟨rfl, hbig, by simp⟩)⟩))
            have HSTP := hid hstp
            have hcw : w2.cell? ⟨g, o + z, none⟩ = some (.int .i64 0) := (hf3.cell (p := ⟨g, o + z, none⟩) hlt hgq).trans (HCL.out z hzm)
            have hfw : w2.frozen? ⟨g, o + z, none⟩ = false := (hf3.frozen (p := ⟨g, o + z, none⟩) hlt hgq).trans (HFL.out z hzm)
            have HBIG := hid hbig
            clear hbig hstp HGET
            generalize zgi (u + 1) = x at *
            go_wp2_with fail
            refine (HIZ.out _ (by first | omega | (simp only [IntKind.wrap_u64]; omega)) _).mono ?_
            rintro e w3 ⟨rfl, rfl⟩
            rw [hdz]
            go_wp2_with fail
            refine (HZA.out _ (by first | omega | (simp only [IntKind.wrap_u64]; omega)) _).mono ?_
            rintro e w3 ⟨rfl, rfl⟩
            have hz1 : 1 ≤ m - z := by omega
            have hz2 : m - z ≤ cap - z := by omega
            go_wp2_with fail
            all_goals
              go_ret2
              refine ⟨(0, d, z, x), HSTP.out, .inr (.inr ⟨rfl, hzm, _, _, rfl, fun h => ?_, ?_, ?_, w2, hr2, hf3, rfl⟩)⟩
              · have h' : 0 < m - z - 1 := h
                first | rfl | (exfalso; omega)
              · show m - z - 1 ≤ _; omega
              · show _ ≤ 9223372036854775807; omega
        · have hne : (er != 0) = true := bne_iff_ne.2 he
          have hx : GrPost w q g0 M T p k g o m (.returned (.tuple #[.slice none 0 0, .int .i64 er])) w2 := by
            refine ⟨(er, d, 0, 0), ?_, .inl ⟨he, rfl, hr2, hf3⟩⟩
            unfold Stp; rw [HG.out]
            exact .inr (.inr (.inr ⟨rfl, by simpa using hzm, _, HGET.out, .inl ⟨he, rfl⟩⟩))
          clear hr2 hf3 he hud
          go_wp2_with fail
          go_ret2
          exact hx
  · have hne : (er != 0) = true := bne_iff_ne.2 he
    have hx : GrPost w q g0 M T p k g o m (.returned (.tuple #[.slice none 0 0, .int .i64 er])) w1 := by
      refine ⟨(er, c, 0, 0), ?_, .inl ⟨he, rfl, hr1, hf1⟩⟩
      unfold Stp; rw [HG.out]
      exact .inl ⟨he, rfl⟩
    clear hr1 hf1 he HST HOKG
    go_wp2_with fail
    go_ret2
    exact hx
end Go.Proofs.Ytleamamecgmmjaa.Runs
