/- Three parts of a right sound, joined, are the sound. Conditions: the sound is right, the cuts lie in it. -/
import Derived.Test.YtkdpalmdcnpnoaaKd
import Derived.Test.YtkdpalmdcnpnoaaWe
namespace Go.Proofs.Ytkdpalmdcnpnoaa.Pcm
open Go.RowKit Gen

set_option maxRecDepth 20000 in
theorem cnt_of {d : Dat} {L : Nat} (h0 : 0 < d.n) (hl : ∀ k, k < d.n → d.ln k = L) : d.cnt = L := by
  unfold Dat.cnt
  rw [if_neg (by omega)]
  exact hl 0 h0
set_option maxRecDepth 20000 in
theorem chk_of {d d' : Dat} (h : d.chk = 0) {L : Nat} (hf : d'.f = d.f) (hn : d'.n = d.n) (hl : ∀ k, k < d'.n → d'.ln k = L) (hL : L ≤ d.cnt) (hx : ∀ k m, k < d'.n → m < L → ∃ m', m' < d.cnt ∧ d'.X k m = d.X k m') : d'.chk = 0 := by
  have o := chk_ok h
  have hc : d'.cnt = L := cnt_of (by rw [hn]; exact o.2.2.2.1) hl
  unfold Dat.chk
  rw [if_neg (fun g => g (by rw [hf]; exact o.1)), if_neg, if_neg]
  · intro g
    obtain ⟨i, hi, g2⟩ := (any_iff _ _).1 g
    obtain ⟨j, hj, g3⟩ := (any_iff _ _).1 g2
    obtain ⟨m', hm', e⟩ := hx i j hi (by rw [← hl i hi]; exact hj)
    have hfar : d.far = true := (any_iff _ _).2 ⟨i, by rw [← hn]; exact hi, (any_iff _ _).2 ⟨m', by rw [o.2.2.2.2.2.1 i (by rw [← hn]; exact hi)]; exact hm', by rw [← hf, ← e]; exact g3⟩⟩
    rw [o.2.2.2.2.2.2] at hfar
    cases hfar
  · rintro (g | g | g)
    · exact g (by rw [hn, hf]; exact o.2.1)
    · have := o.2.2.2.2.1; omega
    · obtain ⟨i, hi, g2⟩ := (any_iff _ _).1 g
      exact bne_iff_ne.1 g2 (by rw [hl i hi, hc])
set_option maxRecDepth 20000 in
theorem both_0 {a b : Dat} (h : a.chk = 0) (h2 : b.chk = 0) (hf : a.f = b.f) : both a b = 0 := both_4 h h2 hf
set_option maxRecDepth 20000 in
theorem parts_same {d x s y : Dat} (h : d.chk = 0) {f t : Nat} (h1 : f ≤ t) (h2 : t ≤ d.cnt) (hx : CutOk d 0 (f : Int) x) (hs : CutOk d (f : Int) (t : Int) s) (hy : CutOk d (t : Int) (d.cnt : Int) y) :
    jcode x s = 0 ∧ ∀ z, Joined x s z → jcode z y = 0 ∧ ∀ v, Joined z y v → same v d = true := by
  have o := chk_ok h
  have h32 := o.2.2.2.2.1
  have h0 := o.2.2.2.1
  have lx : ∀ k, k < x.n → x.ln k = f := fun k hk => (hx.2.2 k hk).1.trans (by simp)
  have ls : ∀ k, k < s.n → s.ln k = t - f := fun k hk => (hs.2.2 k hk).1.trans (by simp)
  have ly : ∀ k, k < y.n → y.ln k = d.cnt - t := fun k hk => (hy.2.2 k hk).1.trans (by simp)
  have vx : ∀ k m, k < x.n → x.X k m = d.X k m := fun k m hk => by rw [(hx.2.2 k hk).2]; simp
  have vs : ∀ k m, k < s.n → s.X k m = d.X k (f + m) := fun k m hk => by rw [(hs.2.2 k hk).2]; simp
  have vy : ∀ k m, k < y.n → y.X k m = d.X k (t + m) := fun k m hk => by rw [(hy.2.2 k hk).2]; simp
  have kx := chk_of h hx.1 hx.2.1 lx (by omega) fun k m hk hm => ⟨m, by omega, vx k m hk⟩
  have ks := chk_of h hs.1 hs.2.1 ls (by omega) fun k m hk hm => ⟨f + m, by omega, vs k m hk⟩
  have ky := chk_of h hy.1 hy.2.1 ly (by omega) fun k m hk hm => ⟨t + m, by omega, vy k m hk⟩
  have cx := cnt_of (by rw [hx.2.1]; exact h0) lx
  have cs := cnt_of (by rw [hs.2.1]; exact h0) ls
  have cy := cnt_of (by rw [hy.2.1]; exact h0) ly
  refine ⟨jcode_3 (both_0 kx ks (hx.1.trans hs.1.symm)) (by omega), fun z hz => ?_⟩
  have nz : z.n = d.n := hz.2.1.trans hx.2.1
  have lz : ∀ k, k < z.n → z.ln k = t := fun k hk => by
    rw [(hz.2.2 k hk).1, lx k (by rw [hx.2.1, ← nz]; exact hk), ls k (by rw [hs.2.1, ← nz]; exact hk)]; omega
  have vz : ∀ k m, k < z.n → m < t → z.X k m = d.X k m := fun k m hk hm => by
    have hkx : k < x.n := by rw [hx.2.1, ← nz]; exact hk
    have hks : k < s.n := by rw [hs.2.1, ← nz]; exact hk
    rw [(hz.2.2 k hk).2, lx k hkx]
    unfold cat
    by_cases hm2 : m < f
    · rw [if_pos hm2]; exact vx k m hkx
    · rw [if_neg hm2, vs k _ hks, show f + (m - f) = m by omega]
  have fz : z.f = d.f := hz.1.trans hx.1
  have kz := chk_of h fz nz lz h2 fun k m hk hm => ⟨m, by omega, vz k m hk hm⟩
  have cz := cnt_of (by rw [nz]; exact h0) lz
  refine ⟨jcode_3 (both_0 kz ky (fz.trans hy.1.symm)) (by omega), fun v hv => ?_⟩
  have nv : v.n = d.n := hv.2.1.trans nz
  rw [same_yes (hv.1.trans fz)]
  refine eqS_all nv fun k hk => ?_
  have hkz : k < z.n := by rw [nz, ← nv]; exact hk
  have hky : k < y.n := by rw [hy.2.1, ← nv]; exact hk
  have lv : v.ln k = d.ln k := by
    rw [(hv.2.2 k hk).1, lz k hkz, ly k hky, o.2.2.2.2.2.1 k (by rw [← nv]; exact hk)]; omega
  unfold eqL
  rw [lv]
  refine eqI_all fun m hm => ?_
  rw [o.2.2.2.2.2.1 k (by rw [← nv]; exact hk)] at hm
  rw [(hv.2.2 k hk).2, lz k hkz]
  unfold cat
  by_cases hm2 : m < t
  · rw [if_pos hm2]; exact vz k m hkz hm2
  · rw [if_neg hm2, vy k _ hky, show t + (m - t) = m by omega]
set_option maxRecDepth 20000 in
theorem cuts_same {d i j : _} {s s' : Dat} (h : CutOk d i j s) (h' : CutOk d i j s') : same s s' = true := by
  rw [same_yes (h.1.trans h'.1.symm)]
  refine eqS_all (h.2.1.trans h'.2.1.symm) fun k hk => ?_
  obtain ⟨l, x⟩ := h.2.2 k hk
  obtain ⟨l', x'⟩ := h'.2.2 k (by rw [h'.2.1, ← h.2.1]; exact hk)
  unfold eqL
  rw [l, x, l', x']
  exact eqI_all fun _ _ => rfl
set_option maxRecDepth 20000 in
theorem ccode_ok {d : Dat} {i j : Int} (h : ccode d i j = 0) : d.chk = 0 ∧ 0 ≤ i ∧ i ≤ j ∧ j ≤ (d.cnt : Int) := by
  unfold ccode at h
  by_cases h1 : d.chk = 0
  · rw [if_neg (fun x => x h1)] at h
    by_cases h2 : i < 0 ∨ j < i ∨ (d.cnt : Int) < j
    · rw [if_pos h2] at h; cases h
    · exact ⟨h1, by omega, by omega, by omega⟩
  · rw [if_pos h1] at h; exact absurd h h1
end Go.Proofs.Ytkdpalmdcnpnoaa.Pcm
