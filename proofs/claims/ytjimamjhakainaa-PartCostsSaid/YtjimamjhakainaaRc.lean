/- codes: of a list it tells the numbers that have gamma codes, and those that have rice codes, to whatever is handed on. Conditions: those of the memory's own form alone. -/
import Derived.Test.YtjimamjhakainaaRb
import Derived.Test.YtjimamjhakainaaQc
import Derived.StillTailTactics
namespace Go.Proofs.Ytjimamjhakainaa.Runs
open Go.RowKit Bit Rice

theorem qt {P : Program} {f : FuncId} {args : Array Value} {w : World} {v : Value} (h : Calls P f args w fun e w' => e = .returned v ∧ w = w') : Calls P f args w fun e w' => e = .returned v ∧ w' = w :=
  h.mono fun _ _ ⟨a, b⟩ => ⟨a, b.symm⟩

theorem codes1_none (a' : Option Addr) (cap' : Nat) (p2 p3 : Value) (w : World) : Calls Try.prog 122 #[.int .i64 ((0 : Nat) : Int), .slice a' 0 cap', p2, p3] w fun e w' => e = .returned (.tuple #[]) ∧ w = w' := by
  go_enter Try.func122, Try.ntmps122
  go_wp2_with fail
  refine bodyPost_ret (results_none Try.results122 _ _ _) rfl ?_
  exact ⟨rfl, rfl⟩

theorem codes1_last (k : Nat) (hk : 0 < k) (hkb : k ≤ 9223372036854775807) (a' : Option Addr) (cap' : Nat) (p2 : Addr) (p3 : Value) (w : World) (kg : FuncId) (cg : Array Value) (hent : ∀ args w, (callFunc kg args).run Try.prog w = .ok (.enter kg args) w) (hc : w.cell? p2 = some (.func (.func kg) #[] cg)) (Q : World → Prop)
    (hg : ∀ x : Int, x = ((k + 1 : Nat) : Int) → Calls Try.prog kg (#[.int .u64 x] ++ cg) w fun e w' => e = .returned (.tuple #[]) ∧ Q w') :
    Calls Try.prog 122 #[.int .i64 ((k : Nat) : Int), .slice a' 0 cap', .pointer (some p2), p3] w fun e w' => e = .returned (.tuple #[]) ∧ Q w' := by
  have HG := hid hg
  have hk0 : (((k : Nat) : Int) == 0) = false := beq_eq_false_iff_ne.2 (by omega)
  clear hg
  go_enter Try.func122, Try.ntmps122
  go_wp2_with fail
  refine Calls.mono (HG.out _ (by omega)) ?_
  rintro e w1 ⟨rfl, hq⟩
  clear hc
  go_wp2_with fail
  go_end0
  exact ⟨rfl, hq⟩

set_option maxRecDepth 100000 in
theorem codes1_step (k n b off cap' : Nat) (hn : 0 < n) (hkb : k ≤ 9223372036854775807) (x : Int) (hx : -9223372036854775808 ≤ x ∧ x ≤ 9223372036854775807) (hx0 : x ≠ 0) (p2 p3 : Addr) (w : World) (kg kr : FuncId) (cg cr : Array Value)
    (hentg : ∀ args w, (callFunc kg args).run Try.prog w = .ok (.enter kg args) w) (hentr : ∀ args w, (callFunc kr args).run Try.prog w = .ok (.enter kr args) w) (hc : w.cell? p2 = some (.func (.func kg) #[] cg)) (Md Q : World → Prop)
    (hg : ∀ x : Int, x = ((k + 1 : Nat) : Int) → Calls Try.prog kg (#[.int .u64 x] ++ cg) w fun e w' => e = .returned (.tuple #[]) ∧ Md w')
    (hm : ∀ w1, Md w1 → w1.cell? p3 = some (.func (.func kr) #[] cr) ∧ w1.cell? ⟨b, off, none⟩ = some (.int .i64 x) ∧ Md w1.drew)
    (hr : ∀ w1 (y : Int), Md w1 → y = ((zg x - 1 : Nat) : Int) → Calls Try.prog kr (#[.int .u64 y] ++ cr) w1 fun e w' => e = .returned (.tuple #[]) ∧ Q w') :
    Calls Try.prog 122 #[.int .i64 ((k : Nat) : Int), .slice (some ⟨b, off, none⟩) n cap', .pointer (some p2), .pointer (some p3)] w fun e w' => e = .returned (.tuple #[]) ∧ Q w' := by
  have HG := hid hg; have HM := hid hm; have HR := hid hr
  have hn1 : ((n : Int) == 0) = false := beq_eq_false_iff_ne.2 (by omega)
  have hn2 : (0 : Int) < (n : Int) := by omega
  have hzp := zg_pos hx0
  have hzl := zg_lt hx
  have HZ := hid fun w => qt (zig_any x hx w)
  clear hg hm hr
  have step : ∀ w1, Md w1 → (w1.cell? p3 = some (.func (.func kr) #[] cr) ∧ w1.cell? ⟨b, off, none⟩ = some (.int .i64 x) ∧ Md w1.drew) := HM.out
  by_cases hk0 : k = 0
  · subst hk0
    go_enter Try.func122, Try.ntmps122
    go_wp2_with fail
    refine Calls.mono (HG.out _ (by omega)) ?_
    rintro e w1 ⟨rfl, hmd⟩
    obtain ⟨c3, cb, hmd2⟩ := HM.out w1 hmd
    clear hc hmd step
    generalize zg x = u at *
    go_wp2_with fail
    go_still_tail 6, (by kernel_rfl)
    still_call (HZ.out _)
    repeat still_step
    refine wpStill_nil ?_
    change wpList _ _ _ _ _ w1.drew
    clear c3 cb
    go_wp2_with fail
    refine Calls.mono (HR.out _ _ hmd2 (by omega)) ?_
    rintro e w2 ⟨rfl, hq⟩
    go_wp2_with fail
    go_end0
    exact ⟨rfl, hq⟩
  · have hk1 : (((k : Nat) : Int) == 0) = false := beq_eq_false_iff_ne.2 (by omega)
    go_enter Try.func122, Try.ntmps122
    go_wp2_with fail
    refine Calls.mono (HG.out _ (by omega)) ?_
    rintro e w1 ⟨rfl, hmd⟩
    obtain ⟨c3, cb, hmd2⟩ := HM.out w1 hmd
    clear hc hmd step
    generalize zg x = u at *
    go_wp2_with fail
    go_still_tail 6, (by kernel_rfl)
    still_call (HZ.out _)
    repeat still_step
    refine wpStill_nil ?_
    change wpList _ _ _ _ _ w1.drew
    clear c3 cb
    go_wp2_with fail
    refine Calls.mono (HR.out _ _ hmd2 (by omega)) ?_
    rintro e w2 ⟨rfl, hq⟩
    go_wp2_with fail
    go_end0
    exact ⟨rfl, hq⟩

/-- The boxes of what is handed on. -/
def boxes (w : World) (fg fr : Value) : World := (w.alloc (.cells #[fg] 110)).alloc (.cells #[fr] 110)
theorem boxes_below (w : World) (fg fr : Value) : Below w.heap.size w (boxes w fg fr) := ((Below.refl _ _).alloc (Nat.le_refl _) _).alloc (by simp) _
theorem boxes_size (w : World) (fg fr : Value) : (boxes w fg fr).heap.size = w.heap.size + 2 := by simp [boxes]
theorem boxes_g (w : World) (fg fr : Value) : (boxes w fg fr).cell? ⟨w.heap.size, 0, none⟩ = some fg := by
  unfold boxes
  rw [World.cell?_of_block (RowKit.Below.heap_alloc _ _ _ (by simp))]; simp
theorem boxes_r (w : World) (fg fr : Value) : (boxes w fg fr).cell? ⟨w.heap.size + 1, 0, none⟩ = some fr := by
  unfold boxes
  have hz : (w.alloc (.cells #[fg] 110)).heap.size = w.heap.size + 1 := by simp
  rw [← hz]; simp

theorem codes_any (kg kr : FuncId) (cg cr : Array Value) (hentg : ∀ args w, (callFunc kg args).run Try.prog w = .ok (.enter kg args) w) (hentr : ∀ args w, (callFunc kr args).run Try.prog w = .ok (.enter kr args) w)
    (w : World) (a : Option Addr) (len cap b off : Nat) (I : Nat → Int) (Q : World → Prop) (St : Nat → World → Prop) (Md : Nat → Nat → World → Prop) (X : Nat → Prop) (h : Is w a len cap b off I)
    (hX : ∀ g, X g → g < w.heap.size) (hXb : 0 < len → ¬ X b)
    (h0 : St 0 (boxes w (.func (.func kg) #[] cg) (.func (.func kr) #[] cr)))
    (hSX : ∀ o wr, St o wr → Fr X (boxes w (.func (.func kg) #[] cg) (.func (.func kr) #[] cr)) wr)
    (hMX : ∀ o k wr, Md o k wr → Fr X (boxes w (.func (.func kg) #[] cg) (.func (.func kr) #[] cr)) wr)
    (hMd : ∀ o k wr, Md o k wr → Md o k wr.drew)
    (hgam : ∀ o k wr (x : Int), o + k ≤ len → (∀ i, i < k → I (o + i) = 0) → (0 < k ∨ o + k < len) → St o wr → x = ((k + 1 : Nat) : Int) → Calls Try.prog kg (#[.int .u64 x] ++ cg) wr fun e w' => e = .returned (.tuple #[]) ∧ Md o k w')
    (hrest : ∀ o k wr (y : Int), o + k < len → (∀ i, i < k → I (o + i) = 0) → I (o + k) ≠ 0 → Md o k wr → y = ((zg (I (o + k)) - 1 : Nat) : Int) → Calls Try.prog kr (#[.int .u64 y] ++ cr) wr fun e w' => e = .returned (.tuple #[]) ∧ St (o + k + 1) w')
    (hend : ∀ wr, St len wr → Q wr) (hendM : ∀ o k wr, o + k = len → (∀ i, i < k → I (o + i) = 0) → 0 < k → Md o k wr → Q wr) :
    Calls Try.prog 105 #[.slice a len cap, .func (.func kg) #[] cg, .func (.func kr) #[] cr] w fun e w' => e = .returned (.tuple #[]) ∧ Q w' := by
  have hbg := boxes_g w (.func (.func kg) #[] cg) (.func (.func kr) #[] cr)
  have hbr := boxes_r w (.func (.func kg) #[] cg) (.func (.func kr) #[] cr)
  have hbs := boxes_size w (.func (.func kg) #[] cg) (.func (.func kr) #[] cr)
  have h1 := h.below (boxes_below w (.func (.func kg) #[] cg) (.func (.func kr) #[] cr)) h.lt
  have hea := each_any 122 #[.pointer (some ⟨w.heap.size, 0, none⟩), .pointer (some ⟨w.heap.size + 1, 0, none⟩)] (fun args w => Try.call122 args w) (boxes w (.func (.func kg) #[] cg) (.func (.func kr) #[] cr)) a len cap b off I Q St h1 h0
    (fun o wr hs => h1.fr (hSX o wr hs) hXb)
    (fun o k wr v hlt hz hnz hs ⟨a', cap', hv, ha', hlc, _⟩ => by
      subst hv
      obtain rfl := ha' (by omega)
      have hf := hSX o wr hs
      have his := h1.fr hf hXb
      have := h.hl; have := h.hc
      exact codes1_step k (len - (o + k)) b (off + (o + k)) cap' (by omega) (by omega) (I (o + k)) (h.ib (o + k) hlt) hnz _ _ wr kg kr cg cr hentg hentr
        ((hf.cell (p := ⟨w.heap.size, 0, none⟩) (by show w.heap.size < _; omega) (fun hx => by have := hX _ hx; exact absurd this (Nat.lt_irrefl _))).trans hbg) (Md o k) (St (o + k + 1))
        (fun x hx => hgam o k wr x (by omega) hz (.inr hlt) hs hx)
        (fun w1 hm => ⟨((hMX o k w1 hm).cell (p := ⟨w.heap.size + 1, 0, none⟩) (by show w.heap.size + 1 < _; omega) (fun hx => by have : w.heap.size + 1 < w.heap.size := hX _ hx; omega)).trans hbr,
          (h1.fr (hMX o k w1 hm) hXb).c (o + k) hlt, hMd o k w1 hm⟩)
        (fun w1 y hm hy => hrest o k w1 y hlt hz hnz hm hy))
    (fun o k wr v hlt hz hs ⟨a', cap', hv, _, hlc, _⟩ => by
      subst hv
      rw [show len - (o + k) = 0 from by omega]
      have hf := hSX o wr hs
      have := h.hl; have := h.hc
      by_cases hk : k = 0
      · subst hk
        refine (codes1_none a' cap' _ _ wr).mono ?_
        rintro e w' ⟨rfl, rfl⟩
        exact ⟨rfl, hend wr (by rw [← hlt]; exact hs)⟩
      · exact codes1_last k (by omega) (by omega) a' cap' _ _ wr kg cg hentg ((hf.cell (p := ⟨w.heap.size, 0, none⟩) (by show w.heap.size < _; omega) (fun hx => by have := hX _ hx; exact absurd this (Nat.lt_irrefl _))).trans hbg) Q
          (fun x hx => (hgam o k wr x (by omega) hz (.inl (by omega)) hs hx).mono fun e w' ⟨he, hm⟩ => ⟨he, hendM o k w' hlt hz (by omega) hm⟩))
  have HEA := hid hea
  clear hea h0 hSX hMX hMd hgam hrest hend hendM h h1 hbg hbr hbs
  go_enter Try.func105, Try.ntmps105
  go_wp2_with fail
  refine Calls.mono HEA.out ?_
  rintro e w1 ⟨rfl, hq⟩
  go_wp2_with fail
  go_end0
  exact ⟨rfl, hq⟩
end Go.Proofs.Ytjimamjhakainaa.Runs
