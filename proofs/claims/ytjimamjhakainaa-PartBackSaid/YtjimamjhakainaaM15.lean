/- codes: of a list it tells the numbers that have gamma codes, and those that have rice codes, to whatever is handed on. Conditions: those of the memory's own form alone. -/
import Derived.Test.YtjimamjhakainaaSRb
import Derived.Test.YtjimamjhakainaaSQc
import Derived.StillTailTactics
namespace Go.Proofs.Ytjimamjhakainaa.Runs
open Go.RowKit Bit Rice

theorem qt {P : Program} {f : FuncId} {args : Array Value} {w : World} {v : Value} (h : Calls P f args w fun e w' => e = .returned v ∧ w = w') : Calls P f args w fun e w' => e = .returned v ∧ w' = w :=
  h.mono fun _ _ ⟨a, b⟩ => ⟨a, b.symm⟩

theorem codes1_none (a' : Option Addr) (cap' : Nat) (p2 p3 : Value) (w : World) : Calls Try.prog 122 #[.int .i64 ((0 : Nat) : Int), .slice a' 0 cap', p2, p3] w fun e w' => e = .returned (.tuple #[]) ∧ w = w' := by
  go_enter Try.func122, Try.ntmps122
  go_wp2_with fail
  refine bodyPost_ret (results_none Try.results122 _ _ _) rfl ?_
  exact ⟨rfl, rfl⟩

theorem codes1_last (k : Nat) (hk : 0 < k) (hkb : k ≤ 9223372036854775807) (a' : Option Addr) (cap' : Nat) (p2 : Addr) (p3 : Value) (w : World) (kg : FuncId) (cg : Array Value) (hent : ∀ args w, (callFunc kg args).run Try.prog w = .ok (.enter kg args) w) (hc : w.cell? p2 = some (.func (.func kg) #[] cg)) (Q : World → Prop)
    (hg : ∀ x : Int, x = ((k + 1 : Nat) : Int) → Calls Try.prog kg (#[.int .u64 x] ++ cg) w fun e w' => e = .returned (.tuple #[]) ∧ Q w') :
    Calls Try.prog 122 #[.int .i64 ((k : Nat) : Int), .slice a' 0 cap', .pointer (some p2), p3] w fun e w' => e = .returned (.tuple #[]) ∧ Q w' := by
  have HG := hid hg
  have hk0 : (((k : Nat) : Int) == 0) = false := beq_eq_false_iff_ne.2 (by omega)
  clear hg
  go_enter Try.func122, Try.ntmps122
  go_wp2_with fail
  refine Calls.mono (HG.out _ (by omega)) ?_
  rintro e w1 ⟨rfl, hq⟩
  clear hc
  go_wp2_with fail
  go_end0
  exact ⟨rfl, hq⟩

set_option maxRecDepth 100000 in
theorem codes1_step (k n b off cap' : Nat) (hn : 0 < n) (hkb : k ≤ 9223372036854775807) (x : Int) (hx : -9223372036854775808 ≤ x ∧ x ≤ 9223372036854775807) (hx0 : x ≠ 0) (p2 p3 : Addr) (w : World) (kg kr : FuncId) (cg cr : Array Value)
    (hentg : ∀ args w, (callFunc kg args).run Try.prog w = .ok (.enter kg args) w) (hentr : ∀ args w, (callFunc kr args).run Try.prog w = .ok (.enter kr args) w) (hc : w.cell? p2 = some (.func (.func kg) #[] cg)) (Md Q : World → Prop)
    (hg : ∀ x : Int, x = ((k + 1 : Nat) : Int) → Calls Try.prog kg (#[.int .u64 x] ++ cg) w fun e w' => e = .returned (.tuple #[]) ∧ Md w')
    (hm : ∀ w1, Md w1 → w1.cell? p3 = some (.func (.func kr) #[] cr) ∧ w1.cell? ⟨b, off, none⟩ = some (.int .i64 x) ∧ Md w1.drew)
    (hr : ∀ w1 (y : Int), Md w1 → y = ((zg x - 1 : Nat) : Int) → Calls Try.prog kr (#[.int .u64 y] ++ cr) w1 fun e w' => e = .returned (.tuple #[]) ∧ Q w') :
    Calls Try.prog 122 #[.int .i64 ((k : Nat) : Int), .slice (some ⟨b, off, none⟩) n cap', .pointer (some p2), .pointer (some p3)] w fun e w' => e = .returned (.tuple #[]) ∧ Q w' := by
  have HG := hid hg; have HM := hid hm; have HR := hid hr
  have hn1 : ((n : Int) == 0) = false := beq_eq_false_iff_ne.2 (by omega)
  have hn2 : (0 : Int) < (n : Int) := by omega
  have hzp := zg_pos hx0
  have hzl := zg_lt hx
  have HZ := hid fun w => qt (zig_any x hx w)
  clear hg hm hr
  have step : ∀ w1, Md w1 → (w1.cell? p3 = some (.func (.func kr) #[] cr) ∧ w1.cell? ⟨b, off, none⟩ = some (.int .i64 x) ∧ Md w1.drew) := HM.out
  by_cases hk0 : k = 0
  · subst hk0
    go_enter Try.func122, Try.ntmps122
    go_wp2_with fail
    refine Calls.mono (HG.out _ (by omega)) ?_
    rintro e w1 ⟨rfl, hmd⟩
    obtain ⟨c3, cb, hmd2⟩ := HM.out w1 hmd
    clear hc hmd step
    generalize zg x = u at *
    go_wp2_with fail
    go_still_tail 6, (by kernel_rfl)
    still_call (HZ.out _)
    repeat still_step
    refine wpStill_nil ?_
    change wpList _ _ _ _ _ w1.drew
    clear c3 cb
    go_wp2_with fail
    refine Calls.mono (HR.out _ _ hmd2 (by omega)) ?_
    rintro e w2 ⟨rfl, hq⟩
    go_wp2_with fail
    go_end0
    exact ⟨rfl, hq⟩
  · have hk1 : (((k : Nat) : Int) == 0) = false := beq_eq_false_iff_ne.2 (by omega)
    go_enter Try.func122, Try.ntmps122
    go_wp2_with fail
    refine Calls.mono (HG.out _ (by omega)) ?_
    rintro e w1 ⟨rfl, hmd⟩
    obtain ⟨c3, cb, hmd2⟩ := HM.out w1 hmd
    clear hc hmd step
    generalize zg x = u at *
    go_wp2_with fail
    go_still_tail 6, (by kernel_rfl)
    still_call (HZ.out _)
    repeat still_step
    refine wpStill_nil ?_
    change wpList _ _ _ _ _ w1.drew
    clear c3 cb
    go_wp2_with fail
    refine Calls.mono (HR.out _ _ hmd2 (by omega)) ?_
    rintro e w2 ⟨rfl, hq⟩
    go_wp2_with fail
    go_end0
    exact ⟨rfl, hq⟩

/-- The boxes of what is handed on. -/
def boxes (w : World) (fg fr : Value) : World := (w.alloc (.cells #[fg] 110)).alloc (.cells #[fr] 110)
theorem boxes_below (w : World) (fg fr : Value) : Below w.heap.size w (boxes w fg fr) := ((Below.refl _ _).alloc (Nat.le_refl _) _).alloc (by simp) _
theorem boxes_size (w : World) (fg fr : Value) : (boxes w fg fr).heap.size = w.heap.size + 2 := by simp [boxes]
theorem boxes_g (w : World) (fg fr : Value) : (boxes w fg fr).cell? ⟨w.heap.size, 0, none⟩ = some fg := by
  unfold boxes
  rw [World.cell?_of_block (RowKit.Below.heap_alloc _ _ _ (by simp))]; simp
theorem boxes_r (w : World) (fg fr : Value) : (boxes w fg fr).cell? ⟨w.heap.size + 1, 0, none⟩ = some fr := by
  unfold boxes
  have hz : (w.alloc (.cells #[fg] 110)).heap.size = w.heap.size + 1 := by simp
  rw [← hz]; simp

theorem codes_any (kg kr : FuncId) (cg cr : Array Value) (hentg : ∀ args w, (callFunc kg args).run Try.prog w = .ok (.enter kg args) w) (hentr : ∀ args w, (callFunc kr args).run Try.prog w = .ok (.enter kr args) w)
    (w : World) (a : Option Addr) (len cap b off : Nat) (I : Nat → Int) (Q : World → Prop) (St : Nat → World → Prop) (Md : Nat → Nat → World → Prop) (X : Nat → Prop) (h : Is w a len cap b off I)
    (hX : ∀ g, X g → g < w.heap.size) (hXb : 0 < len → ¬ X b)
    (h0 : St 0 (boxes w (.func (.func kg) #[] cg) (.func (.func kr) #[] cr)))
    (hSX : ∀ o wr, St o wr → Fr X (boxes w (.func (.func kg) #[] cg) (.func (.func kr) #[] cr)) wr)
    (hMX : ∀ o k wr, Md o k wr → Fr X (boxes w (.func (.func kg) #[] cg) (.func (.func kr) #[] cr)) wr)
    (hMd : ∀ o k wr, Md o k wr → Md o k wr.drew)
    (hgam : ∀ o k wr (x : Int), o + k ≤ len → (∀ i, i < k → I (o + i) = 0) → (0 < k ∨ o + k < len) → St o wr → x = ((k + 1 : Nat) : Int) → Calls Try.prog kg (#[.int .u64 x] ++ cg) wr fun e w' => e = .returned (.tuple #[]) ∧ Md o k w')
    (hrest : ∀ o k wr (y : Int), o + k < len → (∀ i, i < k → I (o + i) = 0) → I (o + k) ≠ 0 → Md o k wr → y = ((zg (I (o + k)) - 1 : Nat) : Int) → Calls Try.prog kr (#[.int .u64 y] ++ cr) wr fun e w' => e = .returned (.tuple #[]) ∧ St (o + k + 1) w')
    (hend : ∀ wr, St len wr → Q wr) (hendM : ∀ o k wr, o + k = len → (∀ i, i < k → I (o + i) = 0) → 0 < k → Md o k wr → Q wr) :
    Calls Try.prog 105 #[.slice a len cap, .func (.func kg) #[] cg, .func (.func kr) #[] cr] w fun e w' => e = .returned (.tuple #[]) ∧ Q w' := by
  have hbg := boxes_g w (.func (.func kg) #[] cg) (.func (.func kr) #[] cr)
  have hbr := boxes_r w (.func (.func kg) #[] cg) (.func (.func kr) #[] cr)
  have hbs := boxes_size w (.func (.func kg) #[] cg) (.func (.func kr) #[] cr)
  have h1 := h.below (boxes_below w (.func (.func kg) #[] cg) (.func (.func kr) #[] cr)) h.lt
  have hea := each_any 122 #[.pointer (some ⟨w.heap.size, 0, none⟩), .pointer (some ⟨w.heap.size + 1, 0, none⟩)] (fun args w => Try.call122 args w) (boxes w (.func (.func kg) #[] cg) (.func (.func kr) #[] cr)) a len cap b off I Q St h1 h0
    (fun o wr hs => h1.fr (hSX o wr hs) hXb)
    (fun o k wr v hlt hz hnz hs ⟨a', cap', hv, ha', hlc, _⟩ => by
      subst hv
      obtain rfl := ha' (by omega)
      have hf := hSX o wr hs
      have his := h1.fr hf hXb
      have := h.hl; have := h.hc
      exact codes1_step k (len - (o + k)) b (off + (o + k)) cap' (by omega) (by omega) (I (o + k)) (h.ib (o + k) hlt) hnz _ _ wr kg kr cg cr hentg hentr
        ((hf.cell (p := ⟨w.heap.size, 0, none⟩) (by show w.heap.size < _; omega) (fun hx => by have := hX _ hx; exact absurd this (Nat.lt_irrefl _))).trans hbg) (Md o k) (St (o + k + 1))
        (fun x hx => hgam o k wr x (by omega) hz (.inr hlt) hs hx)
        (fun w1 hm => ⟨((hMX o k w1 hm).cell (p := ⟨w.heap.size + 1, 0, none⟩) (by show w.heap.size + 1 < _; omega) (fun hx => by have : w.heap.size + 1 < w.heap.size := hX _ hx; omega)).trans hbr,
          (h1.fr (hMX o k w1 hm) hXb).c (o + k) hlt, hMd o k w1 hm⟩)
        (fun w1 y hm hy => hrest o k w1 y hlt hz hnz hm hy))
    (fun o k wr v hlt hz hs ⟨a', cap', hv, _, hlc, _⟩ => by
      subst hv
      rw [show len - (o + k) = 0 from by omega]
      have hf := hSX o wr hs
      have := h.hl; have := h.hc
      by_cases hk : k = 0
      · subst hk
        refine (codes1_none a' cap' _ _ wr).mono ?_
        rintro e w' ⟨rfl, rfl⟩
        exact ⟨rfl, hend wr (by rw [← hlt]; exact hs)⟩
      · exact codes1_last k (by omega) (by omega) a' cap' _ _ wr kg cg hentg ((hf.cell (p := ⟨w.heap.size, 0, none⟩) (by show w.heap.size < _; omega) (fun hx => by have := hX _ hx; exact absurd this (Nat.lt_irrefl _))).trans hbg) Q
          (fun x hx => (hgam o k wr x (by omega) hz (.inl (by omega)) hs hx).mono fun e w' ⟨he, hm⟩ => ⟨he, hendM o k w' hlt hz (by omega) hm⟩))
  have HEA := hid hea
  clear hea h0 hSX hMX hMd hgam hrest hend hendM h h1 hbg hbr hbs
  go_enter Try.func105, Try.ntmps105
  go_wp2_with fail
  refine Calls.mono HEA.out ?_
  rintro e w1 ⟨rfl, hq⟩
  go_wp2_with fail
  go_end0
  exact ⟨rfl, hq⟩
end Go.Proofs.Ytjimamjhakainaa.Runs
/- Put of runs: what it answers, what the writer has behind it, and that nothing else has turned; the statements' fixed calls; RunsNil's walk. Conditions: those of the memory's own form alone. -/
namespace Go.Proofs.Ytjimamjhakainaa.Runs
open Go.RowKit Bit Rice

/-- How many noughts stand at the end of the first i numbers. -/
def rn (I : Nat → Int) : Nat → Nat
  | 0 => 0
  | i + 1 => if I i = 0 then rn I i + 1 else 0
theorem rn_le (I : Nat → Int) : ∀ i, rn I i ≤ i
  | 0 => Nat.le_refl _
  | i + 1 => by have := rn_le I i; show (if I i = 0 then _ else _) ≤ _; split <;> omega
/-- Some bits behind some. -/
def app (p : Nat × Nat) (v l : Nat) : Nat × Nat := (p.1 * 2 ^ l + v, p.2 + l)
/-- A gamma code behind some bits; none, if there is none. -/
def gam (p : Nat × Nat) (v : Nat) : Nat × Nat := app p v (gl v)
/-- The codes of the first i numbers, but for the noughts at their end. -/
def cgd (I : Nat → Int) (k : Nat) (p : Nat × Nat) : Nat → Nat × Nat
  | 0 => p
  | i + 1 => if I i = 0 then cgd I k p i else app (gam (cgd I k p i) (rn I i + 1)) (cod (zg (I i) - 1) k) (cost (zg (I i) - 1) k)
/-- A list's code. -/
def cfin (I : Nat → Int) (k : Nat) (p : Nat × Nat) (len : Nat) : Nat × Nat := if 0 < rn I len then gam (cgd I k p len) (rn I len + 1) else cgd I k p len
theorem gam_len (p : Nat × Nat) (v : Nat) : p.2 ≤ (gam p v).2 ∧ (gam p v).2 ≤ p.2 + 63 := by
  have := gl_le v
  show p.2 ≤ p.2 + gl v ∧ p.2 + gl v ≤ _
  omega
theorem cgd_le (I : Nat → Int) (k : Nat) (p : Nat × Nat) : ∀ i, p.2 ≤ (cgd I k p i).2 ∧ (cgd I k p i).2 ≤ p.2 + 127 * i
  | 0 => ⟨Nat.le_refl _, Nat.le_refl _⟩
  | i + 1 => by
    have h := cgd_le I k p i
    have h1 := gam_len (cgd I k p i) (rn I i + 1)
    have h2 := cost_le (zg (I i) - 1) k
    show p.2 ≤ (if I i = 0 then _ else _ : Nat × Nat).2 ∧ (if I i = 0 then _ else _ : Nat × Nat).2 ≤ _
    split
    · omega
    · show p.2 ≤ (gam (cgd I k p i) (rn I i + 1)).2 + _ ∧ (gam (cgd I k p i) (rn I i + 1)).2 + _ ≤ _
      omega
theorem cfin_le (I : Nat → Int) (k : Nat) (p : Nat × Nat) (len : Nat) : p.2 ≤ (cfin I k p len).2 ∧ (cfin I k p len).2 ≤ p.2 + 127 * len + 63 := by
  have h := cgd_le I k p len
  have h1 := gam_len (cgd I k p len) (rn I len + 1)
  unfold cfin
  split <;> omega
/-- Noughts behind a place. -/
theorem runs_zero {I : Nat → Int} {kp : Nat} {p : Nat × Nat} {o : Nat} (h0 : rn I o = 0) : ∀ k, (∀ i, i < k → I (o + i) = 0) → rn I (o + k) = k ∧ cgd I kp p (o + k) = cgd I kp p o
  | 0, _ => ⟨h0, rfl⟩
  | k + 1, h => by
    obtain ⟨h1, h2⟩ := runs_zero (kp := kp) (p := p) h0 k fun i hi => h i (by omega)
    have hz := h k (by omega)
    refine ⟨?_, ?_⟩
    · show (if I (o + k) = 0 then rn I (o + k) + 1 else 0) = _
      rw [if_pos hz, h1]
    · show (if I (o + k) = 0 then cgd I kp p (o + k) else _) = _
      rw [if_pos hz, h2]
theorem runs_next {I : Nat → Int} {kp : Nat} {p : Nat × Nat} {o k : Nat} (h0 : rn I o = 0) (h : ∀ i, i < k → I (o + i) = 0) (hn : I (o + k) ≠ 0) :
    rn I (o + k + 1) = 0 ∧ cgd I kp p (o + k + 1) = app (gam (cgd I kp p o) (k + 1)) (cod (zg (I (o + k)) - 1) kp) (cost (zg (I (o + k)) - 1) kp) := by
  obtain ⟨h1, h2⟩ := runs_zero (kp := kp) (p := p) h0 k h
  refine ⟨if_neg hn, ?_⟩
  show (if I (o + k) = 0 then _ else app (gam (cgd I kp p (o + k)) (rn I (o + k) + 1)) _ _) = _
  rw [if_neg hn, h1, h2]

theorem isparr (k : Int) (w : World) : Calls Try.prog 104 #[.int .i64 k] w fun e w' => e = .returned (.bool (decide (okK k))) ∧ w = w' := by
  by_cases h0 : 0 ≤ k
  · by_cases h1 : k ≤ 30
    · rw [decide_eq_true (show okK k from ⟨h0, h1⟩)]
      go_enter Try.func104, Try.ntmps104
      go_wp2
      go_ret
      exact ⟨by simp, rfl⟩
    · rw [decide_eq_false (fun h : okK k => h1 h.2)]
      go_enter Try.func104, Try.ntmps104
      go_wp2
      go_ret
      exact ⟨by simp, rfl⟩
  · rw [decide_eq_false (fun h : okK k => h0 h.1)]
    go_enter Try.func104, Try.ntmps104
    go_wp2
    go_ret
    exact ⟨by simp, rfl⟩

set_option maxRecDepth 100000 in
theorem put1_any (B p o : Nat) (x : Int) (v : Nat) (hx : x = (v : Int)) (hv : hg v) (ao : Option Addr) (cap N L : Nat) (w : World) (hw : WrN w B p o ao cap N L) (ad : Addr) (hc : w.cell? ad = some (.pointer (some ⟨p, o, none⟩))) (hL : L ≤ 7000000000000) :
    Calls Try.prog 106 #[.int .u64 x, .pointer (some ad)] w fun e w' => e = .returned (.tuple #[]) ∧ ∃ ao' cap', WrN w' B p o ao' cap' (N * 2 ^ gl v + v) (L + gl v) ∧ Pushed w w' p ao ao' (L / 8) := by
  subst hx
  have hp := pgamma_ok B p o (v : Int) v rfl hv ao cap N L w hw hL
  generalize gl v = g at *
  have HP := hid hp
  clear hv hp
  go_enter Try.func106, Try.ntmps106
  go_wp2_with fail
  refine Calls.mono HP.out ?_
  rintro e w1 ⟨rfl, ao1, cap1, h1, h2⟩
  clear hw hc
  go_wp2_with fail
  go_end0
  exact ⟨rfl, ao1, cap1, h1, h2⟩
set_option maxRecDepth 100000 in
theorem put2_any (B p o : Nat) (x : Int) (u k : Nat) (hx : x = (u : Int)) (hu : coded u) (hk : k ≤ 30) (ao : Option Addr) (cap N L : Nat) (w : World) (hw : WrN w B p o ao cap N L) (ad ad2 : Addr) (hc : w.cell? ad = some (.pointer (some ⟨p, o, none⟩))) (hc2 : w.cell? ad2 = some (.int .i64 (k : Int))) (hL : L ≤ 3000000000000) :
    Calls Try.prog 108 #[.int .u64 x, .pointer (some ad), .pointer (some ad2)] w fun e w' => e = .returned (.tuple #[]) ∧ ∃ ao' cap', WrN w' B p o ao' cap' (N * 2 ^ cost u k + cod u k) (L + cost u k) ∧ Pushed w w' p ao ao' (L / 8) := by
  subst hx
  have HP := hid (rput_ok B p o u hu k hk ao cap N L w hw hL)
  go_enter Try.func108, Try.ntmps108
  go_wp2_with fail
  refine Calls.mono HP.out ?_
  rintro e w1 ⟨rfl, ao1, cap1, h1, h2⟩
  clear hw hc hc2
  go_wp2_with fail
  go_end0
  exact ⟨rfl, ao1, cap1, h1, h2⟩

theorem rp_nil (v : Value) (k : Int) (w : World) : Calls Try.prog 77 #[.pointer none, v, .int .i64 k] w fun e w' => e = .returned (.int .i64 2) ∧ Below w.heap.size w w' := by
  have hb : Below w.heap.size w ((w.alloc (.cells #[.pointer none] 40)).alloc (.cells #[.int .i64 k] 3)) := ((Below.refl _ _).alloc (Nat.le_refl _) _).alloc (by simp) _
  have HB := hid hb
  clear hb
  go_enter Try.func77, Try.ntmps77
  go_wp2_with fail
  go_ret
  exact ⟨rfl, HB.out⟩
theorem rp_arg (p : Addr) (v : Value) (k : Int) (hk : ¬ okK k) (w : World) : Calls Try.prog 77 #[.pointer (some p), v, .int .i64 k] w fun e w' => e = .returned (.int .i64 1) ∧ Below w.heap.size w w' := by
  have hb : Below w.heap.size w ((w.alloc (.cells #[.pointer (some p)] 40)).alloc (.cells #[.int .i64 k] 3)) := ((Below.refl _ _).alloc (Nat.le_refl _) _).alloc (by simp) _
  have HB := hid hb
  clear hb
  go_enter Try.func77, Try.ntmps77
  go_wp2_with fail
  refine (isparr k _).mono ?_
  rintro e w' ⟨rfl, rfl⟩
  rw [decide_eq_false hk]
  go_wp2_with fail
  go_ret
  exact ⟨rfl, HB.out⟩
theorem rp_range (p : Addr) (a : Option Addr) (len cap b off : Nat) (I : Nat → Int) (k : Int) (hk : okK k) (w : World) (h : Is w a len cap b off I) (hlen : len ≤ 1048576) (hr : ¬ allZ I len) :
    Calls Try.prog 77 #[.pointer (some p), .slice a len cap, .int .i64 k] w fun e w' => e = .returned (.int .i64 3) ∧ Below w.heap.size w w' := by
  have hb : Below w.heap.size w ((w.alloc (.cells #[.pointer (some p)] 40)).alloc (.cells #[.int .i64 k] 3)) := ((Below.refl _ _).alloc (Nat.le_refl _) _).alloc (by simp) _
  have HCN := hid (zcoded_any _ a len cap b off I (h.below hb h.lt))
  have HB := hid hb
  have HR := hid hr
  clear hb hr h
  have g2 : ¬ (1048576 : Int) < (len : Int) := by omega
  go_enter Try.func77, Try.ntmps77
  go_wp2_with fail
  refine (isparr k _).mono ?_
  rintro e w' ⟨rfl, rfl⟩
  rw [decide_eq_true hk]
  go_wp2_with fail
  refine HCN.out.mono ?_
  rintro e w' ⟨x, rfl, rfl, hx⟩
  obtain rfl : x = false := by
    cases x with
    | false => rfl
    | true => exact absurd (hx.1 rfl) HR.out
  clear hx
  go_wp2_with fail
  go_ret
  exact ⟨rfl, HB.out⟩

/-- A writer that has so many bits, from W on. -/
def Pst (W : World) (B p o : Nat) (ao : Option Addr) (L : Nat) (r : Nat × Nat) (wr : World) : Prop := ∃ ao' cap', WrN wr B p o ao' cap' r.1 r.2 ∧ Pushed W wr p ao ao' (L / 8)

set_option maxHeartbeats 800000 in
theorem rp_ok (B p o : Nat) (a : Option Addr) (len cap b off : Nat) (I : Nat → Int) (k : Nat) (hk : k ≤ 30) (ao : Option Addr) (acap N L : Nat) (w : World) (hw : WrN w B p o ao acap N L)
    (h : Is w a len cap b off I) (hsep : 0 < len → b ≠ p ∧ blk ao ≠ some b) (hr : allZ I len) (hL : L ≤ 2000000000000) (hlen : len ≤ 1048576) :
    Calls Try.prog 77 #[.pointer (some ⟨p, o, none⟩), .slice a len cap, .int .i64 (k : Int)] w (PutAllOk w B p o ao L (cfin I k (N, L) len)) := by
  have hlt0 : ∀ g, blk ao = some g → g < w.heap.size ∧ g ≠ p := fun g hg => ⟨(hw.rlt g hg).2, fun e => hw.far (e ▸ hg)⟩
  have hpl : p < w.heap.size := hw.plt
  have hokk : okK (k : Int) := ⟨by omega, by omega⟩
  have hb : Below w.heap.size w ((w.alloc (.cells #[.pointer (some ⟨p, o, none⟩)] 40)).alloc (.cells #[.int .i64 (k : Int)] 3)) := ((Below.refl _ _).alloc (Nat.le_refl _) _).alloc (by simp) _
  have hz : (w.alloc (.cells #[.pointer (some ⟨p, o, none⟩)] 40)).heap.size = w.heap.size + 1 := by simp
  have hck : ((w.alloc (.cells #[.pointer (some ⟨p, o, none⟩)] 40)).alloc (.cells #[.int .i64 (k : Int)] 3)).cell? ⟨w.heap.size + 1, 0, none⟩ = some (.int .i64 (k : Int)) := by rw [← hz]; simp
  have hcp : ((w.alloc (.cells #[.pointer (some ⟨p, o, none⟩)] 40)).alloc (.cells #[.int .i64 (k : Int)] 3)).cell? ⟨w.heap.size, 0, none⟩ = some (.pointer (some ⟨p, o, none⟩)) := by
    rw [World.cell?_of_block (RowKit.Below.heap_alloc _ _ _ (by simp))]; simp
  have hsz : ((w.alloc (.cells #[.pointer (some ⟨p, o, none⟩)] 40)).alloc (.cells #[.int .i64 (k : Int)] 3)).heap.size = w.heap.size + 2 := by simp
  have hw1 : WrN ((w.alloc (.cells #[.pointer (some ⟨p, o, none⟩)] 40)).alloc (.cells #[.int .i64 (k : Int)] 3)) B p o ao acap N L := Wr.alloc (Wr.alloc hw _) _
  have hp1 : Pushed w ((w.alloc (.cells #[.pointer (some ⟨p, o, none⟩)] 40)).alloc (.cells #[.int .i64 (k : Int)] 3)) p ao ao (L / 8) :=
    (Pushed.alloc p (fun g hg => (hlt0 g hg).1) (L / 8) _).trans (Pushed.alloc p (fun g hg => by have := (hlt0 g hg).1; rw [hz]; omega) (L / 8) _) (Nat.le_refl _) hlt0
  have h1 := h.below hb h.lt
  go_enter Try.func77, Try.ntmps77
  go_wp2_with fail
  generalize ((w.alloc (.cells #[.pointer (some ⟨p, o, none⟩)] 40)).alloc (.cells #[.int .i64 (k : Int)] 3)) = W at hb hck hcp hsz hw1 hp1 h1 ⊢
  have HCN := hid (zcoded_any W a len cap b off I h1)
  let fg : Value := .func (.func 106) #[] #[.pointer (some ⟨w.heap.size, 0, none⟩)]
  let fr : Value := .func (.func 108) #[] #[.pointer (some ⟨w.heap.size, 0, none⟩), .pointer (some ⟨w.heap.size + 1, 0, none⟩)]
  have hbb := boxes_below W fg fr
  have hWs := boxes_size W fg fr
  have hwb : WrN (boxes W fg fr) B p o ao acap N L := Wr.alloc (Wr.alloc hw1 _) _
  have hcell : ∀ wr ao', Pushed (boxes W fg fr) wr p ao ao' (L / 8) → wr.cell? ⟨w.heap.size, 0, none⟩ = some (.pointer (some ⟨p, o, none⟩)) ∧ wr.cell? ⟨w.heap.size + 1, 0, none⟩ = some (.int .i64 (k : Int)) := fun wr ao' hp => by
    have no : ∀ g, w.heap.size ≤ g → ¬ (g = p ∨ blk ao = some g) := fun g hg e => e.elim (fun e => by omega) (fun e => by have := (hlt0 _ e).1; omega)
    exact ⟨((hp.fr.cell (p := ⟨w.heap.size, 0, none⟩) (by show w.heap.size < _; omega) (no _ (Nat.le_refl _))).trans (hbb.cell (p := ⟨w.heap.size, 0, none⟩) (by show w.heap.size < _; omega))).trans hcp,
      ((hp.fr.cell (p := ⟨w.heap.size + 1, 0, none⟩) (by show w.heap.size + 1 < _; omega) (no _ (by show _ ≤ w.heap.size + 1; omega))).trans (hbb.cell (p := ⟨w.heap.size + 1, 0, none⟩) (by show w.heap.size + 1 < _; omega))).trans hck⟩
  have hltb : ∀ g, blk ao = some g → g < (boxes W fg fr).heap.size ∧ g ≠ p := fun g hg => ⟨by have := (hlt0 g hg).1; omega, (hlt0 g hg).2⟩
  have hcd := codes_any 106 108 #[.pointer (some ⟨w.heap.size, 0, none⟩)] #[.pointer (some ⟨w.heap.size, 0, none⟩), .pointer (some ⟨w.heap.size + 1, 0, none⟩)] (fun args w => Try.call106 args w) (fun args w => Try.call108 args w)
    W a len cap b off I (Pst (boxes W fg fr) B p o ao L (cfin I k (N, L) len))
    (fun o' wr => o' ≤ len ∧ rn I o' = 0 ∧ Pst (boxes W fg fr) B p o ao L (cgd I k (N, L) o') wr)
    (fun o' k' wr => o' + k' ≤ len ∧ rn I o' = 0 ∧ Pst (boxes W fg fr) B p o ao L (gam (cgd I k (N, L) o') (k' + 1)) wr)
    (fun g => g = p ∨ blk ao = some g) h1
    (fun g hg => hg.elim (fun e => by omega) (fun e => by have := (hlt0 _ e).1; omega))
    (fun h0 e => e.elim (hsep h0).1 (hsep h0).2)
    ⟨Nat.zero_le _, rfl, ao, acap, hwb, Pushed.refl _ _ _ _⟩
    (fun o' wr ⟨_, _, ao', cap', _, hp⟩ => hp.fr)
    (fun o' k' wr ⟨_, _, ao', cap', _, hp⟩ => hp.fr)
    (fun o' k' wr ⟨q1, q2, ao', cap', hst, hp⟩ => ⟨q1, q2, ao', cap', Wr.drew hst, hp.trans (Pushed.drew wr p ao' (L / 8)) (Nat.le_refl _) hltb⟩)
    (fun o' k' wr x hle hz hor ⟨q1, q2, ao', cap', hst, hp⟩ hx => by
      have hb2 := cgd_le I k (N, L) o'
      simp only at hb2
      refine (put1_any B p o x (k' + 1) hx ⟨by omega, by omega⟩ ao' cap' _ _ wr hst _ (hcell wr ao' hp).1 (by omega)).mono ?_
      rintro e w' ⟨rfl, ao1, cap1, hw', hp'⟩
      exact ⟨rfl, hle, q2, ao1, cap1, hw', hp.trans hp' (by omega) hltb⟩)
    (fun o' k' wr y hlt hz hnz ⟨q1, q2, ao', cap', hst, hp⟩ hy => by
      have hb2 := cgd_le I k (N, L) o'
      have hb3 := gam_len (cgd I k (N, L) o') (k' + 1)
      simp only at hb2
      have hc : coded (zg (I (o' + k')) - 1) := by have := hr (o' + k') hlt; unfold coded at *; omega
      obtain ⟨e1, e2⟩ := runs_next (kp := k) (p := (N, L)) q2 hz hnz
      refine (put2_any B p o y (zg (I (o' + k')) - 1) k hy hc hk ao' cap' _ _ wr hst _ _ (hcell wr ao' hp).1 (hcell wr ao' hp).2 (by omega)).mono ?_
      rintro e w' ⟨rfl, ao1, cap1, hw', hp'⟩
      refine ⟨rfl, hlt, e1, ao1, cap1, ?_, hp.trans hp' (by omega) hltb⟩
      rw [e2]
      exact hw')
    (fun wr ⟨q1, q2, hst⟩ => by
      unfold cfin
      rw [q2, if_neg (Nat.lt_irrefl _)]
      exact hst)
    (fun o' k' wr hlt hz hk0 ⟨q1, q2, hst⟩ => by
      obtain ⟨e1, e2⟩ := runs_zero (kp := k) (p := (N, L)) q2 k' hz
      unfold cfin
      rw [← hlt, e1, e2, if_pos hk0]
      exact hst)
  have HCD := hid hcd
  have HP1 := hid (hp1.trans ((Pushed.alloc p (fun g hg => by have := (hlt0 g hg).1; omega) (L / 8) _).trans (Pushed.alloc p (fun g hg => by have := (hlt0 g hg).1; simp; omega) (L / 8) _) (Nat.le_refl _) (fun g hg => ⟨by have := (hlt0 g hg).1; omega, (hlt0 g hg).2⟩)) (Nat.le_refl _) hlt0 : Pushed w (boxes W fg fr) p ao ao (L / 8))
  have HLT := hid hlt0
  have HR := hid hr
  have g2 : ¬ (1048576 : Int) < (len : Int) := by omega
  clear hcd h hlt0 hw hw1 h1 hb hp1 hr hsep hz hcell hltb hwb hWs hbb hcp
  refine (isparr k _).mono ?_
  rintro e w' ⟨rfl, rfl⟩
  rw [decide_eq_true hokk]
  go_wp2_with fail
  refine HCN.out.mono ?_
  rintro e w' ⟨x, rfl, rfl, hx⟩
  obtain rfl : x = true := hx.2 HR.out
  clear hx
  go_wp2_with fail
  refine HCD.out.mono ?_
  rintro e w1 ⟨rfl, ao1, cap1, hw2, hp2⟩
  have hfin : Wrote w B p o ao L (cfin I k (N, L) len).1 (cfin I k (N, L) len).2 w1 := ⟨ao1, cap1, hw2, HP1.out.trans hp2 (Nat.le_refl _) HLT.out⟩
  clear hw2 hp2 hck
  go_wp2_with fail
  go_ret
  exact ⟨rfl, hfin⟩
end Go.Proofs.Ytjimamjhakainaa.Runs
/- The statements' fixed calls of runs; RunsNil's walk. No condition. -/
namespace Go.Proofs.Ytjimamjhakainaa.Runs
open Go.RowKit Bit Rice

theorem is_three (w : World) (x y z : Int) (hx : -9223372036854775808 ≤ x ∧ x ≤ 9223372036854775807) (hy : -9223372036854775808 ≤ y ∧ y ≤ 9223372036854775807) (hz : -9223372036854775808 ≤ z ∧ z ≤ 9223372036854775807) (t : TypeId) : Is (w.alloc (.cells #[.int .i64 x, .int .i64 y, .int .i64 z] t)) (some ⟨w.heap.size, 0, none⟩) 3 3 w.heap.size 0 (fun i => if i = 0 then x else if i = 1 then y else z) :=
  ⟨fun _ => rfl, fun i hi => by
      rcases (by omega : i = 0 ∨ i = 1 ∨ i = 2) with rfl | rfl | rfl
      · simp
      · simp
      · simp, fun i hi => by
      rcases (by omega : i = 0 ∨ i = 1 ∨ i = 2) with rfl | rfl | rfl
      · exact hx
      · exact hy
      · exact hz, fun _ => by simp, Nat.le_refl _, by decide⟩

theorem ggamma_nil (w : World) : Calls Try.prog 129 #[.pointer none] w fun e w' => e = .returned (.tuple #[.int .u64 0, .int .i64 2]) ∧ w = w' := by
  go_enter Try.func129, Try.ntmps129
  go_wp2_with fail
  go_ret2
  exact ⟨rfl, rfl⟩
theorem rget_nil (n k : Int) (w : World) : Calls Try.prog 111 #[.pointer none, .int .i64 n, .int .i64 k] w fun e w' => e = .returned (.tuple #[.slice none 0 0, .int .i64 2]) ∧ w = w' := by
  go_enter Try.func111, Try.ntmps111
  go_wp2_with fail
  go_ret2
  exact ⟨rfl, rfl⟩
end Go.Proofs.Ytjimamjhakainaa.Runs
