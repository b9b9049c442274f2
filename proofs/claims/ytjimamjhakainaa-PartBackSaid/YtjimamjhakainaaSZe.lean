/- cost: what a list's code has, of whose parts the tallies are given. Conditions: the list lies in memory, is coded, has the order; the tallies lie there. -/
import Derived.Test.YtjimamjhakainaaM26
namespace Go
theorem wpListIn_load_mid {F : Fence} {n : Nat} {P : Program} {ops : Array Oper} {rest : List Oper} {op : Oper} {a : Act} {w : World} {Q : Exit → Act → World → Prop} (hgd : op.guard = none) (ty : TypeId) (x : Operand) (ho : op.op = .load ty x)
    (b o : Nat) (hx : a.eval x = .pointer (some ⟨b, o, none⟩)) (cs : List Value) (d : TypeDesc) (hc : w.rangeAt b o cs)
    (hu : P.underlying ty = some d) (hd : d.isRow = true) (hi : (P.info? ty).map (·.size) = some cs.length)
    (h : wpListIn F n P ops Q rest (a.put op.dst (.agg cs.toArray)) w) : wpListIn F n P ops Q (op :: rest) a w :=
  wpListIn_plain hgd fun K hK => ⟨fun f hf => by simp [Oper.about, ho] at hf, by
    rw [Oper.semAt_eq _ _ _ (by simp [ho])]
    unfold execOp
    simp only [ho, hx, Instr.loadAt, Instr.sureAddr, Sem.run_bind, Sem.run_pure, Result.andThen_ok, run_loadVar_mid w b o ty cs d hc hu hd hi]
    exact hK _ _ h⟩
end Go
namespace Go.Proofs.Ytjimamjhakainaa.Part
open Go.RowKit Go.Shelf Bit Rice Runs
attribute [local go_sem] Oper.semAt_some

/-- The costs of some parts, and the order's own bits. -/
def csl (I : Nat → Int) (len p : Nat) (l : List Nat) : Nat := l.foldl (fun s i => s + pcost I len p i) 3
theorem csl_app (I : Nat → Int) (len p : Nat) (l : List Nat) (i : Nat) : csl I len p (l ++ [i]) = csl I len p l + pcost I len p i := by
  unfold csl; rw [List.foldl_append]; rfl
theorem csl_range (I : Nat → Int) (len p : Nat) : ∀ k, csl I len p (List.range k) = csum I len p k
  | 0 => rfl
  | k + 1 => by rw [List.range_succ, csl_app, csl_range I len p k]; rfl
theorem foldl_le (f : Nat → Nat) (B : Nat) : ∀ (l : List Nat) (s : Nat), (∀ i ∈ l, f i ≤ B) → l.foldl (fun s i => s + f i) s ≤ s + l.length * B
  | [], s, _ => by simp
  | i :: l, s, h => by
    have h1 := foldl_le f B l (s + f i) fun j hj => h j (List.mem_cons_of_mem _ hj)
    have h2 := h i (List.mem_cons_self ..)
    have h3 : (i :: l).length * B = l.length * B + B := by rw [List.length_cons, Nat.succ_mul]
    rw [List.foldl_cons]
    omega
theorem csl_le (I : Nat → Int) (len p : Nat) (hz : allZ I len) (hlen : len ≤ 65536) (l : List Nat) (hl : ∀ i ∈ l, i < 2 ^ p) (h64 : l.length ≤ 64) : csl I len p l ≤ 200000000 := by
  have h1 := foldl_le (pcost I len p) (12 + 41 * len) l 3 fun i hi => pcost_le I len p i hz (hl i hi)
  have h2 : l.length * (12 + 41 * len) ≤ 64 * (12 + 41 * 65536) := Nat.mul_le_mul h64 (by omega)
  have e : csl I len p l = l.foldl (fun s i => s + pcost I len p i) 3 := rfl
  omega
/-- What stands while the costs are summed. -/
structure CIn (w : World) (g y cg : Nat) (s : Nat) (W : World) : Prop where
  box : W.cell? ⟨w.heap.size, 0, none⟩ = some (.slice (some ⟨g, 0, none⟩) y cg)
  sum : W.cell? ⟨w.heap.size + 1, 0, none⟩ = some (.int .i64 (s : Int))
  fz : W.frozen? ⟨w.heap.size + 1, 0, none⟩ = false
  below : Below w.heap.size w W
theorem CIn.sz {w W : World} {g y cg s : Nat} (h : CIn w g y cg s W) : w.heap.size + 2 ≤ W.heap.size := World.block_lt_of_cell? _ _ h.sum
theorem cin_own (w : World) (g y cg : Nat) {B : Nat} (hB : w.heap.size + 2 ≤ B) {β : Type} (f : β → Nat) : OwnFrom B (fun s W' => CIn w g y cg (f s) W') := by
  intro s A A' row hs hg hr
  have hsz := hs.sz
  have hk : ∀ k, k < w.heap.size + 2 → A'.heap[k]? = A.heap[k]? := fun k hk => hg.block k (by omega) fun e => by have := (hr k e.symm).1; omega
  exact ⟨(World.cell?_of_block (a := ⟨w.heap.size, 0, none⟩) (hk w.heap.size (by omega))).trans hs.box, (World.cell?_of_block (a := ⟨w.heap.size + 1, 0, none⟩) (hk (w.heap.size + 1) (by omega))).trans hs.sum,
    (World.frozen?_of_block (a := ⟨w.heap.size + 1, 0, none⟩) (hk (w.heap.size + 1) (by omega))).trans hs.fz, hs.below.grown hg hs.below.size fun b hb => by have := (hr b hb).1; omega⟩
def CoPost (w : World) (s : Nat) (e : Ending) (w' : World) : Prop := e = .returned (.int .i64 (s : Int)) ∧ Below w.heap.size w w'
set_option maxRecDepth 100000 in
set_option maxHeartbeats 2000000 in
theorem cost_in (n : Nat) (hn3 : 3 ≤ n) (a : Option Addr) (len cap b off : Nat) (I : Nat → Int) (p y g cg : Nat) (hp6 : p ≤ 6) (hy : 2 ^ p = y) (w : World)
    (h : Is w a len cap b off I) (hz : allZ I len) (hlen : len ≤ 65536) (ht : Tl w g I len p y (List.range y)) (hg : g < w.heap.size) :
    CallsIn Fence.wide n Try.prog 46 #[.slice a len cap, .int .i64 (p : Int), .slice (some ⟨g, 0, none⟩) y cg] w (CoPost w (lc I len p)) := by
  obtain ⟨hsh, hy64, hy1⟩ := shl_p p y hp6 hy
  have HZ := hid hz; have HH := hid h; have HT := hid ht
  clear hz h hsh ht
  refine callsIn_of_wp_marks Try.func46 rfl trivial ?_ rfl
  simp only [Try.ntmps46, List.size_toArray, List.length_cons, List.length_nil, Nat.reduceAdd, Nat.reduceSub, Array.replicate_succ, Array.replicate_zero, List.push_toArray, List.append_toArray, List.nil_append, List.cons_append]
  gi_wp2_with fail
  refine ⟨trivial, fun h => (by cases h), ?_⟩
  refine (callsIn_wide.2 (parts_any a len cap p _)).mono ?_
  rintro e w3 ⟨rfl, rfl⟩
  gi_wp2_with fail
  obtain ⟨W2, hW2⟩ : ∃ W2, (w.alloc (.cells #[.slice (some ⟨g, 0, none⟩) y cg] 70)).alloc (.cells #[.int .i64 3] 3) = W2 := ⟨_, rfl⟩
  have h2s : W2.heap.size = w.heap.size + 2 := by rw [← hW2]; simp
  have h2c : CIn w g y cg 3 W2 := by
    have e : w.heap.size + 1 = (w.alloc (.cells #[.slice (some ⟨g, 0, none⟩) y cg] 70)).heap.size := by simp
    refine ⟨?_, ?_, ?_, ?_⟩
    · rw [← hW2, World.cell?_of_block (a := ⟨w.heap.size, 0, none⟩) (RowKit.Below.heap_alloc _ _ _ (by simp)), World.cell?_alloc_at _ _ _ _ rfl]; rfl
    · rw [← hW2, e, World.cell?_alloc_at _ _ _ _ rfl]; rfl
    · rw [← hW2, e]; exact fz_new _ _ _ _
    · rw [← hW2]; exact ((Below.refl w.heap.size w).alloc (Nat.le_refl _) _).alloc (by simp) _
  obtain ⟨Wl, hWl⟩ : ∃ Wl, (W2.alloc (.cells #[.slice a len cap] 22)).alloc (.cells #[.int .i64 (p : Int)] 3) = Wl := ⟨_, rfl⟩
  have hls : Wl.heap.size = w.heap.size + 4 := by rw [← hWl]; simp; omega
  have hlb : Below W2.heap.size W2 Wl := by rw [← hWl]; exact (((Below.refl W2.heap.size W2).alloc (Nat.le_refl _) _).alloc (by simp) _)
  have hlc0 : Wl.cell? ⟨w.heap.size + 1 + 1, 0, none⟩ = some (.slice a len cap) := by
    rw [← hWl, World.cell?_of_block (RowKit.Below.heap_alloc _ _ _ (by simp; omega)), show w.heap.size + 1 + 1 = W2.heap.size by omega]; simp
  have hlc1 : Wl.cell? ⟨w.heap.size + 1 + 1 + 1, 0, none⟩ = some (.int .i64 (p : Int)) := by
    rw [← hWl]
    have e : w.heap.size + 1 + 1 + 1 = (W2.alloc (.cells #[.slice a len cap] 22)).heap.size := by simp; omega
    rw [e]; simp
  have hlI : CIn w g y cg 3 Wl := ⟨(hlb.cell (p := ⟨w.heap.size, 0, none⟩) (by show w.heap.size < _; omega)).trans h2c.box, (hlb.cell (p := ⟨w.heap.size + 1, 0, none⟩) (by show w.heap.size + 1 < _; omega)).trans h2c.sum,
    (hlb.frozen (p := ⟨w.heap.size + 1, 0, none⟩) (by show w.heap.size + 1 < _; omega)).trans h2c.fz, h2c.below.trans (hlb.mono (by omega))⟩
  rw [hW2, hWl]
  have HPAR := hid (parts_stops (n - 1) (w.heap.size + 1 + 1 + 1) (w.heap.size + 1 + 1) a len cap p hlen hp6 HH.out.hl y hy Wl (by omega) (by omega) hlc1 hlc0)
  have HLS := hid hls; have HLI := hid hlI; have HG := hid hg
  clear hW2 hWl h2c hlb hlc0 hlc1 hlI hls h2s hg
  refine wpIn_rangeFunc_ownG rfl (by omega) (gf := 75) (lb := #[.pointer (some ⟨w.heap.size + 1 + 1 + 1, 0, none⟩), .pointer (some ⟨w.heap.size + 1 + 1, 0, none⟩)]) rfl trivial (enters_of Try.func75 (by kernel_rfl) rfl) HPAR.out Kp2.trans
    (fun W l ob ob' hl hW _ _ => ⟨by simp, World.putObj_heap_other (by have := HLS.out; omega), World.putObj_heap_other (by have := HLS.out; omega)⟩) (Below.refl _ _) (fun _ => rfl)
    (fun pre W' => CIn w g y cg (csl I len p (pre.map Fin.val)) W' ∧ Wl.heap.size ≤ W'.heap.size) (fun _ _ _ => False)
    (fun s A A' row hs hg hr => ⟨cin_own w g y cg (by have := HLS.out; omega) (fun s => csl I len p (s.map Fin.val)) s A A' row hs.1 hg hr, Nat.le_trans hs.2 hg.size⟩) (fun _ _ _ _ _ hs _ _ => hs)
    ⟨HLI.out, Nat.le_refl _⟩
    (fun x => { tmps := #[.slice a len cap, .int .i64 (p : Int), .slice (some ⟨g, 0, none⟩) y cg, undef, undef, .pointer (some ⟨w.heap.size, 0, none⟩), .int .i64 0, .pointer (some ⟨w.heap.size + 1, 0, none⟩), .int .i64 ((x.val : Nat) : Int), .slice (ptA a cap (bd len p x.val)) (bd len p (x.val + 1) - bd len p x.val) (cap - bd len p x.val), undef, undef, .slice a len cap, .int .i64 (p : Int),
      .func (.func 75) #[] #[.pointer (some ⟨w.heap.size + 1 + 1 + 1, 0, none⟩), .pointer (some ⟨w.heap.size + 1 + 1, 0, none⟩)], .int .i64 ((x.val : Nat) : Int), .slice (ptA a cap (bd len p x.val)) (bd len p (x.val + 1) - bd len p x.val) (cap - bd len p x.val),
      undef, undef, undef, undef, undef, undef, undef, undef, undef, undef, undef, undef, undef], defers := [] }) ?assign ?body ?done ?stop
  case assign =>
    intro l x W K hK
    unfold encP
    gi_wp2_with fail
    exact hK
  case body =>
    rintro l pre x W ⟨hI, hWl⟩ hpre
    have HB3 := hid hWl
    clear hWl
    have HI := hid hI
    have hbx := hI.box
    have hi3 := HH.out.below hI.below HH.out.lt
    have hxy : x.val < 2 ^ p := by rw [hy]; exact x.isLt
    have hisp := is_part hi3 p x.val hxy
    have hpnl : pn len p x.val ≤ 65536 := by have := pn_le len p x.val hxy; omega
    have hzp := allZ_part HZ.out p x.val hxy
    have hpne : pn len p x.val = bd len p (x.val + 1) - bd len p x.val := rfl
    have HCH : RowKit.Hid (∀ W', Below W.heap.size W W' → Calls Try.prog 33 #[.agg (tT I len p x.val).toArray, .slice (ptA a cap (bd len p x.val)) (pn len p x.val) (cap - bd len p x.val)] W' (WayPost W' (wy (pI I len p x.val) (pn len p x.val)))) := hid fun W' hb => by
      rw [tT_arr]
      exact choose_any W' _ _ _ _ _ _ (is_part (hi3.below hb hi3.lt) p x.val hxy) hpnl hzp
    rw [← hpne]
    have hxl : ((x.val : Nat) : Int) < (y : Int) := by have := x.isLt; omega
    have HRA := hid (((HT.out.of_block (hI.below.block g HG.out)).at_ x.val (List.mem_range.2 x.isLt)))
    have HS60 := hid (sT60 I len p x.val)
    have HAPP : RowKit.Hid (csl I len p ((pre ++ [x]).map Fin.val) = csl I len p (pre.map Fin.val) + pcost I len p x.val) := hid (by rw [List.map_append]; exact csl_app _ _ _ _ _)
    have hle := csl_le I len p HZ.out hlen ((pre ++ [x]).map Fin.val) (fun i hi => by
      obtain ⟨z, _, rfl⟩ := List.mem_map.1 hi
      rw [hy]; exact z.isLt) (by rw [List.length_map, List.length_append, List.length_singleton]; omega)
    rw [HAPP.out] at hle
    have HLE := hid hle
    have HPC : RowKit.Hid ((wy (pI I len p x.val) (pn len p x.val)).2.2 = pcost I len p x.val) := hid rfl
    generalize wy (pI I len p x.val) (pn len p x.val) = way at *
    generalize tT I len p x.val = T at *
    generalize csl I len p (pre.map Fin.val) = s at *
    generalize pcost I len p x.val = c at *
    clear hpne hI hi3 hisp hzp hle hxy
    gi_wp2_with (refine wpListIn_load_mid rfl 60 _ rfl g (x.val * 33) rfl T _ HRA.out Try.underlying60 rfl HS60.out ?_)
    refine ⟨trivial, fun h => (by cases h), ?_⟩
    refine (CallsIn.inRound l (callsIn_wide.2 (HCH.out W (Below.refl _ _)))).mono ?_
    rintro e w4 ⟨rfl, hb4⟩
    rw [HPC.out]
    obtain ⟨sc, hsc⟩ : ∃ sc, s + c = sc := ⟨_, rfl⟩
    rw [hsc] at HAPP
    obtain ⟨hw1, hw2⟩ := wr_sum s c sc hsc (by have := HLE.out; omega)
    have hb5 : Below W.heap.size W (w4.alloc (.cells #[.int .i64 (way.1 : Int), .int .i64 (way.2.1 : Int)] 25)) := hb4.trans ((Below.refl W.heap.size w4).alloc hb4.size _)
    have hsz := HI.out.sz
    have hc5 := (hb5.cell (p := ⟨w.heap.size + 1, 0, none⟩) (by show w.heap.size + 1 < _; omega)).trans HI.out.sum
    have hf5 := (hb5.frozen (p := ⟨w.heap.size + 1, 0, none⟩) (by show w.heap.size + 1 < _; omega)).trans HI.out.fz
    have hls := HLS.out
    have hWl := HB3.out
    have hfin : CIn w g y cg sc ((w4.alloc (.cells #[.int .i64 (way.1 : Int), .int .i64 (way.2.1 : Int)] 25)).setCell ⟨w.heap.size + 1, 0, none⟩ (.int .i64 (sc : Int))) :=
      ⟨by rw [World.cell?_setCell_other _ _ _ _ (by intro e; simp at e)]; exact (hb5.cell (p := ⟨w.heap.size, 0, none⟩) (by show w.heap.size < _; omega)).trans HI.out.box, World.cell?_setCell_same _ _ _ hc5, by rw [World.frozen?_setCell]; exact hf5,
        (HI.out.below.trans (hb5.mono HI.out.below.size)).setCell (p := ⟨w.heap.size + 1, 0, none⟩) (by show w.heap.size ≤ w.heap.size + 1; omega) _⟩
    have hkey : ∀ k, k < W.heap.size → k ≠ w.heap.size + 1 → ((w4.alloc (.cells #[.int .i64 (way.1 : Int), .int .i64 (way.2.1 : Int)] 25)).setCell ⟨w.heap.size + 1, 0, none⟩ (.int .i64 (sc : Int))).heap[k]? = W.heap[k]? := fun k hk hne => (Below.heap_setCell _ ⟨w.heap.size + 1, 0, none⟩ _ k hne).trans (hb5.block k hk)
    have hsz5 : W.heap.size ≤ ((w4.alloc (.cells #[.int .i64 (way.1 : Int), .int .i64 (way.2.1 : Int)] 25)).setCell ⟨w.heap.size + 1, 0, none⟩ (.int .i64 (sc : Int))).heap.size := by have := hb5.size; simpa using this
    have hKF : KeepsFrom Wl.heap.size W ((w4.alloc (.cells #[.int .i64 (way.1 : Int), .int .i64 (way.2.1 : Int)] 25)).setCell ⟨w.heap.size + 1, 0, none⟩ (.int .i64 (sc : Int))) := ⟨hsz5, fun k ob hk ho _ => by
      rw [hkey k (Array.getElem?_eq_some_iff.1 ho).1 (by omega)]; exact ho⟩
    have hKP : Kp2 (w.heap.size + 1 + 1 + 1) (w.heap.size + 1 + 1) W ((w4.alloc (.cells #[.int .i64 (way.1 : Int), .int .i64 (way.2.1 : Int)] 25)).setCell ⟨w.heap.size + 1, 0, none⟩ (.int .i64 (sc : Int))) := ⟨hsz5, hkey _ (by omega) (by omega), hkey _ (by omega) (by omega)⟩
    have HFIN := hid hfin; have HKF := hid hKF; have HKP := hid hKP
    clear hfin hKF hKP hb4 hb5 hkey hsz5 hsc
    gi_wp2_with fail
    exact ⟨HKF.out, HKP.out, by rw [HAPP.out]; exact HFIN.out, Nat.le_trans HB3.out HKP.out.1⟩
  case done =>
    rintro D xs W hD rfl ⟨hI, hWs⟩ hK
    rw [finRange_val, csl_range] at hI
    have hI2 := (cin_own w g y cg (B := Wl.heap.size) (by have := HLS.out; omega) (fun (_ : Unit) => csum I len p y)).putObj (s := ()) (.deferred none) hI hD hK rfl
    have HFIN := hid hI2
    have hbx := hI.sum
    have HLC : RowKit.Hid (csum I len p y = lc I len p) := hid (by unfold lc; rw [hy])
    rw [HLC.out] at hbx
    clear hI2 hI
    gi_wp2_with fail
    refine ⟨by simp, .inl ⟨_, _, rfl, run_takeDeferred hK, ?_⟩⟩
    exact ⟨_, results_tmp rfl _ _ _, rfl, HFIN.out.below⟩
  case stop =>
    rintro D c pre W _ _ h _
    exact h.elim
theorem cost_all (a : Option Addr) (len cap b off : Nat) (I : Nat → Int) (p y g cg : Nat) (hp6 : p ≤ 6) (hy : 2 ^ p = y) (w : World)
    (h : Is w a len cap b off I) (hz : allZ I len) (hlen : len ≤ 65536) (ht : Tl w g I len p y (List.range y)) (hg : g < w.heap.size) :
    Calls Try.prog 46 #[.slice a len cap, .int .i64 (p : Int), .slice (some ⟨g, 0, none⟩) y cg] w (CoPost w (lc I len p)) :=
  callsIn_wide.1 (cost_in 9 (by decide) a len cap b off I p y g cg hp6 hy w h hz hlen ht hg)
theorem tallies_any (a : Option Addr) (len cap b off : Nat) (I : Nat → Int) (p y : Nat) (hp6 : p ≤ 6) (hy : 2 ^ p = y) (w : World)
    (h : Is w a len cap b off I) (hz : allZ I len) (hlen : len ≤ 65536) :
    Calls Try.prog 45 #[.slice a len cap, .int .i64 (p : Int)] w (TlPost w I len p y) :=
  callsIn_wide.1 (tallies_in 9 (by decide) a len cap b off I p y hp6 hy w h hz hlen)
end Go.Proofs.Ytjimamjhakainaa.Part
