/- Put: a list's code is written, part by part, or it is refused. Conditions: at most 1000 numbers where it is written. -/
import Derived.Test.YtjimamjhakainaaSYj
import Derived.Test.YtjimamjhakainaaM24
namespace Go.Proofs.Ytjimamjhakainaa.Part
open Go.RowKit Go.Shelf Bit Rice Runs

theorem pst_own {Wl : World} {B p o : Nat} {ao : Option Addr} {L : Nat} {β : Type} (f : β → Nat × Nat) (hlt : ∀ g, blk ao = some g → g < Wl.heap.size ∧ g ≠ p) :
    OwnFrom Wl.heap.size (fun s W' => Pst Wl B p o ao L (f s) W') := by
  intro s A A' row hs hg hr
  obtain ⟨ao', cap', hw, hp⟩ := hs
  have hF : Fr (fun k => row = some k) A A' := (Fr.refl _ A).grown hg (fun k hk _ => hk)
  have hnp : ¬ row = some p := fun e => by
    obtain ⟨ob, h1, h2⟩ := (hr p e).2
    obtain ⟨ob2, h3, h4⟩ := cells_of_cell hw.c0
    have h5 : A.heap[p]? = some ob2 := h3
    rw [h1] at h5
    cases h5
    rw [h2] at h4
    cases h4
  have hna : ∀ g, blk ao' = some g → ¬ row = some g := fun g hgb e => by
    obtain ⟨ob, h1, h2⟩ := (hr g e).2
    rcases hw.own.2 with ⟨h3, _⟩ | ⟨g2, c2, cur, h3, _, h4, _⟩
    · simp only [Value.slice.injEq] at h3
      rw [h3.1] at hgb
      cases hgb
    · simp only [Value.slice.injEq] at h3
      rw [h3.1] at hgb
      have h5 : g2 = g := by simpa [blk] using hgb
      rw [h5, h1] at h4
      cases h4
      cases h2
  refine ⟨ao', cap', hw.keep hF hnp hna, ⟨hp.fr.grown hg fun k hk hkl => ?_, fun g j hgb hj => ?_, hp.at_⟩⟩
  · have := (hr k hk).1
    omega
  · have h1 := (hlt g hgb).1
    have h2 : A'.heap[g]? = A.heap[g]? := hg.block g (by have := hp.fr.size; omega) (fun e => by have := (hr g e.symm).1; omega)
    exact (World.cell?_of_block (a := ⟨g, j, none⟩) h2).trans (hp.pre g j hgb hj)
theorem keeps_of_fr {X : Nat → Prop} {A A' : World} (hf : Fr X A A') (B : Nat) (hX : ∀ k ob, X k → A.heap[k]? = some ob → ob.isCells = true) : KeepsFrom B A A' :=
  ⟨hf.size, fun k ob _ hk ho => by
    rw [hf.block k (Array.getElem?_eq_some_iff.1 hk).1 fun hx => by have := hX k ob hx hk; rw [this] at ho; cases ho]
    exact hk⟩
theorem wr_cells {A : World} {B p o : Nat} {ao : Option Addr} {cap N L : Nat} (hw : WrN A B p o ao cap N L) (k : Nat) (ob : Obj) (hk : k = p ∨ blk ao = some k) (h : A.heap[k]? = some ob) : ob.isCells = true := by
  rcases hk with rfl | hk
  · obtain ⟨ob2, h3, h4⟩ := cells_of_cell hw.c0
    have h5 : A.heap[k]? = some ob2 := h3
    rw [h] at h5
    cases h5
    exact h4
  · rcases hw.own.2 with ⟨h3, _⟩ | ⟨g2, c2, cur, h3, _, h4, _⟩
    · simp only [Value.slice.injEq] at h3
      rw [h3.1] at hk
      cases hk
    · simp only [Value.slice.injEq] at h3
      rw [h3.1] at hk
      have h5 : g2 = k := by simpa [blk] using hk
      rw [h5, h] at h4
      cases h4
      rfl

/-- A part of a list, as its numbers; a part's code; the code of some parts. -/
def pI (I : Nat → Int) (len p i : Nat) : Nat → Int := fun j => I (bd len p i + j)
def pn (len p i : Nat) : Nat := bd len p (i + 1) - bd len p i
def pcode (I : Nat → Int) (n : Nat) (r : Nat × Nat) : Nat × Nat := pcw (wy I n) I n r
def pfs (I : Nat → Int) (len p : Nat) (r : Nat × Nat) (l : List Nat) : Nat × Nat := l.foldl (fun r i => pcode (pI I len p i) (pn len p i) r) r
theorem is_part {w : World} {a : Option Addr} {len cap b off : Nat} {I : Nat → Int} (h : Is w a len cap b off I) (p i : Nat) (hi : i < 2 ^ p) :
    Is w (ptA a cap (bd len p i)) (pn len p i) (cap - bd len p i) b (off + bd len p i) (pI I len p i) := by
  have h1 := bd_mono len p i
  have h2 := bd_le len p (i + 1) hi
  have hl := h.hl
  unfold pn pI
  refine ⟨fun h0 => ?_, fun j hj => ?_, fun j hj => h.ib _ (by omega), fun h0 => h.lt (by omega), by omega, by have := h.hc; omega⟩
  · unfold ptA
    rw [if_neg (by omega), h.addr (by omega)]
    have e : (⟨b, off, none⟩ : Addr).add (bd len p i) = ⟨b, off + bd len p i, none⟩ := by unfold Addr.add; split <;> simp_all
    show some ((⟨b, off, none⟩ : Addr).add (bd len p i)) = _
    rw [e]
  · rw [Nat.add_assoc]
    exact h.c _ (by omega)
theorem allZ_part {I : Nat → Int} {len : Nat} (h : allZ I len) (p i : Nat) (hi : i < 2 ^ p) : allZ (pI I len p i) (pn len p i) := fun j hj => by
  have h1 := bd_mono len p i
  have h2 := bd_le len p (i + 1) hi
  unfold pn at hj
  exact h _ (by omega)

theorem pput_nil (v : Value) (p : Int) (w : World) : Calls Try.prog 21 #[.pointer none, v, .int .i64 p] w fun e w' => e = .returned (.int .i64 2) ∧ Below w.heap.size w w' := by
  have hb := (Below.refl w.heap.size w).alloc (Nat.le_refl _) (.cells #[.pointer none] 40)
  go_enter Try.func21, Try.ntmps21
  go_wp2_with fail
  go_ret
  exact ⟨rfl, hb⟩
theorem pput_long (q : Addr) (a : Option Addr) (len cap : Nat) (h : 65536 < len) (p : Int) (w : World) : Calls Try.prog 21 #[.pointer (some q), .slice a len cap, .int .i64 p] w fun e w' => e = .returned (.int .i64 4) ∧ Below w.heap.size w w' := by
  have hb := (Below.refl w.heap.size w).alloc (Nat.le_refl _) (.cells #[.pointer (some q)] 40)
  have h2 : (65536 : Int) < (len : Int) := by omega
  go_enter Try.func21, Try.ntmps21
  go_wp2_with fail
  go_ret
  exact ⟨rfl, hb⟩
theorem pput_range (q : Addr) (a : Option Addr) (len cap b off : Nat) (I : Nat → Int) (w : World) (hi : Is w a len cap b off I) (h : len ≤ 65536) (hz : ¬ allZ I len) (p : Int) : Calls Try.prog 21 #[.pointer (some q), .slice a len cap, .int .i64 p] w fun e w' => e = .returned (.int .i64 3) ∧ Below w.heap.size w w' := by
  have hb := (Below.refl w.heap.size w).alloc (Nat.le_refl _) (.cells #[.pointer (some q)] 40)
  have h2 : ¬ (65536 : Int) < (len : Int) := by omega
  have HC := hid (pcoded_any _ a len cap b off I (hi.below hb hi.lt))
  have HZ := hid hz
  clear hz hi
  go_enter Try.func21, Try.ntmps21
  go_wp2_with fail
  refine HC.out.mono ?_
  rintro e w' ⟨x, rfl, rfl, hx⟩
  obtain rfl : x = false := by
    cases x
    · rfl
    · exact absurd (hx.1 rfl).2 HZ.out
  clear hx
  go_wp2_with fail
  go_ret
  exact ⟨rfl, hb⟩
theorem pput_arg (q : Addr) (a : Option Addr) (len cap b off : Nat) (I : Nat → Int) (w : World) (hi : Is w a len cap b off I) (h : len ≤ 65536) (hz : allZ I len) (p : Int) (hp : ¬ ord len p) : Calls Try.prog 21 #[.pointer (some q), .slice a len cap, .int .i64 p] w fun e w' => e = .returned (.int .i64 1) ∧ Below w.heap.size w w' := by
  have hb := (Below.refl w.heap.size w).alloc (Nat.le_refl _) (.cells #[.pointer (some q)] 40)
  have h2 : ¬ (65536 : Int) < (len : Int) := by omega
  have HC := hid (pcoded_any _ a len cap b off I (hi.below hb hi.lt))
  have HZ := hid hz
  have HO := hid (isorder_any len (by omega) p (w.alloc (.cells #[.pointer (some q)] 40)))
  rw [decide_eq_false hp] at HO
  clear hz hi hp
  go_enter Try.func21, Try.ntmps21
  go_wp2_with fail
  refine HC.out.mono ?_
  rintro e w' ⟨x, rfl, rfl, hx⟩
  obtain rfl : x = true := hx.2 ⟨h, HZ.out⟩
  clear hx
  go_wp2_with fail
  refine HO.out.mono ?_
  rintro e w' ⟨rfl, rfl⟩
  go_wp2_with fail
  go_ret
  exact ⟨rfl, hb⟩
end Go.Proofs.Ytjimamjhakainaa.Part
/- Put writes a list's code. Conditions: the list is coded, and lies apart from the writer's own memory; the order is one of its own. -/
namespace Go.Proofs.Ytjimamjhakainaa.Part
open Go.RowKit Go.Shelf Bit Rice Runs
attribute [local go_sem] Oper.semAt_some

theorem gr_cd {I : Nat → Int} {n : Nat} (h : allZ I n) : gr I n < 1099511627776 := gr_lt I _ (by decide) n fun j hj => h j hj
theorem pfs_le {I : Nat → Int} {len : Nat} (hz : allZ I len) (hlen : len ≤ 65536) (p : Nat) : ∀ (l : List Nat) (r : Nat × Nat), (∀ i ∈ l, i < 2 ^ p) → r.2 ≤ (pfs I len p r l).2 ∧ (pfs I len p r l).2 ≤ r.2 + 8400000 * l.length
  | [], r, _ => ⟨Nat.le_refl _, Nat.le_refl _⟩
  | i :: l, r, h => by
    have h1 := pfs_le hz hlen p l (pcode (pI I len p i) (pn len p i) r) fun j hj => h j (List.mem_cons_of_mem _ hj)
    have hi := h i (List.mem_cons_self ..)
    have h2 := pcw_le (wy (pI I len p i) (pn len p i)) (pI I len p i) (pn len p i) r (wy_ok _ _ (gr_cd (allZ_part hz p i hi)))
    have h3 : pn len p i ≤ len := by unfold pn; have := bd_le len p (i + 1) hi; omega
    have e : pfs I len p r (i :: l) = pfs I len p (pcode (pI I len p i) (pn len p i) r) l := rfl
    have e2 : pcw (wy (pI I len p i) (pn len p i)) (pI I len p i) (pn len p i) r = pcode (pI I len p i) (pn len p i) r := rfl
    rw [e2] at h2
    rw [e, List.length_cons]
    omega
theorem pfs_app (I : Nat → Int) (len p : Nat) (r : Nat × Nat) (l : List Nat) (i : Nat) : pfs I len p r (l ++ [i]) = pcode (pI I len p i) (pn len p i) (pfs I len p r l) := by
  unfold pfs
  rw [List.foldl_append]
  rfl
theorem finRange_val (y : Nat) : (List.finRange y).map Fin.val = List.range y := by
  apply List.ext_getElem
  · simp
  · intro i h1 h2
    simp
theorem pushed_upto {W w1 w2 : World} {p : Nat} {ao ao' : Option Addr} {k : Nat} (h : Pushed W w1 p ao ao' k) (hb : Below w1.heap.size w1 w2) (hlt : ∀ g, blk ao = some g → g < W.heap.size ∧ g ≠ p) : Pushed W w2 p ao ao' k :=
  ⟨h.fr.trans ((fr_of_below hb).mono fun _ _ x => x.elim), fun g j hg hj => (hb.cell (p := ⟨g, j, none⟩) (by have := (hlt g hg).1; have := h.fr.size; show g < _; omega)).trans (h.pre g j hg hj), h.at_⟩
def PutPost (w : World) (B pw o : Nat) (ao : Option Addr) (L : Nat) (r : Nat × Nat) (e : Ending) (w' : World) : Prop := e = .returned (.int .i64 0) ∧ Pst w B pw o ao L r w'
set_option maxRecDepth 100000 in
set_option maxHeartbeats 4000000 in
theorem pput_in (n : Nat) (hn3 : 3 ≤ n) (B pw o : Nat) (a : Option Addr) (len cap b off : Nat) (I : Nat → Int) (p : Nat) (hp : ord len p) (ao : Option Addr) (acap N L : Nat) (w : World) (hw : WrN w B pw o ao acap N L)
    (h : Is w a len cap b off I) (hsep : 0 < len → b ≠ pw ∧ blk ao ≠ some b) (hz : allZ I len) (hlen : len ≤ 65536) (hL : L ≤ 100000000000) :
    CallsIn Fence.wide n Try.prog 21 #[.pointer (some ⟨pw, o, none⟩), .slice a len cap, .int .i64 (p : Int)] w (PutPost w B pw o ao L (pfs I len p (app (N, L) p 3) (List.range (2 ^ p)))) := by
  have hlt : ∀ g, blk ao = some g → g < w.heap.size ∧ g ≠ pw := fun g hg => ⟨(hw.rlt g hg).2, fun e => hw.far (e ▸ hg)⟩
  have hp6 : p ≤ 6 := by
    have := hp.2
    unfold fin at this
    omega
  have hb := (Below.refl w.heap.size w).alloc (Nat.le_refl _) (.cells #[.pointer (some ⟨pw, o, none⟩)] 40)
  have hW1 : WrN (w.alloc (.cells #[.pointer (some ⟨pw, o, none⟩)] 40)) B pw o ao acap N L := Wr.alloc hw _
  have hP1 := Pushed.alloc (w := w) pw (fun g hg => (hlt g hg).1) (L / 8) (.cells #[.pointer (some ⟨pw, o, none⟩)] 40)
  have hI1 := h.below hb h.lt
  have hc1 : (w.alloc (.cells #[.pointer (some ⟨pw, o, none⟩)] 40)).cell? ⟨w.heap.size, 0, none⟩ = some (.pointer (some ⟨pw, o, none⟩)) := by simp
  have hpl := hw.plt
  have hs1 : (w.alloc (.cells #[.pointer (some ⟨pw, o, none⟩)] 40)).heap.size = w.heap.size + 1 := by simp
  have h2 : ¬ (65536 : Int) < (len : Int) := by omega
  have HC := hid (pcoded_any _ a len cap b off I hI1)
  have HO := hid (isorder_any len (by omega) p (w.alloc (.cells #[.pointer (some ⟨pw, o, none⟩)] 40)))
  rw [decide_eq_true hp] at HO
  have HZ := hid hz; have HH := hid h; have HLT := hid hlt; have HSEP := hid hsep; have HORD := hid hp
  have HI1 := hid hI1; have HP1 := hid hP1; have HW1 := hid hW1; have HS1 := hid hs1
  have hpu : IntKind.u64.wrap (p : Int) = (p : Int) := by rw [IntKind.wrap_u64]; omega
  clear hz h hlt hw hsep hp hI1 hb hP1 hs1 hW1
  refine callsIn_of_wp_marks Try.func21 rfl trivial ?_ rfl
  simp only [Try.ntmps21, List.size_toArray, List.length_cons, List.length_nil, Nat.reduceAdd, Nat.reduceSub, Array.replicate_succ, Array.replicate_zero, List.push_toArray, List.append_toArray, List.nil_append, List.cons_append]
  obtain ⟨W1, hW1⟩ : ∃ W1, w.alloc (.cells #[.pointer (some ⟨pw, o, none⟩)] 40) = W1 := ⟨_, rfl⟩
  rw [hW1] at hc1 HC HO HI1 HP1 HW1 HS1
  have HPC := hid (put_okI B pw o (p : Int) 3 p 3 rfl rfl ao acap N L W1 HW1.out (by have := hp6; omega) (by decide) (by omega))
  gi_wp2_with fail
  refine ⟨trivial, fun h => (by cases h), ?_⟩
  refine (callsIn_wide.2 HC.out).mono ?_
  rintro e w' ⟨x, rfl, rfl, hx⟩
  obtain rfl : x = true := hx.2 ⟨hlen, HZ.out⟩
  clear hx
  gi_wp2_with fail
  refine ⟨trivial, fun h => (by cases h), ?_⟩
  refine (callsIn_wide.2 HO.out).mono ?_
  rintro e w' ⟨rfl, rfl⟩
  gi_wp2_with fail
  refine ⟨trivial, fun h => (by cases h), ?_⟩
  refine (callsIn_wide.2 HPC.out).mono ?_
  rintro e w2 ⟨rfl, ao2, cap2, hw2, hp2⟩
  have HW2 := hid hw2; have HP2 := hid hp2
  clear hw2 hp2 hW1
  gi_wp2_with fail
  refine ⟨trivial, fun h => (by cases h), ?_⟩
  refine (callsIn_wide.2 (parts_any a len cap p w2)).mono ?_
  rintro e w3 ⟨rfl, rfl⟩
  gi_wp2_with fail
  have hsz2 : W1.heap.size ≤ w2.heap.size := HP2.out.fr.size
  have hlt2 : ∀ g, blk ao2 = some g → g < w2.heap.size ∧ g ≠ pw := fun g hg => ⟨(HW2.out.rlt g hg).2, fun e => HW2.out.far (e ▸ hg)⟩
  have hpl2 := HW2.out.plt
  have hxb : 0 < len → ¬ (b = pw ∨ blk ao = some b) := fun hl hx => by
    rcases hx with e | e
    · exact (HSEP.out hl).1 e
    · exact (HSEP.out hl).2 e
  have hi2 : Is w2 a len cap b off I := HI1.out.fr HP2.out.fr hxb
  have hne : ¬ (w.heap.size = pw ∨ blk ao = some w.heap.size) := by
    rintro (e | e)
    · omega
    · have := (HLT.out _ e).1; omega
  have hc2 : w2.cell? ⟨w.heap.size, 0, none⟩ = some (.pointer (some ⟨pw, o, none⟩)) := (HP2.out.fr.cell (p := ⟨w.heap.size, 0, none⟩) (by show w.heap.size < _; rw [HS1.out]; omega) hne).trans hc1
  have hsep2 : 0 < len → b ≠ pw ∧ blk ao2 ≠ some b := fun hl => ⟨(HSEP.out hl).1, fun e => by
    rcases HP2.out.at_ with e2 | e2
    · exact (HSEP.out hl).2 (by rw [← e2]; exact e)
    · have h1 := e2 b e
      have h3 := HI1.out.lt hl
      omega⟩
  obtain ⟨Wl, hWl⟩ : ∃ Wl, (w2.alloc (.cells #[.slice a len cap] 22)).alloc (.cells #[.int .i64 (p : Int)] 3) = Wl := ⟨_, rfl⟩
  have hls : Wl.heap.size = w2.heap.size + 2 := by rw [← hWl]; simp
  have hlb : Below w2.heap.size w2 Wl := by rw [← hWl]; exact (((Below.refl w2.heap.size w2).alloc (Nat.le_refl _) _).alloc (by simp) _)
  have hlw : WrN Wl B pw o ao2 cap2 (N * 2 ^ 3 + p) (L + 3) := HW2.out.keep (fr_of_below hlb) (fun x => x) (fun _ _ x => x)
  have hlc0 : Wl.cell? ⟨w2.heap.size, 0, none⟩ = some (.slice a len cap) := by
    rw [← hWl, World.cell?_of_block (RowKit.Below.heap_alloc _ _ _ (by simp))]; simp
  have hlc1 : Wl.cell? ⟨w2.heap.size + 1, 0, none⟩ = some (.int .i64 (p : Int)) := by
    rw [← hWl]
    have e : w2.heap.size + 1 = (w2.alloc (.cells #[.slice a len cap] 22)).heap.size := by simp
    rw [e]; simp
  have hil : Is Wl a len cap b off I := hi2.below hlb hi2.lt
  have hbox : Wl.cell? ⟨w.heap.size, 0, none⟩ = some (.pointer (some ⟨pw, o, none⟩)) := (hlb.cell (p := ⟨w.heap.size, 0, none⟩) (by show w.heap.size < _; have := HS1.out; omega)).trans hc2
  rw [hWl]
  have HLS := hid hls; have HLW := hid hlw; have HIL := hid hil; have HBOX := hid hbox; have HLT2 := hid hlt2; have HSEP2 := hid hsep2; have HLB := hid hlb
  have hlc := HH.out.hl
  have HPAR := hid (parts_stops (n - 1) (w2.heap.size + 1) w2.heap.size a len cap p hlen hp6 hlc (2 ^ p) rfl Wl (by omega) (by omega) hlc1 hlc0)
  have hsw : w.heap.size < w2.heap.size := by have := HS1.out; omega
  clear hi2 hc2 hxb hls hlw hil hbox hlt2 hsep2 hlb hWl hc1 HC HO HPC hlc0 hlc1
  refine wpIn_rangeFunc_ownG rfl (by omega) (gf := 75) (lb := #[.pointer (some ⟨w2.heap.size + 1, 0, none⟩), .pointer (some ⟨w2.heap.size, 0, none⟩)]) rfl trivial (enters_of Try.func75 (by kernel_rfl) rfl) HPAR.out Kp2.trans
    (fun W l ob ob' hl hW _ _ => ⟨by simp, World.putObj_heap_other (by have := HLS.out; omega), World.putObj_heap_other (by have := HLS.out; omega)⟩) (Below.refl _ _) (fun _ => rfl)
    (fun pre W' => Pst Wl B pw o ao2 (L + 3) (pfs I len p (app (N, L) p 3) (pre.map Fin.val)) W') (fun _ _ _ => False)
    (pst_own _ fun g hg => ⟨by have := (HLT2.out g hg).1; have := HLS.out; omega, (HLT2.out g hg).2⟩) (fun _ _ _ _ _ hs _ _ => hs)
    (pst_new Wl HLW.out)
    (fun x => { tmps := #[.pointer (some ⟨pw, o, none⟩), .slice a len cap, .int .i64 (p : Int), .pointer (some ⟨w.heap.size, 0, none⟩), undef, undef, .int .i64 0, undef,
      .slice (ptA a cap (bd len p x.val)) (bd len p (x.val + 1) - bd len p x.val) (cap - bd len p x.val), undef, undef, .bool false, .pointer (some ⟨pw, o, none⟩), .bool false, .bool false, .slice a len cap, .int .i64 (len : Int), .bool false, .bool false,
      .slice a len cap, .bool true, .bool false, .bool false, .int .i64 (p : Int), .slice a len cap, .int .i64 (len : Int), .bool true, .bool false, .pointer (some ⟨pw, o, none⟩), .int .i64 (p : Int), .int .u64 (p : Int), .int .i64 0, .slice a len cap, .int .i64 (p : Int),
      .func (.func 75) #[] #[.pointer (some ⟨w2.heap.size + 1, 0, none⟩), .pointer (some ⟨w2.heap.size, 0, none⟩)], .int .i64 ((x.val : Nat) : Int), .slice (ptA a cap (bd len p x.val)) (bd len p (x.val + 1) - bd len p x.val) (cap - bd len p x.val),
      undef, undef, undef, undef, undef, undef, undef, undef, undef, undef, undef], defers := [] }) ?assign ?body ?done ?stop
  case assign =>
    intro l x W K hK
    unfold encP
    gi_wp2_with fail
    exact hK
  case body =>
    rintro l pre x W hI hpre
    have hple := pfs_le HZ.out hlen p (pre.map Fin.val) (app (N, L) p 3) (fun i hi => by obtain ⟨z, _, rfl⟩ := List.mem_map.1 hi; exact z.isLt)
    have hy64 : 2 ^ p ≤ 64 := Nat.pow_le_pow_right (n := 2) (by decide) hp6
    rw [List.length_map] at hple
    have happ := pfs_app I len p (app (N, L) p 3) (pre.map Fin.val) x.val
    have hap2 : (app (N, L) p 3).2 = L + 3 := rfl
    rw [hap2] at hple
    have HAPP := hid happ
    generalize pfs I len p (app (N, L) p 3) (pre.map Fin.val) = r at *
    have HI := hid hI
    obtain ⟨ao3, cap3, hw3, hp3⟩ := hI
    have hxs : 0 < len → ¬ (b = pw ∨ blk ao2 = some b) := fun hl hx => by
      rcases hx with e | e
      · exact (HSEP2.out hl).1 e
      · exact (HSEP2.out hl).2 e
    have hi3 : Is W a len cap b off I := HIL.out.fr hp3.fr hxs
    have hisp := is_part hi3 p x.val x.isLt
    have hzp := allZ_part HZ.out p x.val x.isLt
    have hpnl : pn len p x.val ≤ 65536 := by unfold pn; have := bd_le len p (x.val + 1) x.isLt; omega
    have hsepp : 0 < pn len p x.val → b ≠ pw ∧ blk ao3 ≠ some b := fun hl => by
      have hl2 : 0 < len := by unfold pn at hl; have := bd_le len p (x.val + 1) x.isLt; omega
      refine ⟨(HSEP2.out hl2).1, fun e => ?_⟩
      rcases hp3.at_ with e2 | e2
      · exact (HSEP2.out hl2).2 (by rw [← e2]; exact e)
      · have h1 := e2 b e
        have h3 := HIL.out.lt hl2
        omega
    have hne2 : ¬ (w.heap.size = pw ∨ blk ao2 = some w.heap.size) := by
      rintro (e | e)
      · omega
      · rcases HP2.out.at_ with e2 | e2
        · have := (HLT.out _ (by rw [← e2]; exact e)).1; omega
        · have h1 := e2 _ e; have := HS1.out; omega
    have hbx : W.cell? ⟨w.heap.size, 0, none⟩ = some (.pointer (some ⟨pw, o, none⟩)) := (hp3.fr.cell (p := ⟨w.heap.size, 0, none⟩) (by show w.heap.size < _; rw [HLS.out]; omega) hne2).trans HBOX.out
    have hWs : Wl.heap.size ≤ W.heap.size := hp3.fr.size
    have HCNT := hid (count_any W _ _ _ _ _ _ hisp (by omega))
    have HISP := hid hisp; have HZP := hid hzp; have HPNL := hid hpnl; have HSEPP := hid hsepp; have HW3 := hid hw3; have HP3 := hid hp3; have HBX := hid hbx
    have hpne : pn len p x.val = bd len p (x.val + 1) - bd len p x.val := rfl
    rw [← hpne]
    clear hisp hzp hpnl hsepp hw3 hp3 hi3 hxs hpne hne2 happ
    gi_wp2_with fail
    refine ⟨trivial, fun h => (by cases h), ?_⟩
    refine (CallsIn.inRound l (callsIn_wide.2 HCNT.out)).mono ?_
    rintro e w4 ⟨rfl, hb4⟩
    have HB4 := hid hb4
    have his4 := HISP.out.below hb4 HISP.out.lt
    have HCH := hid (choose_any w4 _ _ _ _ _ _ his4 HPNL.out HZP.out)
    clear hb4 his4
    gi_wp2_with fail
    refine ⟨trivial, fun h => (by cases h), ?_⟩
    refine (CallsIn.inRound l (callsIn_wide.2 HCH.out)).mono ?_
    rintro e w5 ⟨rfl, hb5⟩
    have hWk := wy_ok (pI I len p x.val) (pn len p x.val) (gr_cd HZP.out)
    obtain ⟨way, hway⟩ : ∃ way, wy (pI I len p x.val) (pn len p x.val) = way := ⟨_, rfl⟩
    rw [hway] at hWk ⊢
    have HWAY := hid hway
    have hb6 : Below W.heap.size W (w5.alloc (.cells #[.int .i64 (way.1 : Int), .int .i64 (way.2.1 : Int)] 25)) :=
      (HB4.out.trans (hb5.mono HB4.out.size)).trans ((Below.refl W.heap.size w5).alloc (by have := HB4.out.size; have := hb5.size; omega) _)
    obtain ⟨w6, hw6⟩ : ∃ w6, w5.alloc (.cells #[.int .i64 (way.1 : Int), .int .i64 (way.2.1 : Int)] 25) = w6 := ⟨_, rfl⟩
    have hr6 : w6.rowIs w5.heap.size 25 2 (fun i => if i = 0 then .int .i64 (way.1 : Int) else .int .i64 (way.2.1 : Int)) := by
      rw [← hw6]; exact ⟨_, heap_alloc_new _ _, rfl, fun i hi => by rcases i with _ | _ | i <;> first | rfl | omega⟩
    rw [hw6] at hb6
    have y0 := hr6.cell (show 0 < 2 by decide)
    have y1 := hr6.cell (show 1 < 2 by decide)
    simp only [if_true] at y0
    rw [if_neg (by decide)] at y1
    have hbx6 : w6.cell? ⟨w.heap.size, 0, none⟩ = some (.pointer (some ⟨pw, o, none⟩)) := (hb6.cell (p := ⟨w.heap.size, 0, none⟩) (by show w.heap.size < _; rw [HLS.out] at hWs; omega)).trans HBX.out
    have hw66 : WrN w6 B pw o ao3 cap3 r.1 r.2 := HW3.out.keep (fr_of_below hb6) (fun x => x) (fun _ _ x => x)
    have HWR := hid (write_any B pw o _ _ _ _ _ _ way hWk ao3 cap3 r.1 r.2 w6 hw66 (HISP.out.below hb6 HISP.out.lt) HSEPP.out HZP.out HPNL.out (by omega))
    have HB6 := hid hb6
    clear hb6 hr6 hw66 hb5 hway
    gi_wp2_with fail
    refine ⟨trivial, fun h => (by cases h), ?_⟩
    refine (CallsIn.inRound l (callsIn_wide.2 HWR.out)).mono ?_
    rintro e w7 ⟨rfl, hp7⟩
    have hltl : ∀ g, blk ao2 = some g → g < Wl.heap.size ∧ g ≠ pw := fun g hg => ⟨by have := (HLT2.out g hg).1; have := HLS.out; omega, (HLT2.out g hg).2⟩
    have hP6 := pushed_upto HP3.out HB6.out hltl
    have hfin := pst_trans (r := r) hP6 hp7 hple.1 hltl
    have hnk : ∀ k, w2.heap.size ≤ k → k < Wl.heap.size → ¬ (k = pw ∨ blk ao3 = some k) := fun k hk1 hk2 hx => by
      rcases hx with e | e
      · omega
      · rcases HP3.out.at_ with e2 | e2
        · have := (HLT2.out k (by rw [← e2]; exact e)).1; omega
        · have := e2 k e; omega
    obtain ⟨ao7, cap7, hw7, hpu7⟩ := hp7
    have hfr : Fr (fun k => k = pw ∨ blk ao3 = some k) W w7 := ((fr_of_below HB6.out).mono fun _ _ x => x.elim).trans hpu7.fr
    have hKF := keeps_of_fr hfr Wl.heap.size fun k ob hx hk => wr_cells HW3.out k ob hx hk
    have hls := HLS.out
    have hKP : Kp2 (w2.heap.size + 1) w2.heap.size W w7 := ⟨hfr.size, hfr.block _ (by omega) (hnk _ (by omega) (by omega)), hfr.block _ (by omega) (hnk _ (by omega) (by omega))⟩
    have hcode : pfs I len p (app (N, L) p 3) ((pre ++ [x]).map Fin.val) = pcw way (pI I len p x.val) (pn len p x.val) r := by
      rw [List.map_append]
      show pfs I len p (app (N, L) p 3) (pre.map Fin.val ++ [x.val]) = _
      rw [HAPP.out]
      unfold pcode
      rw [HWAY.out]
    have HFIN := hid hfin; have HKF := hid hKF; have HKP := hid hKP; have HCODE := hid hcode
    clear hfin hKF hKP hcode hfr hw7 hpu7 hP6
    gi_wp2_with fail
    exact ⟨HKF.out, HKP.out, by dsimp only; rw [HCODE.out]; exact HFIN.out⟩
  case done =>
    rintro D xs W hD rfl hI hK
    rw [finRange_val] at hI
    have hI2 := (pst_own (fun (_ : Unit) => pfs I len p (app (N, L) p 3) (List.range (2 ^ p))) fun g hg => ⟨by have := (HLT2.out g hg).1; have := HLS.out; omega, (HLT2.out g hg).2⟩).putObj (s := ()) (.deferred none) hI hD hK rfl
    have hpu2 : Pushed w Wl pw ao ao2 (L / 8) := pushed_upto (HP1.out.trans HP2.out (Nat.le_refl _) HLT.out) HLB.out HLT.out
    have hfin := pst_trans (r := (0, L + 3)) hpu2 hI2 (by show L ≤ L + 3; omega) HLT.out
    have HFIN := hid hfin
    clear hfin hI2 hI hpu2
    gi_wp2_with fail
    refine ⟨by simp, .inl ⟨_, _, rfl, run_takeDeferred hK, ?_⟩⟩
    exact ⟨_, results_tmp rfl _ _ _, rfl, HFIN.out⟩
  case stop =>
    rintro D c pre W _ _ h _
    exact h.elim

theorem pput_ok (B pw o : Nat) (a : Option Addr) (len cap b off : Nat) (I : Nat → Int) (p : Nat) (hp : ord len p) (ao : Option Addr) (acap N L : Nat) (w : World) (hw : WrN w B pw o ao acap N L)
    (h : Is w a len cap b off I) (hsep : 0 < len → b ≠ pw ∧ blk ao ≠ some b) (hz : allZ I len) (hlen : len ≤ 65536) (hL : L ≤ 100000000000) :
    Calls Try.prog 21 #[.pointer (some ⟨pw, o, none⟩), .slice a len cap, .int .i64 (p : Int)] w (PutPost w B pw o ao L (pfs I len p (app (N, L) p 3) (List.range (2 ^ p)))) :=
  callsIn_wide.1 (pput_in 9 (by decide) B pw o a len cap b off I p hp ao acap N L w hw h hsep hz hlen hL)
end Go.Proofs.Ytjimamjhakainaa.Part
