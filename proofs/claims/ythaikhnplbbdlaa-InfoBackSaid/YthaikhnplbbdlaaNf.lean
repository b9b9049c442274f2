/- How a file begins, of the program; takers, boxes and results in cells. Conditions: bytes in memory. -/
import Derived.Test.YthaikhnplbbdlaaNe
namespace Go.Proofs.Ythaikhnplbbdlaa.Inf
open Go.RowKit Gen Fld
open Crc hiding hid

theorem u8_beq {l m : List Nat} (hl : ∀ b ∈ l, b < 256) (hm : ∀ b ∈ m, b < 256) : (l.map UInt8.ofNat == m.map UInt8.ofNat) = decide (l = m) := by
  rw [← toList_tos, ← toList_tos]; exact tos_beq hl hm
theorem take4_any {w : World} {a : Option Addr} {l : List Nat} {n c : Nat} (hn : l.length = n) (hb : Byts w a l) (hz : a = none → l.length = 0 ∧ c = 0) (hlen : n ≤ 549755813888) :
    Calls Try.prog 35 #[.slice a n c] w fun e w' => ∃ q, e = .returned (.pointer (some ⟨q, 0, none⟩)) ∧ w.heap.size ≤ q ∧ TkS w' q ⟨0, l, 0⟩ ∧ Below w.heap.size w w' := by
  subst hn; exact take_any hb hz hlen
theorem tku_ok {w : World} {q : Nat} {l : List Nat} {p : Nat} (h : TkS w q ⟨0, l, p⟩) (n : Nat) (h1 : 1 ≤ n) (h8 : n ≤ 8) (hl : n ≤ l.length) :
    Calls Try.prog 38 #[.pointer (some ⟨q, 0, none⟩), .int .i64 (n : Int)] w (Took w q ⟨0, l.drop n, p + n⟩ (.int .u64 (lev (l.take n) : Int))) := by
  have e := nx_ok (s := ⟨0, l, p⟩) (k := n) (f := true) rfl (fun _ => ⟨h1, h8⟩) hl
  have := tku_any h (n : Int)
  rw [e] at this
  exact this
theorem took_below {w w' W : World} {q : Nat} {s : TS} {v : Value} {e : Ending} (h : Took w q s v e w') (hw : Below W.heap.size W w) (hq : W.heap.size ≤ q) : Below W.heap.size W w' :=
  hw.trans ⟨h.2.2.os, h.2.2.tape, h.2.2.output, h.2.2.size, fun k hk => h.2.2.block k (Nat.lt_of_lt_of_le hk hw.size) (by omega)⟩
theorem lev4 {l : List Nat} (h : ∀ b ∈ l, b < 256) (hl : l.length = 4) : lev l < 4294967296 := by
  have := lev_lt l h
  rw [hl] at this
  exact this
theorem byts_at {w : World} {a : Option Addr} {l : List Nat} (h : Byts w a l) (hl : 0 < l.length) : ∃ b off, a = some ⟨b, off, none⟩ := by
  obtain ⟨b, off, e, _⟩ := h.at_ 0 l[0] (List.getElem?_eq_getElem hl)
  exact ⟨b, off, e⟩
theorem i64_small (n : Nat) (h : n < 4294967296) : wrap64 (n : Int) = n := by unfold wrap64; omega
theorem alloc2_old (w : World) (o1 o2 : Obj) : ((w.alloc o1).alloc o2).heap[w.heap.size]? = some o1 := by
  rw [Deep.blk_alloc_lt _ _ _ (by rw [Deep.nblk_alloc]; omega)]
  exact heap_alloc_new _ _
theorem row_cell {w : World} {g : Nat} {t : TypeId} {c : Array Value} (h : w.heap[g]? = some (.cells c t (0, 0))) (i : Nat) {v : Value} (hv : c[i]? = some v) : w.cell? ⟨g, i, none⟩ = some v := by
  unfold World.cell?
  rw [h]
  exact hv
theorem row_frozen {w : World} {g : Nat} {t : TypeId} {c : Array Value} (h : w.heap[g]? = some (.cells c t (0, 0))) (i : Nat) : w.frozen? ⟨g, i, none⟩ = false := by
  have hr : w.rowIs g t c.size (fun i => c.getD i undef) := ⟨c, h, rfl, fun i hi => by simp [hi]⟩
  exact hr.frozen i
theorem fr_setNew {X : Nat → Prop} {w w' : World} (h : Fr X w w') {p : Addr} (hp : w.heap.size ≤ p.block) {u : Value} : Fr X w (w'.setCell p u) :=
  ⟨h.os, h.tape, h.output, by simpa using h.size, fun k hk hx => (heap_setCell_other _ _ _ _ (by omega)).trans (h.block k hk hx)⟩
theorem fr_setRowNew {X : Nat → Prop} {w w' : World} (h : Fr X w w') {g : Nat} (hp : w.heap.size ≤ g) {c : Array Value} : Fr X w (w'.setRow g c) :=
  ⟨h.os, h.tape, h.output, by simpa using h.size, fun k hk hx => (setRow_other _ _ _ _ (by omega)).trans (h.block k hk hx)⟩
theorem tks_other {w w' : World} {q : Nat} {s : TS} (h : TkS w q s) {g : Nat} (hf : Fr (fun b => b = g) w w') (hg : q < g) : TkS w' q s := by
  obtain ⟨a, cap, ht, h1, h2⟩ := h
  exact ⟨a, cap, ht.keep hf (by omega) (fun b off e hx => by obtain ⟨b', off', e1, e2, e3⟩ := ht.spot _ e; cases e1; omega), h1, h2⟩
theorem fr_setRow (w : World) (g : Nat) (cs : Array Value) : Fr (fun b => b = g) w (w.setRow g cs) :=
  ⟨rfl, rfl, rfl, by rw [size_setRow]; exact Nat.le_refl _, fun k _ hk => setRow_other w g k cs hk⟩
theorem res_ct {P : Program} {fn : Func} {p u : Tmp} {ty : TypeId} (h : fn.results = #[.cell p ty, .tmp u]) (tmps : Array Value) (w : World) (g : Nat) (t : TypeId) (cs : Array Value) (fr : Nat × Nat) (d : TypeDesc)
    (hp : tmps.getD p undef = .pointer (some ⟨g, 0, none⟩)) (hg : w.heap[g]? = some (.cells cs t fr))
    (hu : P.underlying ty = some d) (hd : (match d with | .struct _ | .array _ _ => true | _ => false) = true) (hi : (P.info? ty).map (·.size) = some cs.size) {v : Value} (hv : tmps.getD u undef = v) :
    (results fn tmps).run P w = .ok (.tuple #[.agg cs, v]) w := by
  have hp' : tmps[p]?.getD undef = .pointer (some ⟨g, 0, none⟩) := by simpa using hp
  have hv' : tmps[u]?.getD undef = v := by simpa using hv
  simp only [results, h]
  simp [Result.andThen, hp', hv', asAddr, run_loadVar_row w g t ty cs fr d hg hu hd hi]
theorem byte_lev {l : List Nat} (h : ∀ b ∈ l, b < 256) (n : Nat) : lev ((l.drop n).take 1) < 256 := by
  have h1 := lev_lt ((l.drop n).take 1) (fun b hb => h b (List.mem_of_mem_drop (List.mem_of_mem_take hb)))
  have h2 : ((l.drop n).take 1).length ≤ 1 := by rw [List.length_take]; omega
  have h3 : 2 ^ (8 * ((l.drop n).take 1).length) ≤ 2 ^ 8 := Nat.pow_le_pow_right (by decide) (by omega)
  have : (2 : Nat) ^ 8 = 256 := by decide
  omega
theorem fr_rowBelow {B g : Nat} {w w' : World} {cs : Array Value} (h : Below B w w') (hg : B ≤ g) : Below B w (w'.setRow g cs) :=
  ⟨h.os, h.tape, h.output, by rw [size_setRow]; exact h.size, fun k hk => (setRow_other w' g k cs (by omega)).trans (h.block k hk)⟩
theorem lev_drop (l : List Nat) (i : Nat) {x : Nat} (h : l[i]? = some x) : lev (l.drop i) = x + 256 * lev (l.drop (i + 1)) := by
  have hi : i < l.length := by
    rcases Nat.lt_or_ge i l.length with h' | h'
    · exact h'
    · rw [List.getElem?_eq_none h'] at h; cases h
  rw [List.drop_eq_getElem_cons hi]
  rw [List.getElem?_eq_getElem hi] at h
  cases h
  rfl
/-- Bytes begin as a file, as far as there are some. -/
def Bgn (l : List Nat) : Prop := l.take 4 = mk4.take l.length
instance (l : List Nat) : Decidable (Bgn l) := by unfold Bgn; exact inferInstance
theorem bgn_beq {l : List Nat} (hb : ∀ b ∈ l, b < 256) (m : Nat) (hm : m = min 4 l.length) : ((tos (l.take 4)).toList == (({ data := #[68, 83, 67, 49] } : ByteArray).extract 0 m).toList) = decide (Bgn l) := by
  have e : (({ data := #[68, 83, 67, 49] } : ByteArray).extract 0 m).toList = (mk4.take m).map UInt8.ofNat := by
    have h4 : m ≤ 4 := by omega
    have hx : m = 0 ∨ m = 1 ∨ m = 2 ∨ m = 3 ∨ m = 4 := by omega
    rcases hx with rfl | rfl | rfl | rfl | rfl <;> (rw [ByteArray.toList_eq]; decide)
  rw [e, toList_tos, u8_beq (fun b h => hb b (List.mem_of_mem_take h)) (fun b h => (by decide : ∀ b ∈ mk4, b < 256) b (List.mem_of_mem_take h))]
  refine decide_eq_decide.2 ?_
  unfold Bgn
  have e2 : mk4.take m = mk4.take l.length := by
    subst hm
    rcases Nat.le_total 4 l.length with h | h
    · rw [Nat.min_eq_left h, List.take_of_length_le (l := mk4) (i := 4) (by decide), List.take_of_length_le (by exact h)]
    · rw [Nat.min_eq_right h]
  rw [e2]
theorem begins_any {w : World} {a : Option Addr} {cap : Nat} {l : List Nat} (hb : Byts w a l) (hc : l.length ≤ cap) (hm : l.length ≤ 1099511627776) : Calls Try.prog 34 #[.slice a l.length cap] w fun e w' => e = .returned (.bool (decide (Bgn l))) ∧ w = w' := by
  have HQ := hid (bgn_beq hb.lt (min 4 l.length) rfl)
  have hcv := (hb.take 4).conv cap
  have hs : (tos (l.take 4)).size = min 4 l.length := by rw [tos_size, List.length_take]
  rw [List.length_take] at hcv
  have htl : l.length = 0 → (tos (l.take 4)).toList = [] := fun h => by rw [toList_tos, List.eq_nil_of_length_eq_zero h]; rfl
  have HTL := hid htl
  clear htl
  generalize hn : l.length = n at *
  generalize decide (Bgn l) = b at *
  generalize tos (l.take 4) = t at *
  clear hb hn
  by_cases h0 : n = 0
  · subst h0
    rw [show min 4 0 = 0 from by decide] at HQ hcv hs
    go_enter Try.func34, Try.ntmps34
    go_wp2_with fail
    go_ret
    have em : (({ data := #[68, 83, 67, 49] } : ByteArray).extract 0 0).toList = [] := by rw [ByteArray.toList_eq]; decide
    have ht := HTL.out trivial
    exact ⟨by rw [← HQ.out, em, ht]; rfl, rfl⟩
  by_cases h1 : n = 1
  · subst h1
    rw [show min 4 1 = 1 from by decide] at HQ hcv hs
    go_enter Try.func34, Try.ntmps34
    go_wp2_with fail
    go_ret
    exact ⟨by rw [← HQ.out]; rfl, rfl⟩
  by_cases h2 : n = 2
  · subst h2
    rw [show min 4 2 = 2 from by decide] at HQ hcv hs
    go_enter Try.func34, Try.ntmps34
    go_wp2_with fail
    go_ret
    exact ⟨by rw [← HQ.out]; rfl, rfl⟩
  by_cases h3 : n = 3
  · subst h3
    rw [show min 4 3 = 3 from by decide] at HQ hcv hs
    go_enter Try.func34, Try.ntmps34
    go_wp2_with fail
    go_ret
    exact ⟨by rw [← HQ.out]; rfl, rfl⟩
  by_cases h4 : n = 4
  · subst h4
    rw [show min 4 4 = 4 from by decide] at HQ hcv hs
    go_enter Try.func34, Try.ntmps34
    go_wp2_with fail
    go_ret
    exact ⟨by rw [← HQ.out]; rfl, rfl⟩
  have hmn : min 4 n = 4 := by omega
  rw [hmn] at HQ hcv hs
  have h5 : ¬ (n : Int) ≤ 4 := by omega
  have h6 : ¬ (n : Int) < 4 := by omega
  have h7 : 4 ≤ cap := by omega
  clear h0 h1 h2 h3 h4 hmn
  go_enter Try.func34, Try.ntmps34
  go_wp2_with fail
  go_ret
  exact ⟨by rw [← HQ.out]; rfl, rfl⟩
end Go.Proofs.Ythaikhnplbbdlaa.Inf
