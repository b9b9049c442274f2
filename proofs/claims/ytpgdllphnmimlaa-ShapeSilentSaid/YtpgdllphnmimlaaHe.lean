/- Note of the program. Conditions: there is such a kind; the last target is no further than 2^40 from 0. -/
import Derived.Test.YtpgdllphnmimlaaHd
import Derived.Laws.CopyOwn
namespace Go.Proofs.Ytpgdllphnmimlaa.Shape
open Go.RowKit Gen

theorem step_copy_own {P : Program} {ops : Array Oper} {o : Oper} {a : Act} {w : World} {K : Act → World → Prop} {Q : Exit → Act → World → Prop} {E : Prop} (hgd : o.guard = none) (d s : Operand) (dT sT : TypeId)
    (ho : o.op = .call { callee := .builtin .copy, args := #[d, s], argTypes := #[dT, sT] }) (elem : TypeId) (hu : P.underlying dT = some (.slice elem)) (hsz : (P.info? elem).map (·.size) = some 1)
    (g off dLen dCap : Nat) (ad : Addr) (sLen sCap : Nat) (hd : a.eval d = .slice (some ⟨g, off, none⟩) dLen dCap) (hs : a.eval s = .slice (some ad) sLen sCap)
    (cur : Array Value) (t : TypeId) (hg : w.heap[g]? = some (.cells cur t (0, 0))) (cs : List Value) (hn : cs.length = Nat.min sLen dLen)
    (hsrc : ∀ j v, cs[j]? = some v → w.cell? (ad.add j) = some v) (hfit : off + cs.length ≤ cur.size) (h1 : ∀ v ∈ cs, v.oneCell' = true)
    (h : K (a.put o.dst (goInt cs.length)) (w.setRow g (cur.toList.take off ++ (cs ++ cur.toList.drop (off + cs.length))).toArray)) :
    if Region.wanted o (yielded ops a.tmps) = true then Oper.wp P o a w K Q else E := by
  have hw : Region.wanted o (yielded ops a.tmps) = true := by simp [Region.wanted, hgd]
  rw [if_pos hw]
  have hrun := run_copy_row (P := P) w dT sT o.type elem g off dLen dCap ad sLen sCap cur t cs hu hsz hg hn hsrc hfit h1
  unfold Oper.wp
  simp [execOp, ho, resolve, invoke, builtin, hd, hs, hrun, Result.andThen]
  exact h
/-- What a note leaves of the misses. -/
def nx (m : Nat → Int) (u : Int) : Nat → Int
  | 0 => u
  | j + 1 => m j
theorem Shp.setN {w : World} {q k : Nat} {m : Nat → Int} {v t : Int} (h : Shp w q k (nx m v) t) (u : Int) : Shp (w.setCell ⟨q, 1, none⟩ (.int .i64 u)) q k (nx m u) t :=
  Shp.of (h.rowIs.set 1 (.int .i64 u)) rfl rfl rfl rfl rfl
def NtPost (w : World) (q k : Nat) (m : Nat → Int) (t y : Int) (e : Ending) (w' : World) : Prop := e = .returned (.tuple #[]) ∧ Shp w' q k (nx m (mis y t)) t ∧ Fr (fun b => b = q) w w'
theorem note_nil (y : Int) (w : World) : Calls Try.prog 16 #[.pointer none, .int .i64 y] w fun e w' => e = .returned (.tuple #[]) ∧ w = w' := by
  go_enter Try.func16, Try.ntmps16
  go_wp2_with fail
  refine bodyPost_ret (results_none (by kernel_rfl) _ _ _) rfl ?_
  exact ⟨rfl, rfl⟩
theorem Try.one3 : (Try.prog.info? 3).map (·.size) = some 1 := by kernel_rfl
theorem fr_setRow (w : World) (g : Nat) (cs : Array Value) : Fr (fun b => b = g) w (w.setRow g cs) :=
  ⟨rfl, rfl, rfl, by rw [size_setRow]; exact Nat.le_refl _, fun k _ hk => setRow_other w g k cs hk⟩
theorem Shp.copied {w : World} {q k : Nat} {m : Nat → Int} {t : Int} (h : Shp w q k m t) :
    Shp (w.setRow q (((shp k m t).toList.take 2 ++ ([Value.int .i64 (m 0), .int .i64 (m 1)] ++ (shp k m t).toList.drop (2 + 2))).toArray)) q k (nx m (m 0)) t := by
  refine ⟨?_⟩
  rw [setRow_heap w q _ _ 47 (0, 0) h.row]
  rfl
theorem Shp.src {w : World} {q k : Nat} {m : Nat → Int} {t : Int} (h : Shp w q k m t) : ∀ j v, ([Value.int .i64 (m 0), .int .i64 (m 1)] : List Value)[j]? = some v → w.cell? ((⟨q, 1, none⟩ : Addr).add j) = some v := by
  intro j v hj
  rcases j with _ | _ | j
  · cases hj; exact h.c1
  · cases hj; exact h.c2
  · simp at hj
/-- The row behind the copy. -/
def cpd (w : World) (q k : Nat) (m : Nat → Int) (t : Int) : World := w.setRow q (((shp k m t).toList.take 2 ++ ([Value.int .i64 (m 0), .int .i64 (m 1)] ++ (shp k m t).toList.drop (2 + 2))).toArray)
theorem Shp.cpd {w : World} {q k : Nat} {m : Nat → Int} {t : Int} (h : Shp w q k m t) : Shp (cpd w q k m t) q k (nx m (m 0)) t := h.copied
theorem fr_cpd (w : World) (q k : Nat) (m : Nat → Int) (t : Int) : Fr (fun b => b = q) w (cpd w q k m t) := fr_setRow _ _ _
theorem step_note {ops : Array Oper} {o : Oper} {a : Act} {w : World} {K : Act → World → Prop} {Q : Exit → Act → World → Prop} {E : Prop} {q k : Nat} {m : Nat → Int} {t : Int} (hgd : o.guard = none)
    (ho : o.op = .call { callee := .builtin .copy, args := #[.tmp 9, .tmp 13], argTypes := #[26, 26] }) (hd : a.eval (.tmp 9) = .slice (some ⟨q, 2, none⟩) 2 2) (hs : a.eval (.tmp 13) = .slice (some ⟨q, 1, none⟩) 3 3)
    (H : Shp w q k m t) (h : K (a.put o.dst (.int .i64 2)) (Shape.cpd w q k m t)) : if Region.wanted o (yielded ops a.tmps) = true then Oper.wp Try.prog o a w K Q else E :=
  step_copy_own hgd (.tmp 9) (.tmp 13) 26 26 ho 3 Try.underlying26 Try.one3 q 2 2 2 ⟨q, 1, none⟩ 3 3 hd hs (shp k m t) 47 H.row [.int .i64 (m 0), .int .i64 (m 1)] rfl H.src (by show 4 ≤ 5; decide) (by simp [Value.oneCell']) h
set_option maxHeartbeats 1000000 in
theorem note_any {w : World} {q k : Nat} {m : Nat → Int} {t : Int} (h : Shp w q k m t) (ht : -1099511627776 ≤ t ∧ t ≤ 1099511627776) (y : Int) :
    Calls Try.prog 16 #[.pointer (some ⟨q, 0, none⟩), .int .i64 y] w (NtPost w q k m t y) := by
  have hly := ld_in y
  have HL := hid fun w => hold_any y w
  have HC := hid (show ∀ z, z = ld y - t → ∀ w, Calls Try.prog 26 #[.int .i64 z, .int .i64 (-67108864), .int .i64 67108864] w fun e w' => e = .returned (.int .i64 (mis y t)) ∧ w = w' from fun z hz w => clamp_any z _ _ _ hz (by decide) w)
  have hwr : IntKind.i64.wrap (ld y - t) = ld y - t := IntWalk.i64_in _ (by omega)
  have HWR := hid hwr
  clear hwr
  have hpost : ∀ e w', NtPost w q k m t y e w' = (e = .returned (.tuple #[]) ∧ Shp w' q k (nx m (mis y t)) t ∧ Fr (fun b => b = q) w w') := fun _ _ => rfl
  have HPOST := hid hpost
  have H := hid h
  clear h hpost
  have HD := hid (show Shp w.drew q k m t from ⟨H.out.row⟩)
  have H1 := hid HD.out.cpd
  have HF1 := hid ((Fr.refl (fun b => b = q) w).drew.trans (fr_cpd w.drew q k m t))
  generalize ld y = Y at *
  generalize mis y t = U at *
  go_enter Try.func16, Try.ntmps16
  go_wp2_with fail
  go_region_law (refine step_note (q := q) (k := k) (m := m) (t := t) (by rfl) (by rfl) (by kernel_rfl) (by kernel_rfl) HD.out ?_)
  generalize Shape.cpd w.drew q k m t = w1 at *
  have c4 : w1.drew.cell? ⟨q, 4, none⟩ = _ := H1.out.c4
  have c1 : w1.drew.cell? ⟨q, 1, none⟩ = _ := H1.out.c1
  have f1 : w1.drew.frozen? ⟨q, 1, none⟩ = _ := H1.out.fz 1
  go_wp2_with fail
  go_region_with (first
    | (go_at_call 24; (with_reducible refine (HL.out _).mono ?_); rintro e w2 ⟨rfl, rfl⟩)
    | (go_at_call 26; with_reducible refine (HC.out _ HWR.out _).mono ?_; rintro e w2 ⟨rfl, rfl⟩))
  all_goals
    go_end0
    rw [HPOST.out]
    exact ⟨rfl, ⟨(H1.out.setN U).row⟩, (HF1.out.trans (frq 1 _)).drew⟩
end Go.Proofs.Ytpgdllphnmimlaa.Shape
