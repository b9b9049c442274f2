/- Clone, Set and Find of tags: both sides. Conditions: at most 2^30 tags, texts of at most 2^40 bytes; for the program's the two tables of unicode/utf8. -/
import Derived.Test.YtfkklmklbmdlhaaDoorU4
namespace Go.Proofs.YtfkklmklbmdlhaaDoor.Tg
open Go.RowKit Gen

theorem Tryd.info30 : (Tryd.prog.info? 30).map (fun i => (i.zero, i.size, i.bytes)) = some (some (.agg #[.string ⟨#[]⟩, .string ⟨#[]⟩]), 2, 32) := by kernel_rfl
theorem flat_get : ∀ (l : List Tag) (j : Nat) (u : Value), (flat l)[j]? = some u → ∃ i t, l[i]? = some t ∧ ((j = i * 2 ∧ u = .string t.k) ∨ (j = i * 2 + 1 ∧ u = .string t.v))
  | [], j, u, h => by simp [flat] at h
  | t :: l, 0, u, h => ⟨0, t, rfl, .inl ⟨rfl, by simpa [flat] using h.symm⟩⟩
  | t :: l, 1, u, h => ⟨0, t, rfl, .inr ⟨rfl, by simpa [flat] using h.symm⟩⟩
  | t :: l, j + 2, u, h => by
    obtain ⟨i, x, h1, h2⟩ := flat_get l j u (by simpa [flat] using h)
    refine ⟨i + 1, x, h1, ?_⟩
    rcases h2 with ⟨e, hu⟩ | ⟨e, hu⟩
    · exact .inl ⟨by omega, hu⟩
    · exact .inr ⟨by omega, hu⟩
theorem Tb.cells {w : World} {a : Option Addr} {len b off : Nat} {T : Nat → Tag} (h : Tb w a len b off T) : ∀ ad, a = some ad → ∀ j u, (flat (lst T len))[j]? = some u → w.cell? (ad.add j) = some u := by
  intro ad ha j u hj
  obtain ⟨i, t, h1, h2⟩ := flat_get _ _ _ hj
  have hi : i < len := by
    have := (List.getElem?_eq_some_iff.1 h1).1
    rwa [lst_len] at this
  rw [lst_at T len i hi] at h1
  cases h1
  have hab := h.addr (by omega)
  rw [ha] at hab
  cases hab
  rcases h2 with ⟨rfl, rfl⟩ | ⟨rfl, rfl⟩
  · rw [Addr.add_lit]; exact h.k i hi
  · rw [Addr.add_lit, ← Nat.add_assoc]; exact h.v i hi
theorem flat_set : ∀ (l : List Tag) (i : Nat) (t : Tag), flat (l.set i t) = ((flat l).set (i * 2) (.string t.k)).set (i * 2 + 1) (.string t.v)
  | [], i, t => rfl
  | u :: l, 0, t => rfl
  | u :: l, i + 1, t => by
    rw [show (i + 1) * 2 = i * 2 + 1 + 1 from by omega]
    show .string u.k :: .string u.v :: flat (l.set i t) = _
    rw [flat_set l i t]
    rfl
theorem fx_congr {p q : Nat → Bool} {n : Nat} (h : ∀ i, i < n → p i = q i) : fx p n = fx q n := by
  rcases fx_cases p n with ⟨h1, h2⟩ | ⟨k, h1, h2, h3, h4⟩
  · rw [h1, fx_none (fun i hi => by rw [← h i hi]; exact h2 i hi)]
  · rw [h1, fx_some (p := q) (k := k) (by rw [← h k h2]; exact h3) (fun i hi => by rw [← h i (by omega)]; exact h4 i hi) h2]
theorem lk_lst (T : Nat → Tag) (kf : ByteArray) (n : Nat) : fx (lk (gt (lst T n)) kf) n = fx (lk T kf) n := fx_congr fun i hi => by unfold lk; rw [gt_lst T n i hi]
theorem bel_new (w : World) (o : Obj) : Below w.heap.size w (w.alloc o) := (Below.refl _ _).alloc (Nat.le_refl _) _

set_option maxHeartbeats 1000000 in
theorem tclone_any (w : World) {a : Option Addr} {len b off : Nat} {T : Nat → Tag} (h : Tb w a len b off T) {cap : Nat} (hn : a = none → len = 0 ∧ cap = 0) (hl : len ≤ 1073741824) :
    Calls Tryd.prog 37 #[.slice a len cap] w fun e w' => ∃ ao cap', e = .returned (.slice ao len cap') ∧ Ow w' w.heap.size ao cap' (lst T len) ∧ Below w.heap.size w w' := by
  have heq := fun w => Lib.run_eql_slice_nil (P := Tryd.prog) w 22 30 a len cap 0 0 Tryd.underlying22
  cases a with
  | none =>
    obtain ⟨rfl, rfl⟩ := hn rfl
    go_enter Tryd.func37, Tryd.ntmps37
    go_wp2_with fail
    go_ret
    exact ⟨none, 0, rfl, World.ownsRow_nil _ _ _ _, Below.refl _ _⟩
  | some ad =>
    obtain ⟨i0, hi, hz0, hz1, hz2⟩ := info_parts Tryd.info30
    have hown := World.ownsRow_made (base := w.heap.size) (e := 30) (size := 2) w #[] 0 (Nat.le_refl _) (by unfold maxLen; omega) rfl
    have HO := hid hown
    have HC := hid ((h.keep (bel_new w (.cells #[] 30))).cells)
    have HLL := hid (lst_len T len)
    have HFL := hid (show (flat (lst T len)).length = len * 2 by rw [flat_len, lst_len])
    have HF1 := hid (flat_one (lst T len))
    clear hown h hn
    go_enter Tryd.func37, Tryd.ntmps37
    go_wp2_with (at_builtin; (refine (wpList_append_rows (w.alloc (.cells #[] 30)) (by rfl) _ _ _ (by rfl) w.heap.size 30 i0 _ 2 32 Tryd.underlying22 hi hz0 hz1 hz2 rfl (by decide) (some ⟨w.heap.size, 0, none⟩) 0 0 [] (by rfl) HO.out (some ad) len cap (flat (lst T len)) (by rfl) HFL.out (fun e => by cases e) HC.out HF1.out (by unfold maxLen; omega) (by omega) (by simp) ?_)))
    intro ao' cap' w1 hown1 hg _
    have hO1 : Ow w1 w.heap.size ao' cap' (lst T len) := by
      unfold Ow
      rw [HLL.out]
      simpa using hown1
    have hbel : Below w.heap.size w w1 := ((Below.refl _ _).alloc (Nat.le_refl _) (.cells #[] 30)).trans ⟨hg.os, hg.tape, hg.output, hg.size, fun k hk => hg.block k (by simp; omega) (by simp [blk]; omega)⟩
    have H := hid (And.intro hO1 hbel)
    clear hown1 hg hO1 hbel HO HC
    go_wp2_with fail
    go_ret
    exact ⟨ao', cap', by simp, H.out.1, H.out.2⟩

/-- Tags with one that is so. -/
def stt (T : Nat → Tag) (len : Nat) (t : Tag) : List Tag := if fx (lk T (fold t.k)) len < 0 then lst T len ++ [t] else (lst T len).set (fx (lk T (fold t.k)) len).toNat t
/-- They, if they are right. -/
def okT (M : List Tag) : List Tag := if (chk (gt M) M.length).2 = 0 then M else []
/-- What a call of Set leaves. -/
def SetP (w : World) (M : List Tag) (e : Ending) (w' : World) : Prop := ∃ ao cap, e = .returned (.tuple #[.slice ao (okT M).length cap, .int .i64 (chk (gt M) M.length).2]) ∧ Ow w' w.heap.size ao cap (okT M) ∧ Below w.heap.size w w'
theorem Sz.app {T : Nat → Tag} {len : Nat} (h : Sz T len) {t : Tag} (hk : t.k.size ≤ 1099511627776) (hv : t.v.size ≤ 1099511627776) (hl : len ≤ 1073741824) : Sz (gt (lst T len ++ [t])) (lst T len ++ [t]).length := by
  have hg : ∀ i, i < len + 1 → gt (lst T len ++ [t]) i = if i < len then T i else t := by
    intro i hi
    unfold gt
    by_cases e : i < len
    · rw [if_pos e]; simp [List.getD, List.getElem?_append_left (show i < (lst T len).length by rw [lst_len]; exact e), lst_at T len i e]
    · obtain rfl : i = len := by omega
      rw [if_neg e]; simp [List.getD, lst_len]
  have hl2 : (lst T len ++ [t]).length = len + 1 := by rw [List.length_append, lst_len]; rfl
  rw [hl2]
  refine ⟨by omega, fun i hi => ?_, fun i hi => ?_⟩
  · rw [hg i hi]; split
    · exact h.k i (by assumption)
    · exact hk
  · rw [hg i hi]; split
    · exact h.v i (by assumption)
    · exact hv
theorem Sz.put {T : Nat → Tag} {len : Nat} (h : Sz T len) {t : Tag} (hk : t.k.size ≤ 1099511627776) (hv : t.v.size ≤ 1099511627776) (j : Nat) : Sz (gt ((lst T len).set j t)) ((lst T len).set j t).length := by
  have hl2 : ((lst T len).set j t).length = len := by rw [List.length_set, lst_len]
  have hg : ∀ i, i < len → gt ((lst T len).set j t) i = if j = i then t else T i := by
    intro i hi
    unfold gt
    by_cases e : j = i
    · subst e; rw [if_pos rfl]; simp [List.getD, lst_len, hi]
    · rw [if_neg e]; simp [List.getD, List.getElem?_set_ne e, lst_at T len i hi]
  rw [hl2]
  refine ⟨h.n, fun i hi => ?_, fun i hi => ?_⟩
  · rw [hg i hi]; split
    · exact hk
    · exact h.k i hi
  · rw [hg i hi]; split
    · exact hv
    · exact h.v i hi
theorem setp_ok {w w' : World} {M : List Tag} {ao : Option Addr} {cap : Nat} (hc : (chk (gt M) M.length).2 = 0) (ho : Ow w' w.heap.size ao cap M) (hb : Below w.heap.size w w') : SetP w M (.returned (.tuple #[.slice ao M.length cap, .int .i64 0])) w' := by
  have e : okT M = M := by unfold okT; rw [if_pos hc]
  refine ⟨ao, cap, ?_, by rw [e]; exact ho, hb⟩
  rw [e, hc]
theorem setp_no {w w' : World} {M : List Tag} {c : Int} (hc : c = (chk (gt M) M.length).2) (h0 : ¬ c = 0) (hb : Below w.heap.size w w') : SetP w M (.returned (.tuple #[.slice none 0 0, .int .i64 c])) w' := by
  subst hc
  have e : okT M = [] := by unfold okT; rw [if_neg h0]
  refine ⟨none, 0, ?_, by rw [e]; exact World.ownsRow_nil _ _ _ _, hb⟩
  rw [e]; rfl
end Go.Proofs.YtfkklmklbmdlhaaDoor.Tg
