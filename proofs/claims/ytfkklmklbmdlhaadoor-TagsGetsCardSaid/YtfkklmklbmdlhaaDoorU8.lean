/- Drop: both sides. Conditions: at most 2^30 tags, texts of at most 2^40 bytes. -/
import Derived.Test.YtfkklmklbmdlhaaDoorU6
namespace Go.Proofs.YtfkklmklbmdlhaaDoor.Tg
open Go.RowKit Gen

/-- Tags without those whose keys are alike. -/
def flt (kf : ByteArray) (l : List Tag) : List Tag := l.filter fun x => !decide (fold x.k = kf)
theorem lst_succ (T : Nat → Tag) (n : Nat) : lst T (n + 1) = lst T n ++ [T n] := by unfold lst; rw [List.range_succ, List.map_append]; rfl
theorem flt_no {kf : ByteArray} {T : Nat → Tag} {n : Nat} (h : lk T kf n = false) : flt kf (lst T (n + 1)) = flt kf (lst T n) ++ [T n] := by
  have h' : decide (fold (T n).k = kf) = false := h
  unfold flt; rw [lst_succ, List.filter_append]; simp [List.filter, h']
theorem flt_yes {kf : ByteArray} {T : Nat → Tag} {n : Nat} (h : lk T kf n = true) : flt kf (lst T (n + 1)) = flt kf (lst T n) := by
  have h' : decide (fold (T n).k = kf) = true := h
  unfold flt; rw [lst_succ, List.filter_append]; simp [List.filter, h']
theorem flt_all {kf : ByteArray} {T : Nat → Tag} : ∀ {n : Nat}, (∀ i, i < n → lk T kf i = false) → flt kf (lst T n) = lst T n
  | 0, _ => rfl
  | n + 1, h => by rw [flt_no (h n (by omega)), flt_all (fun i hi => h i (by omega)), lst_succ]
theorem flt_le (kf : ByteArray) (l : List Tag) : (flt kf l).length ≤ l.length := List.length_filter_le _ _
/-- What a call of Drop leaves. -/
def DropP (w : World) (M : List Tag) (e : Ending) (w' : World) : Prop := ∃ ao cap b off, e = .returned (.slice ao M.length cap) ∧ Tb w' ao M.length b off (gt M) ∧ Below w.heap.size w w'

set_option maxRecDepth 20000 in
set_option maxHeartbeats 2000000 in
theorem rdrop_any (w : World) {a : Option Addr} {len b off : Nat} {T : Nat → Tag} (h : Tb w a len b off T) (hl : len ≤ 1073741824) (hz : Sz T len) (key : ByteArray) (hk : key.size ≤ 1099511627776) (cap : Nat) :
    Calls Tryd.prog 18 #[.slice a len cap, .string key] w (DropP w (flt (fold key) (lst T len))) := by
  obtain ⟨M, hM⟩ : ∃ M, M = flt (fold key) (lst T len) := ⟨_, rfl⟩
  rw [← hM]
  have HM := hid hM
  have H := hid h
  have HC := hid fun (i : Nat) (hi : i < len) (w' : World) => rfold_any (T i).k (hz.k i hi) w'
  have HK := hid fun (w' : World) => rfold_any key hk w'
  clear hM h hz
  generalize fold key = kf at *
  obtain ⟨i0, hi, hz0, hz1, hz2⟩ := info_parts Tryd.info30
  go_enter Tryd.func18, Tryd.ntmps18
  go_wp2_with fail
  go_loopg [5, 6] len (fun g v i wr => ∃ (k n : Nat) (lo : Option Addr) (lcap : Nat), k ≤ len ∧ g = len - k ∧ i = .int .i64 k ∧ v = .slice lo n lcap ∧ n ≤ k ∧ Hid (n = (flt kf (lst T k)).length) ∧ Hid (Ow wr w.heap.size lo lcap (flt kf (lst T k))) ∧ Hid (Below w.heap.size w wr))
  case atStart => exact ⟨0, 0, none, 0, Nat.zero_le _, rfl, rfl, rfl, Nat.le_refl _, hid rfl, hid (World.ownsRow_nil _ _ _ _), hid (Below.refl _ _)⟩
  case round =>
    obtain ⟨k, n, lo, lcap, hkl, hg, rfl, rfl, hnk, HN, HO, HB⟩ := hrel
    have HG := hid hg
    clear hg
    by_cases hlt : k < len
    · have hlt2 : (k : Int) < (len : Int) := by omega
      obtain rfl := H.out.addr (by omega)
      have ck := (H.out.keep HB.out).k k hlt
      go_wp2_with fail
      refine (HC.out k hlt wr).mono ?_
      rintro e w' ⟨rfl, hb'⟩
      have HB2 := hid (HB.out.trans (hb'.mono HB.out.size))
      have HO2 := hid (HO.out.keep hb')
      clear hb' ck
      go_wp2_with fail
      refine (HK.out _).mono ?_
      rintro e w2 ⟨rfl, hb2⟩
      have HB3 := hid (HB2.out.trans (hb2.mono HB2.out.size))
      have HO3 := hid (HO2.out.keep hb2)
      clear hb2
      have hd := beq_text (fold (T k).k) kf
      have HD := hid (show lk T kf k = decide (fold (T k).k = kf) from rfl)
      generalize hDD : decide (fold (T k).k = kf) = D at *
      clear hDD
      generalize fold (T k).k = F at *
      cases D with
      | true =>
        have hne : (F.toList != kf.toList) = false := by unfold bne; rw [hd]; rfl
        have HY := hid (flt_yes (T := T) HD.out)
        go_wp2_with fail
        go_roundg (len - (k + 1))
        case measure => rw [HG.out]; omega
        case rel => exact ⟨k + 1, n, lo, lcap, by omega, rfl, by go_num, rfl, by omega, hid (by rw [HY.out]; exact HN.out), hid (by rw [HY.out]; exact HO3.out), HB3⟩
      | false =>
        have hne : (F.toList != kf.toList) = true := by unfold bne; rw [hd]; rfl
        have HY := hid (flt_no (T := T) HD.out)
        have hk3 := (H.out.keep HB3.out).k k hlt
        have hv3 := (H.out.keep HB3.out).v k hlt
        have ho3 : w2.ownsRow w.heap.size 30 2 (.slice lo n lcap) n (flat (flt kf (lst T k))) := by have := HO3.out; unfold Ow at this; rw [← HN.out] at this; exact this
        have HO3b := hid (own_block (w' := w2.alloc (.cells #[.string (T k).k, .string (T k).v] 30)) ho3 (fun g hg => by
          rcases own_at ho3 with ⟨rfl, _, _⟩ | ⟨g', rfl, _, hlt, _⟩
          · simp [blk] at hg
          · have e9 : g' = g := by simpa [blk] using hg
            exact (bel_new w2 _).block g (e9 ▸ hlt)))
        have HOB := hid fun (j : Nat) (hj : blk lo = some j) => (show w.heap.size ≤ j by
          rcases own_at ho3 with ⟨rfl, _, _⟩ | ⟨g', rfl, hgB, _, _⟩
          · simp [blk] at hj
          · have e9 : g' = j := by simpa [blk] using hj
            omega)
        have HNB := hid (World.news_of_block (w := w2.alloc (.cells #[.string (T k).k, .string (T k).v] 30)) (cs := #[.string (T k).k, .string (T k).v]) (t := 30) (fr := (0, 0)) (heap_alloc_new w2 _))
        have HSZ3 := hid HB3.out.size
        clear ho3
        go_wp2_with (at_builtin; (refine (wpList_append_rows (w2.alloc (.cells #[.string (T k).k, .string (T k).v] 30)) (by rfl) _ _ _ (by rfl) w.heap.size 30 i0 _ 2 32 Tryd.underlying22 hi hz0 hz1 hz2 rfl (by decide) lo n lcap (flat (flt kf (lst T k))) (by rfl) HO3b.out (some ⟨w2.heap.size, 0, none⟩) 1 1 [.string (T k).k, .string (T k).v] (by rfl) rfl (fun e => by cases e) (fun ad e => by cases e; exact HNB.out) (by simp [Value.oneCell']) (by unfold maxLen; omega) (by omega) (by have := HSZ3.out; simp; omega) ?_)))
        intro ao' cap' w4 hown4 hg4 _
        have ho4 : Ow w4 w.heap.size ao' cap' (flt kf (lst T k) ++ [T k]) := by
          unfold Ow
          rw [flat_app, List.length_append, ← HN.out]
          exact hown4
        have hb4 : Below w.heap.size w w4 := HB3.out.trans (((bel_new w2 _).mono HB3.out.size).trans ⟨hg4.os, hg4.tape, hg4.output, by have := hg4.size; have := HB3.out.size; simp at *; omega, fun j hj => hg4.block j (by have := HB3.out.size; simp; omega) (by
          intro e9
          have := HOB.out j e9.symm
          omega)⟩)
        have HO4 := hid ho4
        have HB4 := hid hb4
        clear hown4 hg4 ho4 hb4 HO HO2 HO3 HO3b
        go_wp2_with fail
        go_roundg (len - (k + 1))
        case measure => rw [HG.out]; omega
        case rel => exact ⟨k + 1, n + 1, ao', cap', by omega, rfl, by go_num, rfl, by omega, hid (by rw [HY.out, List.length_append, ← HN.out]; rfl), hid (by rw [HY.out]; exact HO4.out), HB4⟩
    · have hge : ¬ (k : Int) < (len : Int) := by omega
      obtain rfl : k = len := by omega
      go_wp2_with fail
      go_ret
      obtain ⟨b4, t4, _, _⟩ := HO.out.tb
      exact ⟨lo, lcap, b4, 0, by rw [HM.out, ← HN.out]; rfl, by rw [HM.out]; exact t4, HB.out⟩
end Go.Proofs.YtfkklmklbmdlhaaDoor.Tg
