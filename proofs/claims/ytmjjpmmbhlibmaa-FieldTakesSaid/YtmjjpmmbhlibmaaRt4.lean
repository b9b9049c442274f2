/- The document's Is. Conditions: fewer than 2^40 bytes. -/
import Derived.Test.YtmjjpmmbhlibmaaRt3
namespace Go.Proofs.Ytmjjpmmbhlibmaa.Fld
open Go.RowKit Gen

theorem nx_full (s : TS) (k : Nat) (f : Bool) (h : (nx s k f).2.F = 0) : (nx s k f).1.length = k := by
  unfold nx at h ⊢
  split
  · rename_i h0; rw [if_pos h0] at h; exact absurd h h0
  · rename_i h0
    rw [if_neg h0] at h
    split
    · rename_i h1; rw [if_pos h1] at h; cases h
    · rename_i h1
      rw [if_neg h1] at h
      split
      · rename_i h2; rw [if_pos h2] at h; cases h
      · rename_i h2
        rw [List.length_take]
        omega

set_option maxRecDepth 100000 in
set_option maxHeartbeats 2000000 in
theorem ris_take {w0 w : World} {r cap : Nat} {a : Option Addr} {L : List Nat} {s : TS} (hS : Src w0 a cap L) (h : RtS w r a cap L s) (hb : Below w0.heap.size w0 w) (hr : w0.heap.size ≤ r)
    {am : Option Addr} {m : List Nat} {c : Nat} (hm : Byts w am m) (hq : ∀ b off, am = some ⟨b, off, none⟩ → b ≠ r) (hml : m.length ≤ 1073741824) :
    Calls Try.prog 36 #[.pointer (some ⟨r, 0, none⟩), .slice am m.length c] w (RTook w r a cap L (nx s m.length false).2 (.bool (isB s m))) := by
  have HS := hid hS
  have H0 := hid h
  have HM := hid hm
  clear h hS hm
  go_enter Try.func36, Try.ntmps36
  go_wp2_with fail
  refine (rnext_any HS.out H0.out (m.length : Int) false).mono ?_
  rintro e w1 ⟨ao, c', rfl, hby, hrs, hfr⟩
  have hby1 := hby.keep (bel_fr hb hfr hr)
  have hm1 : Byts w1 am m := HM.out.stay hfr (fun b off e e2 => hq b off e e2)
  have H1 := hid (And.intro hrs hfr)
  have HB := hid hby1
  have HM1 := hid hm1
  have d2 := hrs.1.c2
  have HI := hid (show isB s m = (decide ((nx s m.length false).2.F = 0) && decide ((nx s m.length false).1 = m)) from rfl)
  have HFL := hid (nx_full s m.length false)
  clear hby hby1 hrs hfr hm1
  generalize hs1 : (nx s (m.length : Int) false).2 = s1 at *
  generalize ht : (nx s (m.length : Int) false).1 = t at *
  by_cases hF : s1.F = 0
  · have hz2 : ((s1.F : Int) != 0) = false := by rw [hF]; rfl
    have htl := HFL.out hF
    have HF := hid hF
    have HTL := hid htl
    rw [htl]
    clear hF hs1 ht HFL htl
    go_wp2_with fail
    go_loopw [6] (fun i wr => ∃ j nq : Nat, j ≤ m.length ∧ i = .int .i64 j ∧ wr = w1.drewN nq ∧ t.take j = m.take j) (fun i _ => m.length - (intOf i).toNat)
    case atStart => exact ⟨0, 0, Nat.zero_le _, rfl, rfl, rfl⟩
    case round =>
      obtain ⟨j, nq, hj, rfl, rfl, heq⟩ := hrel
      have HEQ := hid heq
      clear heq
      by_cases hlt : j < m.length
      · have hlt1 : (j : Int) < (m.length : Int) := by omega
        obtain ⟨y, hy⟩ : ∃ y, m[j]? = some y := ⟨_, List.getElem?_eq_getElem hlt⟩
        obtain ⟨x, hx⟩ : ∃ x, t[j]? = some x := ⟨_, List.getElem?_eq_getElem (by rw [HTL.out]; exact hlt)⟩
        obtain ⟨bx, offx, rfl, hcx⟩ := HB.out.at_ j x hx
        obtain ⟨bm, offm, rfl, hcm⟩ := HM1.out.at_ j y hy
        have HXY := hid (And.intro hx hy)
        clear hx hy
        by_cases hxy : x = y
        · have hne : ((x : Int) != (y : Int)) = false := by rw [hxy]; simp
          have HE := hid hxy
          clear hxy
          go_wp2_with fail
          go_quiet (fail)
          go_wp2_with fail
          go_roundw
          case rel =>
            refine ⟨j + 1, _, by omega, by go_num, rfl, ?_⟩
            rw [List.take_add_one, List.take_add_one, HXY.out.1, HXY.out.2, HE.out, HEQ.out]
          case measure => simp [intOf]; omega
        · have hne : ((x : Int) != (y : Int)) = true := by rw [bne_iff_ne]; omega
          have HE := hid hxy
          clear hxy
          go_wp2_with fail
          go_quiet (fail)
          go_wp2_with fail
          go_ret
          refine ⟨?_, (H1.out.1.drewN _).drewN _, (H1.out.2.trans (frdrew _)).trans (frdrew _)⟩
          rw [HI.out, decide_eq_false (p := t = m) (fun e => by
            have h1 := HXY.out.1; rw [e, HXY.out.2] at h1; injection h1 with h1; exact HE.out h1.symm), Bool.and_false]
          rfl
      · obtain rfl : j = m.length := by omega
        go_wp2_with fail
        go_ret
        refine ⟨?_, H1.out.1.drewN _, H1.out.2.trans (frdrew _)⟩
        have he := HEQ.out
        rw [List.take_length, ← HTL.out, List.take_length] at he
        rw [HI.out, decide_eq_true HF.out, decide_eq_true he]
        rfl
  · have hz2 : ((s1.F : Int) != 0) = true := by rw [bne_iff_ne]; omega
    have HF := hid hF
    clear hF hs1 ht HFL
    go_wp2_with fail
    go_ret
    exact ⟨by rw [HI.out, decide_eq_false HF.out]; rfl, H1.out.1, H1.out.2⟩
end Go.Proofs.Ytmjjpmmbhlibmaa.Fld
