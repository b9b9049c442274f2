/- Found blocks in memory by place; Lost of the document; the program's blocks as the document's. Conditions: at most 2^30 bytes, 2^30 blocks. -/
import Derived.Test.YtgcnbeigchppfaaMf
import Derived.Deep.MidRow
namespace Go.Proofs.Ytgcnbeigchppfaa.Mnd
open Go.RowKit Gen
attribute [local go_sem] Oper.semAt_some

/-- A list of found blocks lies in memory. -/
structure FAt (w : World) (a : Option Addr) (X : List Fnd) : Prop where
  c : ∀ (j : Nat) (x : Fnd), X[j]? = some x → ∃ g, a = some ⟨g, 0, none⟩ ∧ w.rangeAt g (j * 11) (fnl x)
theorem FAt.keep {w w' : World} {a : Option Addr} {X : List Fnd} (h : FAt w a X) (hb : Below w.heap.size w w') : FAt w' a X :=
  ⟨fun j x hj => by
    obtain ⟨g, ha, hc⟩ := h.c j x hj
    exact ⟨g, ha, fun m u hu => (hb.cell (p := ⟨g, j * 11 + m, none⟩) (World.block_lt_of_cell? w _ (hc m u hu))).trans (hc m u hu)⟩⟩
theorem row_addr {w : World} {B ty n c : Nat} {a : Option Addr} {xs : List Value} (h : w.ownsRow B ty 11 (.slice a n c) n xs) : (a = none ∧ n = 0) ∨ ∃ g, a = some ⟨g, 0, none⟩ ∧ B ≤ g := by
  rcases h.2 with ⟨hv, h0⟩ | ⟨g, c, cur, hv, q1, q2, q3, _⟩
  · cases hv; exact .inl ⟨rfl, h0⟩
  · cases hv
    exact .inr ⟨g, rfl, q1⟩
theorem FAt.of_row {w : World} {B ty n c : Nat} {a : Option Addr} {X : List Fnd} (h : w.ownsRow B ty 11 (.slice a n c) n (fns X)) : FAt w a X :=
  ⟨fun j x hj => by
    rcases row_addr h with ⟨_, hn⟩ | ⟨g, ha, _⟩
    · exfalso
      have h1 := h.1
      rw [fns_len, hn] at h1
      have h2 := (List.getElem?_eq_some_iff.1 hj).1
      omega
    · subst ha
      exact ⟨g, rfl, fun m u hu => by
        have h1 := h.cells (g := g) rfl (j * 11 + m) u (fns_at X j x m u hj hu)
        rw [Addr.add_lit, Nat.zero_add] at h1
        exact h1⟩⟩
theorem size54 : (Try.prog.info? 54).map (·.size) = some 11 := by kernel_rfl
theorem wr_8 {a c : Nat} (h : a ≤ 1073741824) (hc : c ≤ 1073741824) : wrap64 ((a : Int) - (c : Int) - 36) = (a : Int) - (c : Int) - 36 := IntWalk.wrap64_in _ (by omega)
theorem wr_9 {a c z : Nat} (h : a ≤ 1073741824) (hc : c ≤ 1073741824) (hz : z ≤ 16777216) : wrap64 ((a : Int) - (c : Int) - 36 - (z : Int)) = (a : Int) - (c : Int) - 36 - (z : Int) := IntWalk.wrap64_in _ (by omega)
theorem blen_take (b : List Nat) (S : List Nat) {k p : Nat} (h : S[k]? = some p) : blen b (S.take (k + 1)) = blen b (S.take k) + (36 + Head.szn (b.drop p)) := by
  rw [List.take_add_one, h]
  exact blen_snoc b _ p
theorem blen_le (b : List Nat) (S : List Nat) (k : Nat) : blen b (S.take k) ≤ blen b S := by
  have h : blen b S = blen b (S.take k) + blen b (S.drop k) := by
    unfold blen
    rw [← List.sum_append, ← List.map_append, List.take_append_drop]
  omega
set_option maxHeartbeats 4000000 in
set_option maxRecDepth 100000 in
theorem rlost_any {w : World} {ba : Option Addr} {b : List Nat} {bn bc : Nat} (hb : Byts w ba b) (hbn : b.length = bn) (hbc : bn ≤ bc) (hm : bn ≤ 1073741824) :
    Calls Try.prog 14 #[.slice ba bn bc] w fun e w' => e = .returned (.int .i64 ((bn : Int) - (blen b (sc b 0) : Int))) ∧ Below w.heap.size w w' := by
  have HR := hid (rscan_any hb hbn hbc hm)
  have htb : blen b (sc b 0) ≤ bn := by
    have h1 := sc_len b (b.length - 0 + 1) 0 (Nat.zero_le _)
    have h2 : scn b (b.length - 0 + 1) 0 = sc b 0 := rfl
    rw [h2] at h1
    omega
  have HTB := hid htb
  have HOK := hid (fun p (hp : p ∈ sc b 0) => (scn_ok b (b.length - 0 + 1) 0 p hp).2.2)
  clear hb htb
  go_enter Try.func14, Try.ntmps14
  go_wp2_with fail
  refine HR.out.mono ?_
  rintro e w2 ⟨aa, ca, X, rfl, hrow, hfs, hbel⟩
  have HFA := hid (FAt.of_row hrow)
  have HFS := hid hfs
  have HB2 := hid hbel
  clear hrow hfs hbel HR
  obtain ⟨S, hS⟩ : ∃ S, sc b 0 = S := ⟨_, rfl⟩
  rw [hS] at HFS HTB HOK ⊢
  have HSS := hid hS
  clear hS
  have hXS := HFS.out.len
  go_wp2_with fail
  go_loopg [3, 5] S.length (fun gh vn vk wr => ∃ k : Nat, k ≤ S.length ∧ gh = S.length - k ∧ vn = .int .i64 ((bn : Int) - (blen b (S.take k) : Int)) ∧ vk = .int .i64 (k : Int) ∧ wr = w2)
  case atStart => exact ⟨0, Nat.zero_le _, rfl, by show _ = Value.int .i64 ((bn : Int) - ((0 : Nat) : Int)); rw [show (bn : Int) - ((0 : Nat) : Int) = (bn : Int) by omega], rfl, rfl⟩
  case round =>
    obtain ⟨k, hk, hgh, rfl, rfl, rfl⟩ := hrel
    have HG := hid hgh
    clear hgh
    by_cases hlt : k < S.length
    rotate_left 1
    · obtain rfl : k = S.length := by omega
      have hkf : ¬ (S.length : Int) < (S.length : Int) := by omega
      go_wp2_with fail
      go_ret
      exact ⟨by rw [HSS.out]; rfl, HB2.out⟩
    have hlt2 : (k : Int) < (S.length : Int) := by omega
    obtain ⟨x, hx⟩ : ∃ x, X[k]? = some x := ⟨_, List.getElem?_eq_getElem (by omega)⟩
    obtain ⟨g, rfl, hc⟩ := HFA.out.c k x hx
    obtain ⟨p, hp, hok⟩ := HFS.out.ok k x hx
    have ho := HOK.out p (List.mem_of_getElem? hp)
    obtain ⟨_, hsz, _, hzl⟩ := Fil.op_ok ho
    rw [← hok.h] at hsz
    have f8 : wr.cell? ⟨g, k * 11 + 8, none⟩ = some (.int .i64 (Head.szn (b.drop p) : Int)) := by rw [← hsz]; exact hc 8 _ rfl
    have hbt := blen_take b S hp
    have hble := blen_le b S k
    have hc30 : blen b (S.take k) ≤ 1073741824 := by have := HTB.out; omega
    have hS30 : S.length ≤ 1073741824 := by have h1 := len_blen b S; have h2 := HTB.out; omega
    have HBT := hid hbt
    have hk30 : k ≤ 1073741824 := by omega
    have hk1 : wrap64 ((k : Int) + 1) = (k : Int) + 1 := wr_4 hk30
    have hw8 := wr_8 (a := bn) hm hc30
    have hw9 := wr_9 (a := bn) hm hc30 hzl
    clear hx hc hp hok ho hsz hzl hbt hble hc30 hS30 hk30
    obtain ⟨z, hz⟩ : ∃ z, Head.szn (b.drop p) = z := ⟨_, rfl⟩
    rw [hz] at f8 hw9 HBT
    have HW9 := hid hw9
    have HK1 := hid hk1
    clear hz
    go_wp2_with fail
    clear hw8 hw9 hk1
    go_roundg (S.length - (k + 1))
    case measure => rw [HG.out]; omega
    case rel => exact ⟨k + 1, by omega, rfl, by rw [HBT.out, show (bn : Int) - ((blen b (S.take k) + (36 + z) : Nat) : Int) = (bn : Int) - (blen b (S.take k) : Int) - 36 - (z : Int) by omega]; first | rfl | rw [HW9.out], by first | rfl | (rw [HK1.out]; rfl), rfl⟩
/-- What backs answers. -/
def BaP (w : World) (n : Nat) (X : List Fnd) (e : Ending) (w' : World) : Prop := ∃ ab cb, e = .returned (.slice ab n cb) ∧ FAt w' ab X ∧ Below w.heap.size w w'
set_option maxHeartbeats 4000000 in
set_option maxRecDepth 100000 in
theorem backs_any {w : World} {aa : Option Addr} {n ca : Nat} {X : List Fnd} (hX : X.length = n) (h : FAt w aa X) (hn : n ≤ 1073741824) :
    Calls Try.prog 10 #[.slice aa n ca] w (BaP w n X) := by
  have HF := hid h
  have HX := hid hX
  clear h hX
  go_enter Try.func10, Try.ntmps10
  go_wp2_with fail
  go_loopg [3, 4] n (fun gh vo vk wr => ∃ (k : Nat) (ab : Option Addr) (cb : Nat), k ≤ n ∧ gh = n - k ∧ vo = .slice ab k cb ∧ vk = .int .i64 (k : Int) ∧ wr.ownsRow w.heap.size 40 11 (.slice ab k cb) k (fns (X.take k)) ∧ Below w.heap.size w wr)
  case atStart => exact ⟨0, none, 0, Nat.zero_le _, rfl, rfl, rfl, World.ownsRow_nil _ _ _ _, Below.refl _ _⟩
  case round =>
    obtain ⟨k, ab, cb, hk, hgh, rfl, rfl, hrow, hbel⟩ := hrel
    have HG := hid hgh
    have HB := hid hbel
    have HRW := hid hrow
    clear hgh hbel
    by_cases hlt : k < n
    rotate_left 1
    · obtain rfl : k = n := by omega
      have hkf : ¬ (k : Int) < (k : Int) := by omega
      clear hrow
      go_wp2_with fail
      go_ret
      have e : X.take k = X := List.take_of_length_le (by rw [HX.out]; exact Nat.le_refl _)
      have hr := HRW.out
      rw [e] at hr
      exact ⟨ab, cb, rfl, FAt.of_row hr, HB.out⟩
    have hlt2 : (k : Int) < (n : Int) := by omega
    obtain ⟨x, hx⟩ : ∃ x, X[k]? = some x := ⟨_, List.getElem?_eq_getElem (by rw [HX.out]; exact hlt)⟩
    obtain ⟨g, rfl, hc⟩ := (HF.out.keep HB.out).c k x hx
    have HCE := hid hc
    have HXM := hid hx
    have hk1 : wrap64 ((k : Int) + 1) = (k : Int) + 1 := wr_4 (by omega)
    have hwsz := HB.out.size
    obtain ⟨i40, hi40, hz0, hz1, hz2⟩ := info_parts info40
    clear hx hc
    have f0 : wr.cell? ⟨g, k * 11, none⟩ = some (.int .i64 (x.at_ : Int)) := HCE.out 0 _ rfl
    have f1 : wr.cell? ⟨g, k * 11 + 1, none⟩ = some (.int .i64 x.h.k) := HCE.out 1 _ rfl
    have f2 : wr.cell? ⟨g, k * 11 + 2, none⟩ = some (.int .i64 x.h.ix) := HCE.out 2 _ rfl
    have f3 : wr.cell? ⟨g, k * 11 + 3, none⟩ = some (.int .i64 x.h.ln) := HCE.out 3 _ rfl
    have f4 : wr.cell? ⟨g, k * 11 + 4, none⟩ = some (.int .i64 x.h.st) := HCE.out 4 _ rfl
    have f5 : wr.cell? ⟨g, k * 11 + 5, none⟩ = some (.int .i64 x.h.bd) := HCE.out 5 _ rfl
    have f6 : wr.cell? ⟨g, k * 11 + 6, none⟩ = some (.bool x.h.la) := HCE.out 6 _ rfl
    have f7 : wr.cell? ⟨g, k * 11 + 7, none⟩ = some (.int .u32 (x.h.lk : Int)) := HCE.out 7 _ rfl
    have f8 : wr.cell? ⟨g, k * 11 + 8, none⟩ = some (.int .i64 x.h.sz) := HCE.out 8 _ rfl
    have f9 : wr.cell? ⟨g, k * 11 + 9, none⟩ = some (.slice x.a x.n x.cap) := HCE.out 9 _ rfl
    have f10 : wr.cell? ⟨g, k * 11 + 10, none⟩ = some (.int .u32 (x.s : Int)) := HCE.out 10 _ rfl
    go_wp2_with ((at_builtin; go_must (refine wpList_append_lies _ rfl (.tmp 11) (.tmp 16) 27 rfl w.heap.size 40 i40 _ 11 96 Try.underlying27 hi40 hz0 hz1 hz2 rfl (by decide) (.slice ab k cb) k (fns (X.take k)) rfl (hrow.alloc _) ⟨wr.heap.size, 0, none⟩ 1 _ (fnl x) rfl rfl (cells_new1 _ _ _) (fnl_one _) (by decide) (by unfold maxLen; omega) (by omega) (by show w.heap.size ≤ (wr.heap.push _).size; rw [Array.size_push]; omega) (wr.heap.size + 1) (Array.size_push _) ?_)))
    intro gg cap9 w9 how9 hg9 hat9 hlt9
    rw [ownBlock_slice] at hg9
    have haa : ∀ q, blk ab = some q → w.heap.size ≤ q := fun q hq => (HRW.out.lt q (by rw [ownBlock_slice]; exact hq)).1
    have hfr : Fr (fun q => blk ab = some q) wr w9 := ((Fr.refl _ wr).alloc _).grown hg9 (fun q hq _ => hq)
    have HB9 := hid (HB.out.trans ⟨hfr.os, hfr.tape, hfr.output, hfr.size, fun q hq => hfr.block q (Nat.lt_of_lt_of_le hq hwsz) (fun e => by have := haa q e; omega)⟩)
    have HR9 := hid (show w9.ownsRow w.heap.size 40 11 (.slice (some ⟨gg, 0, none⟩) (k + 1) cap9) (k + 1) (fns (X.take (k + 1))) from by
      have e1 : fns (X.take (k + 1)) = fns (X.take k) ++ fnl x := by rw [List.take_add_one, HXM.out]; exact fns_snoc _ _
      rw [e1]; exact how9)
    clear haa hfr how9 hg9 hat9 hlt9 hrow hi40 hz0 hz1 hz2 f0 f1 f2 f3 f4 f5 f6 f7 f8 f9 f10
    go_wp2_with fail
    go_roundg (n - (k + 1))
    case measure => rw [HG.out]; omega
    case rel => exact ⟨k + 1, _, _, by omega, rfl, rfl, by first | rfl | go_num, HR9.out, HB9.out⟩
end Go.Proofs.Ytgcnbeigchppfaa.Mnd
