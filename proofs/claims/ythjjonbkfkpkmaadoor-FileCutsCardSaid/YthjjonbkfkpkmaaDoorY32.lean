/- The parts of a file in one list. Conditions: fewer than 2^32 parts. -/
import Derived.Test.YthjjonbkfkpkmaaDoorY24
import Derived.Test.YthjjonbkfkpkmaaDoorY21
import Derived.Deep.LoopGhost
namespace Go.Proofs.YthjjonbkfkpkmaaDoor.Fil
open Go.RowKit Gen

set_option maxRecDepth 100000 in
theorem Bb.vals {w : World} {a : Option Addr} {n b off : Nat} {L : Nat → List Nat} (h : Bb w a n b off L) :
    ∃ V : List Value, V.length = n ∧ (∀ j u, V[j]? = some u → w.cell? ⟨b, off + j, none⟩ = some u ∧ ∃ p cap, u = .slice p (L j).length cap ∧ Byts w p (L j)) := by
  have aux : ∀ m, m ≤ n → ∃ V : List Value, V.length = m ∧ (∀ j u, V[j]? = some u → w.cell? ⟨b, off + j, none⟩ = some u ∧ ∃ p cap, u = .slice p (L j).length cap ∧ Byts w p (L j)) := by
    intro m
    induction m with
    | zero => exact fun _ => ⟨[], rfl, fun j u h => by simp at h⟩
    | succ m ih =>
      intro hm
      obtain ⟨V, hl, hv⟩ := ih (by omega)
      obtain ⟨p, cap, hc, hb, _⟩ := h.c m (by omega)
      refine ⟨V ++ [.slice p (L m).length cap], by rw [List.length_append, hl]; rfl, fun j u hj => ?_⟩
      by_cases e : j < m
      · rw [List.getElem?_append_left (by omega)] at hj
        exact hv j u hj
      · have hjm : j = m := by
          have := (List.getElem?_eq_some_iff.1 hj).1
          rw [List.length_append, hl] at this
          simp at this
          omega
        subst hjm
        rw [List.getElem?_append_right (by omega), hl, Nat.sub_self] at hj
        simp at hj
        subst hj
        exact ⟨hc, p, cap, rfl, hb⟩
  exact aux n (Nat.le_refl _)
set_option maxRecDepth 100000 in
theorem flat_range (L : Nat → List Nat) : ∀ n, ((List.range n).map L).flatten = flat L n
  | 0 => rfl
  | n + 1 => by
    rw [List.range_succ, List.map_append, List.flatten_append, flat_range L n]
    show flat L n ++ ([L n]).flatten = flat L n ++ L n
    simp
set_option maxRecDepth 100000 in
theorem range_at (L : Nat → List Nat) (n j : Nat) (h : j < n) : ((List.range n).map L)[j]? = some (L j) := by
  rw [List.getElem?_map, List.getElem?_range h]; rfl

set_option maxRecDepth 100000 in
theorem pack_any {w : World} {af aw ax ab : Option Addr} {lF lW lT : List Nat} {cf cw cx nf nw nt n capb bb bo : Nat} {L : Nat → List Nat}
    (hf : Byts w af lF) (hw : Byts w aw lW) (ht : Byts w ax lT) (ef : lF.length = nf) (ew : lW.length = nw) (et : lT.length = nt) (hb : Bb w ab n bb bo L) (hn : n ≤ 4294960000) :
    Calls Tryd.prog 19 #[.slice (some ⟨w.heap.size + 1 + 1, 0, none⟩) 3 3]
      (((w.alloc (.cells #[.slice af nf cf, .slice aw nw cw] 28)).alloc (.cells #[.slice ax nt cx] 28)).alloc (.cells #[.slice (some ⟨w.heap.size, 0, none⟩) 2 2, .slice ab n capb, .slice (some ⟨w.heap.size + 1, 0, none⟩) 1 1] 27))
      fun e w' => ∃ gg cap vs, e = .returned (.slice (some ⟨gg, 0, none⟩) (n + 3) cap) ∧ n + 3 ≤ cap ∧ Parts w' ⟨gg, 0, none⟩ vs ([lF, lW] ++ (List.range n).map L ++ [lT]) ∧ Below w.heap.size w w' := by
  have b1 := Inf.below_new w (.cells #[.slice af nf cf, .slice aw nw cw] 28)
  have n1 := heap_alloc_new w (.cells #[.slice af nf cf, .slice aw nw cw] 28)
  have z1 : (w.alloc (.cells #[.slice af nf cf, .slice aw nw cw] 28)).heap.size = w.heap.size + 1 := Array.size_push _
  generalize w.alloc (.cells #[.slice af nf cf, .slice aw nw cw] 28) = w1 at *
  have b2 := Inf.below_new w1 (.cells #[.slice ax nt cx] 28)
  have n2 := heap_alloc_new w1 (.cells #[.slice ax nt cx] 28)
  have z2 : (w1.alloc (.cells #[.slice ax nt cx] 28)).heap.size = w1.heap.size + 1 := Array.size_push _
  generalize w1.alloc (.cells #[.slice ax nt cx] 28) = w2 at *
  have b3 := Inf.below_new w2 (.cells #[.slice (some ⟨w.heap.size, 0, none⟩) 2 2, .slice ab n capb, .slice (some ⟨w.heap.size + 1, 0, none⟩) 1 1] 27)
  have n3 := heap_alloc_new w2 (.cells #[.slice (some ⟨w.heap.size, 0, none⟩) 2 2, .slice ab n capb, .slice (some ⟨w.heap.size + 1, 0, none⟩) 1 1] 27)
  have z3 : (w2.alloc (.cells #[.slice (some ⟨w.heap.size, 0, none⟩) 2 2, .slice ab n capb, .slice (some ⟨w.heap.size + 1, 0, none⟩) 1 1] 27)).heap.size = w2.heap.size + 1 := Array.size_push _
  generalize w2.alloc (.cells #[.slice (some ⟨w.heap.size, 0, none⟩) 2 2, .slice ab n capb, .slice (some ⟨w.heap.size + 1, 0, none⟩) 1 1] 27) = w3 at *
  have b13 : Below w1.heap.size w1 w3 := b2.trans (b3.mono b2.size)
  have b03 : Below w.heap.size w w3 := b1.trans (b13.mono b1.size)
  have r1 : w3.heap[w.heap.size]? = some (.cells #[.slice af nf cf, .slice aw nw cw] 28 (0, 0)) := (b13.block _ (by omega)).trans n1
  have r2 : w3.heap[w.heap.size + 1]? = some (.cells #[.slice ax nt cx] 28 (0, 0)) := by rw [← z1]; exact (b3.block _ (by omega)).trans n2
  have r3 : w3.heap[w.heap.size + 1 + 1]? = some (.cells #[.slice (some ⟨w.heap.size, 0, none⟩) 2 2, .slice ab n capb, .slice (some ⟨w.heap.size + 1, 0, none⟩) 1 1] 27 (0, 0)) := by
    have h := n3
    rw [show w2.heap.size = w.heap.size + 1 + 1 by omega] at h
    exact h
  obtain ⟨V, hVl, hV⟩ := (hb.keep b03).vals
  obtain ⟨la, hla⟩ : ∃ la : Nat → Option Addr, la = fun i => if i = 0 then some ⟨w.heap.size, 0, none⟩ else if i = 1 then ab else some ⟨w.heap.size + 1, 0, none⟩ := ⟨_, rfl⟩
  obtain ⟨Ln, hLn⟩ : ∃ Ln : Nat → Nat, Ln = fun i => if i = 0 then 2 else if i = 1 then n else 1 := ⟨_, rfl⟩
  obtain ⟨lc, hlc⟩ : ∃ lc : Nat → Nat, lc = fun i => if i = 0 then 2 else if i = 1 then capb else 1 := ⟨_, rfl⟩
  obtain ⟨VV, hVV⟩ : ∃ VV : Nat → List Value, VV = fun i => if i = 0 then [.slice af nf cf, .slice aw nw cw] else if i = 1 then V else [.slice ax nt cx] := ⟨_, rfl⟩
  have hcs : csum Ln 3 = n + 3 := by subst hLn; show 0 + 2 + n + 1 = n + 3; omega
  have hcat : ccat VV 3 = [.slice af nf cf, .slice aw nw cw] ++ V ++ [.slice ax nt cx] := by subst hVV; rfl
  have three : ∀ i, i < 3 → i = 0 ∨ i = 1 ∨ i = 2 := fun i hi => by omega
  have H := concat_any w3 (w.heap.size + 1 + 1) la Ln lc VV (by omega) ?_ ?_ ?_ ?_ ?_ (by omega) (by omega)
  · refine H.mono ?_
    rintro e w' ⟨lo, lcap, rfl, hown, hbel⟩
    rw [hcs] at hown ⊢
    rw [hcat] at hown
    have hb' : Below w.heap.size w w' := b03.trans (hbel.mono b03.size)
    rcases ownsRow_at hown with ⟨_, h0, _, _⟩ | ⟨gg, rfl⟩
    · omega
    refine ⟨gg, lcap, [.slice af nf cf, .slice aw nw cw] ++ V ++ [.slice ax nt cx], rfl, own_le hown, ⟨?_, fun j v hj => ?_, fun j v l hv hl => ?_⟩, hb'⟩
    · simp only [List.length_append, List.length_cons, List.length_nil, List.length_map, List.length_range, hVl]
    · rw [Addr.add_lit, Nat.zero_add]
      exact ownsRow_cell hown j v hj
    · by_cases h2 : j < 2
      · rw [List.append_assoc, List.getElem?_append_left (show j < [Value.slice af nf cf, .slice aw nw cw].length from h2)] at hv
        rw [List.append_assoc, List.getElem?_append_left (show j < [lF, lW].length from h2)] at hl
        rcases (show j = 0 ∨ j = 1 by omega) with e | e <;> subst e
        · simp at hv hl
          subst hv; subst hl
          exact ⟨af, cf, by rw [ef], hf.keep hb'⟩
        · simp at hv hl
          subst hv; subst hl
          exact ⟨aw, cw, by rw [ew], hw.keep hb'⟩
      · by_cases h3 : j < n + 2
        · rw [List.getElem?_append_left (by simp [hVl]; omega), List.getElem?_append_right (by simp; omega)] at hv
          rw [List.getElem?_append_left (by simp; omega), List.getElem?_append_right (by simp; omega)] at hl
          simp only [List.length_cons, List.length_nil] at hv hl
          rw [range_at L n (j - 2) (by omega)] at hl
          cases hl
          obtain ⟨_, p, cap, rfl, hby⟩ := hV (j - 2) v hv
          exact ⟨p, cap, rfl, hby.keep hbel⟩
        · rw [List.getElem?_append_right (by simp [hVl]; omega)] at hv
          rw [List.getElem?_append_right (by simp; omega)] at hl
          have e0 : j - ([Value.slice af nf cf, .slice aw nw cw] ++ V).length = 0 := by
            have := (List.getElem?_eq_some_iff.1 hv).1
            simp at this
            simp [hVl] at this ⊢
            omega
          have e1 : j - ([lF, lW] ++ (List.range n).map L).length = 0 := by
            simp [hVl] at e0
            simp
            omega
          rw [e0] at hv
          rw [e1] at hl
          simp at hv hl
          subst hv; subst hl
          exact ⟨ax, cx, by rw [et], ht.keep hb'⟩
  · intro i hi
    subst hla hLn hlc
    rcases three i hi with rfl | rfl | rfl
    · exact Inf.row_cell r3 0 rfl
    · exact Inf.row_cell r3 1 rfl
    · exact Inf.row_cell r3 2 rfl
  · intro i hi
    subst hVV hLn
    rcases three i hi with rfl | rfl | rfl
    · rfl
    · exact hVl
    · rfl
  · intro i hi h0
    subst hla hLn
    rcases three i hi with rfl | rfl | rfl
    · cases h0
    · show n = 0
      by_cases e : 0 < n
      · have := hb.addr e
        rw [show ab = none from h0] at this
        cases this
      · omega
    · cases h0
  · intro i hi w' hbw ad had j u hj
    subst hla hVV
    rcases three i hi with rfl | rfl | rfl
    · cases had
      rw [Addr.add_lit, Nat.zero_add]
      refine (hbw.cell (p := ⟨w.heap.size, j, none⟩) (by show w.heap.size < w3.heap.size; omega)).trans ?_
      have hj2 : ([Value.slice af nf cf, .slice aw nw cw] : List Value)[j]? = some u := hj
      unfold World.cell?
      rw [r1]
      simpa using hj2
    · have hj2 : V[j]? = some u := hj
      have e := (hb.addr (by have := (List.getElem?_eq_some_iff.1 hj2).1; omega)).symm.trans had
      cases e
      obtain ⟨hc, _⟩ := hV j u hj2
      rw [Addr.add_lit]
      exact (hbw.cell (p := ⟨bb, bo + j, none⟩) (World.block_lt_of_cell? w3 _ hc)).trans hc
    · cases had
      rw [Addr.add_lit, Nat.zero_add]
      refine (hbw.cell (p := ⟨w.heap.size + 1, j, none⟩) (by show w.heap.size + 1 < w3.heap.size; omega)).trans ?_
      have hj2 : ([Value.slice ax nt cx] : List Value)[j]? = some u := hj
      unfold World.cell?
      rw [r2]
      simpa using hj2
  · intro i hi u hu
    subst hVV
    rcases three i hi with rfl | rfl | rfl
    · have : u ∈ [Value.slice af nf cf, .slice aw nw cw] := hu
      simp at this
      rcases this with rfl | rfl <;> rfl
    · have hu2 : u ∈ V := hu
      obtain ⟨j, hj⟩ := List.mem_iff_getElem?.1 hu2
      obtain ⟨_, p, cap, rfl, _⟩ := hV j u hj
      rfl
    · have : u ∈ [Value.slice ax nt cx] := hu
      simp at this
      subst this; rfl
end Go.Proofs.YthjjonbkfkpkmaaDoor.Fil
namespace Go.Proofs.YthjjonbkfkpkmaaDoor.Fil
open Go.RowKit Gen
open Tl (il il_app rise TRt)
attribute [local go_sem] Oper.semAt_some

set_option maxRecDepth 100000 in
theorem nx_new (w : World) (i : Inf.If) (x : Int) (q : Value) : Nx (w.alloc (.cells #[.int .i64 i.k, .int .i64 i.f.ch, .int .i64 i.f.bits, .int .i64 i.f.rate, .int .i64 i.bk, .int .i64 i.sh, .int .i64 x, .slice none 0 0, .int .i64 0, .bool false, q] 64)) w.heap.size i x none 0 0 0 false ∧
    (w.alloc (.cells #[.int .i64 i.k, .int .i64 i.f.ch, .int .i64 i.f.bits, .int .i64 i.f.rate, .int .i64 i.bk, .int .i64 i.sh, .int .i64 x, .slice none 0 0, .int .i64 0, .bool false, q] 64)).cell? ⟨w.heap.size, 10, none⟩ = some q := by
  have h := heap_alloc_new w (.cells #[.int .i64 i.k, .int .i64 i.f.ch, .int .i64 i.f.bits, .int .i64 i.f.rate, .int .i64 i.bk, .int .i64 i.sh, .int .i64 x, .slice none 0 0, .int .i64 0, .bool false, q] 64)
  exact ⟨⟨Inf.row_cell h 0 rfl, Inf.row_cell h 1 rfl, Inf.row_cell h 2 rfl, Inf.row_cell h 3 rfl, Inf.row_cell h 4 rfl, Inf.row_cell h 5 rfl, Inf.row_cell h 6 rfl, Inf.row_cell h 7 rfl, Inf.row_cell h 8 rfl, Inf.row_cell h 9 rfl, Inf.row_frozen h⟩, Inf.row_cell h 10 rfl⟩
/-- What stands ahead of block k; w3: the world in which the maker was made. -/
structure BLp (w3 : World) (g t : Nat) (i : Inf.If) (L : Nat → List Nat) (at0 k : Nat) (ap : Option Addr) (capp : Nat) (wr : World) : Prop where
  e0 : ber i L at0 k = 0
  nx : Nx wr g i ((bst i L at0 k).at_ : Int) ap k capp (bst i L at0 k).c (bst i L at0 k).sh
  own : wr.ownsRow g 3 1 (.slice ap k capp) k (il (bst i L at0 k).P)
  far : blk ap ≠ some g
  c10 : wr.cell? ⟨g, 10, none⟩ = some (.pointer (some ⟨t, 0, none⟩))
  bel : Below g w3 wr

set_option maxHeartbeats 4000000 in
set_option maxRecDepth 100000 in
theorem build_any {w : World} {t : Nat} (ht : Crc.Tab w t) (hT : Tg.Tabs w) (i : Inf.If) {a : Option Addr} {len b off : Nat} {T : Nat → Tg.Tag} (hl : Tg.Tb w a len b off T) (hz : Tg.Sz T len) {capt : Nat} (hct : len ≤ capt)
    {ab : Option Addr} {n bb bo capb : Nat} {L : Nat → List Nat} (hb : Bb w ab n bb bo L) (hf : Fwb L n) {s : Nat} (hs : s < 4294967296) :
    Calls Tryd.prog 9 #[.pointer (some ⟨t, 0, none⟩), Inf.iv i, .slice a len capt, .slice ab n capb, .int .u32 (s : Int)] w (PutF w (bdE i T len L n) (bdB i T len L n s)) := by
  obtain ⟨at0, hat0⟩ : ∃ at0, at0 = 19 + (Tg.pby (Tg.lst T len)).length := ⟨_, rfl⟩
  have HE1 := hid (show ¬ Inf.Rt i → bdE i T len L n = 32 from fun h => if_pos h)
  have HE2 := hid (show Inf.Rt i → (Tg.chk T len).2 ≠ 0 → bdE i T len L n = (Tg.chk T len).2 from fun h h2 => by unfold bdE; rw [if_neg (fun e => e h), if_pos h2])
  have HE3 := hid (show Inf.Rt i → (Tg.chk T len).2 = 0 → bdE i T len L n = ber i L at0 n from fun h h2 => by unfold bdE; rw [if_neg (fun e => e h), if_neg (fun e => e h2), hat0])
  have HB0 := hid (show bdE i T len L n ≠ 0 → bdB i T len L n s = [] from fun h => if_neg h)
  have HB1 := hid (show bdE i T len L n = 0 → bdB i T len L n s = Inf.iby i ++ Tg.pby (Tg.lst T len) ++ flat L n ++ Tl.tby (bst i L at0 n).c s (bst i L at0 n).P from fun h => by unfold bdB; rw [if_pos h, hat0])
  generalize bdE i T len L n = E at *
  generalize bdB i T len L n s = R at *
  have HTB := hid ht
  have HTT := hid hT
  have HBB := hid hb
  have HFW := hid hf
  have hb0 := Inf.below_new w (.cells (Inf.ivl i) 25)
  have HI1 := hid (iput_all (ht.keep (hb0.block t ht.lt)) i)
  have HG := hid fun (w' : World) (hb' : Below w.heap.size w w') => gput_all (ht.keep (hb'.block t ht.lt)) (hT.keep hb') (hl.keep hb') hz hct
  have HB00 := hid hb0
  clear ht hT hl hb hf hz hct hb0
  obtain ⟨ik, ⟨ich, ibits, irate⟩, ibk, ish⟩ := i
  obtain ⟨iw, hiw⟩ : ∃ iw : Inf.If, iw = ⟨ik, ⟨ich, ibits, irate⟩, ibk, ish⟩ := ⟨_, rfl⟩
  rw [← hiw] at HE1 HE2 HE3 HB1 
  have HIW := hid hiw
  change Calls Tryd.prog 9 #[.pointer (some ⟨t, 0, none⟩), .agg #[.int .i64 ik, .int .i64 ich, .int .i64 ibits, .int .i64 irate, .int .i64 ibk, .int .i64 ish], .slice a len capt, .slice ab n capb, .int .u32 (s : Int)] w _
  change Hid (Calls Tryd.prog 14 #[.pointer (some ⟨t, 0, none⟩), .agg #[.int .i64 ik, .int .i64 ich, .int .i64 ibits, .int .i64 irate, .int .i64 ibk, .int .i64 ish]] (w.alloc (.cells #[.int .i64 ik, .int .i64 ich, .int .i64 ibits, .int .i64 irate, .int .i64 ibk, .int .i64 ish] 25)) (PutF (w.alloc (.cells #[.int .i64 ik, .int .i64 ich, .int .i64 ibits, .int .i64 irate, .int .i64 ibk, .int .i64 ish] 25)) _ _)) at HI1
  change Hid (Below w.heap.size w (w.alloc (.cells #[.int .i64 ik, .int .i64 ich, .int .i64 ibits, .int .i64 irate, .int .i64 ibk, .int .i64 ish] 25))) at HB00
  rw [← hiw] at HI1
  clear hiw
  have HBX := hid (show Inf.Bx (w.alloc (.cells #[.int .i64 ik, .int .i64 ich, .int .i64 ibits, .int .i64 irate, .int .i64 ibk, .int .i64 ish] 25)) w.heap.size ⟨ik, ⟨ich, ibits, irate⟩, ibk, ish⟩ from Inf.Bx.new w (⟨ik, ⟨ich, ibits, irate⟩, ibk, ish⟩ : Inf.If))
  by_cases hr : Inf.Rt iw
  rotate_left 1
  · rw [if_neg hr, if_neg hr] at HI1
    have hE := HE1.out hr
    have hR := HB0.out (by rw [hE]; decide)
    subst hE
    subst hR
    go_enter Tryd.func9, Tryd.ntmps9
    go_wp2_with fail
    refine HI1.out.mono ?_
    rintro e w1 ⟨af, cf, rfl, hbf, _, _, _, hb1⟩
    have HB1' := hid (HB00.out.trans (hb1.mono HB00.out.size))
    go_wp2_with fail
    go_ret2
    exact putf_none 32 HB1'.out
  rw [if_pos hr, if_pos hr] at HI1
  have hilen := Inf.iby_len iw
  by_cases hk : (Tg.chk T len).2 = 0
  rotate_left 1
  · have hE := HE2.out hr hk
    have hR := HB0.out (by rw [hE]; exact hk)
    rw [← hE] at HG hk
    subst hR
    clear HE1 HE2 HE3 HB1 hE
    have hk' : (E != 0) = true := bne_iff_ne.2 hk
    rw [if_neg hk] at HG
    go_enter Tryd.func9, Tryd.ntmps9
    go_wp2_with fail
    refine HI1.out.mono ?_
    rintro e w1 ⟨af, cf, rfl, hbf, _, _, _, hb1⟩
    have HB1' := hid (HB00.out.trans (hb1.mono HB00.out.size))
    clear hbf hb1
    go_wp2_with fail
    refine (HG.out w1 HB1'.out).mono ?_
    rintro e w2 ⟨aw, cw, rfl, hbw, _, _, _, hb2⟩
    have HB2' := hid (HB1'.out.trans (hb2.mono HB1'.out.size))
    clear hbw hb2
    go_wp2_with fail
    go_ret2
    exact putf_none _ HB2'.out
  have HE := hid (HE3.out hr hk)
  rw [hk, if_pos rfl] at HG
  have HLW : Hid (∃ Lw, (Tg.pby (Tg.lst T len)).length = Lw) := hid ⟨_, rfl⟩
  have htb := Tg.tbs_lst_le hk len (Nat.le_refl _)
  have hpl := pby_len (Tg.lst T len)
  have HPL := hid (show (Tg.pby (Tg.lst T len)).length ≤ 4210823 from by omega)
  clear HE1 HE2 HE3 htb hpl
  go_enter Tryd.func9, Tryd.ntmps9
  go_wp2_with fail
  refine HI1.out.mono ?_
  rintro e w1 ⟨af, cf, rfl, hbf, hcf, hnf, hgf, hb1⟩
  rw [hilen] at hcf hnf ⊢
  have HB1' := hid (HB00.out.trans (hb1.mono HB00.out.size))
  have HBX1 := hid (HBX.out.below hb1 HBX.out.lt)
  have HF1 := hid hbf
  have HFN := hid (And.intro hcf hnf)
  have HFG := hid (show ∀ k, blk af = some k → w.heap.size ≤ k from fun k hk => Nat.le_trans HB00.out.size (hgf k hk))
  clear hbf hcf hnf hgf hb1 HBX HB00
  go_wp2_with fail
  refine (HG.out w1 HB1'.out).mono ?_
  rintro e w2 ⟨aw, cw, rfl, hbw, hcw, hnw, hgw, hb2⟩
  have HB2 := hid (HB1'.out.trans (hb2.mono HB1'.out.size))
  have HBX2 := hid (HBX1.out.below hb2 HBX1.out.lt)
  have HF2 := hid (HF1.out.keep hb2)
  have HW2 := hid hbw
  have HWN := hid (And.intro hcw hnw)
  have HWG := hid (show ∀ k, blk aw = some k → w.heap.size ≤ k from fun k hk => Nat.le_trans HB1'.out.size (hgw k hk))
  clear hbw hcw hnw hgw hb2 HBX1 HF1 HG HI1 HB1'
  obtain ⟨pw, hpw⟩ : ∃ pw, pw = Tg.pby (Tg.lst T len) := ⟨_, rfl⟩
  rw [← hpw] at HB1 HPL HW2 HWN hat0 ⊢
  obtain ⟨Lw, hLw⟩ : ∃ Lw, Lw = pw.length := ⟨_, rfl⟩
  rw [← hLw] at HPL HWN hat0 ⊢
  have HLW2 := hid hLw
  have hLw4 : Lw ≤ 4210823 := HPL.out
  have x0 := HBX2.out.c0
  have x1 := HBX2.out.c1
  have x2 := HBX2.out.c2
  have x3 := HBX2.out.c3
  have x4 := HBX2.out.c4
  have x5 := HBX2.out.c5
  have HAT := hid hat0
  have hu : wrap64 (19 + (Lw : Int)) = (at0 : Int) := by rw [IntWalk.wrap64_in _ (by omega)]; omega
  have hu2 : IntKind.i64.wrap (19 + (Lw : Int)) = (at0 : Int) := (IntWalk.i64_in _ (by omega)).trans (by omega)
  have HLW7 := hid (show 7 ≤ Lw from by rw [hLw, hpw, pby_len]; omega)
  clear hLw hpw hat0 HLW
  go_wp2_with fail
  have HNN := hid (nx_new w2 iw (at0 : Int) (.pointer (some ⟨t, 0, none⟩)))
  rw [HIW.out] at HNN
  have hbw3 := Inf.below_new w2 (.cells #[.int .i64 ik, .int .i64 ich, .int .i64 ibits, .int .i64 irate, .int .i64 ibk, .int .i64 ish, .int .i64 (at0 : Int), .slice none 0 0, .int .i64 0, .bool false, .pointer (some ⟨t, 0, none⟩)] 64)
  have HB3 := hid (HB2.out.trans (hbw3.mono HB2.out.size))
  have HF3 := hid (HF2.out.keep hbw3)
  have HW3 := hid (HW2.out.keep hbw3)
  have HSG := hid (show w.heap.size ≤ w2.heap.size from HB2.out.size)
  have hsz3 : (w2.alloc (.cells #[.int .i64 ik, .int .i64 ich, .int .i64 ibits, .int .i64 irate, .int .i64 ibk, .int .i64 ish, .int .i64 (at0 : Int), .slice none 0 0, .int .i64 0, .bool false, .pointer (some ⟨t, 0, none⟩)] 64)).heap.size = w2.heap.size + 1 := Array.size_push _
  have HSZ3 := hid hsz3
  have HFA := hid (show ∀ k, blk af = some k → k < w2.heap.size ∨ (Inf.iby iw).length = 0 from fun k hk => by
    by_cases h0 : 0 < (Inf.iby iw).length
    · obtain ⟨b', off', e, hc⟩ := HF2.out.at_ 0 _ (List.getElem?_eq_getElem h0)
      rw [e] at hk
      cases hk
      exact .inl (World.block_lt_of_cell? w2 _ hc)
    · exact .inr (by omega))
  have HWA := hid (show ∀ k, blk aw = some k → k < w2.heap.size ∨ pw.length = 0 from fun k hk => by
    by_cases h0 : 0 < pw.length
    · obtain ⟨b', off', e, hc⟩ := HW2.out.at_ 0 _ (List.getElem?_eq_getElem h0)
      rw [e] at hk
      cases hk
      exact .inl (World.block_lt_of_cell? w2 _ hc)
    · exact .inr (by omega))
  clear hbw3 hsz3 x0 x1 x2 x3 x4 x5 hu hu2 HF2 HW2 HBX2
  generalize hw3 : w2.alloc (.cells #[.int .i64 ik, .int .i64 ich, .int .i64 ibits, .int .i64 irate, .int .i64 ibk, .int .i64 ish, .int .i64 (at0 : Int), .slice none 0 0, .int .i64 0, .bool false, .pointer (some ⟨t, 0, none⟩)] 64) = w3 at *
  rw [← HIW.out] at HNN
  generalize hg : w2.heap.size = g at *
  have HATL := hid (show at0 ≤ 4210842 from by have := HAT.out; omega)
  clear hw3 hg HB2 hLw4
  go_loopg [51] n (fun gh v wr => ∃ (k : Nat) (ap : Option Addr) (capp : Nat), k ≤ n ∧ gh = n - k ∧ v = .int .i64 k ∧ BLp w3 g t iw L at0 k ap capp wr)
  case atStart => exact ⟨0, none, 0, Nat.zero_le _, rfl, rfl, rfl, HNN.out.1, World.ownsRow_nil _ _ _ _, (by intro e; cases e), HNN.out.2, Below.refl _ _⟩
  case round =>
    obtain ⟨k, ap, capp, hk, hgh, rfl, hbl⟩ := hrel
    have HG := hid hgh
    have HBL := hid hbl
    clear hgh hbl
    by_cases hlt : k < n
    · have hlt2 : (k : Int) < (n : Int) := by omega
      have hbwr : Below w.heap.size w wr := HB3.out.trans (HBL.out.bel.mono HSG.out)
      obtain ⟨p, capk, hck, hbk, hcapk⟩ := (HBB.out.keep hbwr).c k hlt
      have hadr : ab = some ⟨bb, bo, none⟩ := HBB.out.addr (by omega)
      subst hadr
      obtain ⟨h1, h2, h3, h4, h5⟩ := bst_ok k HBL.out.e0 (by have := fwb_flat HFW.out hk; have := HATL.out; omega)
      have hfl := fwb_flat HFW.out hk
      have hlk := HFW.out.2 k hlt
      have hn12 := HFW.out.1
      have HAD := hid (add_any (N := (L k).length) (capb := capk) HBL.out.nx HBL.out.own HBL.out.far (Nat.le_of_lt HBL.out.nx.lt) (HTB.out.keep (hbwr.block t HTB.out.lt)) HBL.out.c10 rfl hbk hcapk (by omega) (by have := HATL.out; omega) ⟨h2, by omega⟩ (by omega))
      have HST := hid (ber_step (i := iw) (L := L) HBL.out.e0)
      unfold AddP at HAD
      rw [← HST.out] at HAD
      clear h1 h2 h3 h4 h5 hfl
      generalize hlen : (L k).length = lk at *
      have HBW := hid hbwr
      clear hbwr hbk
      generalize hX : ber iw L at0 (k + 1) = X at *
      have HX := hid hX
      clear hX
      go_wp2_with fail
      refine HAD.out.mono ?_
      rintro e w5 ⟨rfl, hfr, hgood⟩
      by_cases hx : X = 0
      · subst hx
        obtain ⟨a5, cap5, hnx5, how5, hfar5, hat5, hc5⟩ := hgood rfl
        have hsh : ((bst iw L at0 k).at_ + (36 + Head.szn (L k)) : Nat) = (bst iw L at0 (k + 1)).at_ := rfl
        have hbel : Below g wr w5 := ⟨hfr.os, hfr.tape, hfr.output, hfr.size, fun q hq => hfr.block q (Nat.lt_trans hq HBL.out.nx.lt) (fun e => by
          rcases e with e | e
          · omega
          · have := (own_in HBL.out.own q e).1; omega)⟩
        have HBL5 : Hid (BLp w3 g t iw L at0 (k + 1) a5 cap5 w5) := hid ⟨HX.out, hnx5, how5, hfar5, hc5, HBL.out.bel.trans (hbel.mono (Nat.le_refl _))⟩
        clear hgood hnx5 how5 hfar5 hat5 hc5 hfr hbel
        go_wp2_with fail
        go_roundg (n - (k + 1))
        case measure => rw [HG.out]; omega
        case rel => exact ⟨k + 1, a5, cap5, by omega, rfl, by go_num, HBL5.out⟩
      · have hE : E = X := HE.out.trans ((ber_stop (by omega) (by rw [HX.out]; exact hx)).trans HX.out)
        have hR := HB0.out (by rw [hE]; exact hx)
        have hx' : (X != 0) = true := bne_iff_ne.2 hx
        have hbf : Below w.heap.size w w5 := HBW.out.trans ⟨hfr.os, hfr.tape, hfr.output, hfr.size, fun q hq => hfr.block q (Nat.lt_of_lt_of_le hq HBW.out.size) (fun e => by
          have := HSG.out
          rcases e with e | e
          · omega
          · have := (own_in HBL.out.own q e).1; omega)⟩
        have HBF := hid hbf
        subst hR
        subst hE
        clear hgood hfr hbf
        go_wp2_with fail
        go_ret2
        exact putf_none _ HBF.out
    · obtain rfl : k = n := by omega
      have hkf : ¬ (k : Int) < (k : Int) := by omega
      have hE0 : E = 0 := HE.out.trans HBL.out.e0
      subst hE0
      have hR := HB1.out rfl
      have hbwr : Below w.heap.size w wr := HB3.out.trans (HBL.out.bel.mono HSG.out)
      have HBW := hid hbwr
      obtain ⟨_, hc0, hc1, _, _⟩ := bst_ok k HBL.out.e0 (by have := fwb_flat HFW.out hk; have := HATL.out; omega)
      have HTR := hid (bst_trt k HBL.out.e0 (by have := fwb_flat HFW.out hk; have := HATL.out; omega) (by have := HFW.out.1; omega))
      have HNT := hid (ntail_any HBL.out.nx s)
      have HR := hid hR
      have HNP := hid (bst_P iw L at0 k)
      clear hR hbwr hc0 hc1 HB0 HB1 HE
      generalize (bst iw L at0 k).c = c at *
      go_wp2_with fail
      refine HNT.out.mono ?_
      rintro e w5 ⟨rfl, hb5⟩
      have HBW5 := hid (HBW.out.trans (hb5.mono HBW.out.size))
      have HG5 := hid (HBL.out.bel.trans (hb5.mono (Nat.le_of_lt HBL.out.nx.lt)))
      have HTP := hid (tput_all (HTB.out.keep (HBW5.out.block t HTB.out.lt)) HNP.out (ownsRow_block HBL.out.own fun q hq => hb5.block q (own_in HBL.out.own q hq).2) hs HTR.out)
      clear hb5 HNT
      go_wp2_with fail
      refine HTP.out.mono ?_
      rintro e w6 ⟨ax, cx, rfl, hbx, hcx, hnx, hgx, hb6⟩
      have HBW6 := hid (HBW5.out.trans (hb6.mono HBW5.out.size))
      have hg5 : g ≤ w5.heap.size := by have := HG5.out.size; have := HSZ3.out; omega
      have HG6 := hid (HG5.out.trans (hb6.mono hg5))
      have HBX6 := hid hbx
      have HBN6 := hid (And.intro hcx (And.intro hnx hgx))
      have HH6 := hid (show g ≤ w6.heap.size from Nat.le_trans hg5 hb6.size)
      clear hbx hcx hnx hgx hb6 hg5 HTP
      obtain ⟨ty, hty⟩ : ∃ ty, Tl.tby c s (bst iw L at0 k).P = ty := ⟨_, rfl⟩
      rw [hty] at HR HBX6 HBN6 ⊢
      have HTYL := hid hty
      obtain ⟨Ly, hLy⟩ : ∃ Ly, Ly = ty.length := ⟨_, rfl⟩
      rw [← hLy] at HBN6 ⊢
      have HLY := hid hLy
      clear hty hLy
      have hf6 : Byts w6 af (Inf.iby iw) := HF3.out.stay (below_fr HG6.out) (fun b' off' e => by
        have := HFA.out b' (by rw [e]; rfl)
        rw [hilen] at this
        omega)
      have hw6 : Byts w6 aw pw := HW3.out.stay (below_fr HG6.out) (fun b' off' e => by
        have h1 := HWA.out b' (by rw [e]; rfl)
        have h2 := HLW2.out
        have h3 := HLW7.out
        omega)
      have HPK := hid (pack_any (cf := cf) (cw := cw) (cx := cx) (capb := capb) hf6 hw6 HBX6.out hilen HLW2.out.symm HLY.out.symm (HBB.out.keep HBW6.out) (by have := HFW.out.1; omega))
      have HLEN := hid (show k ≤ 12 from HFW.out.1)
      have HFL := hid (fwb_flat HFW.out (Nat.le_refl k))
      have HTL := hid (show ty.length ≤ 78 from by rw [← HTYL.out, Tl.tby_len, HNP.out]; have := HFW.out.1; omega)
      clear hf6 hw6
      go_wp2_with fail
      refine HPK.out.mono ?_
      rintro e w7 ⟨gg, capg, vs, rfl, hcg, hpar, hb7⟩
      have hB7 : Below w.heap.size w w7 := HBW6.out.trans (hb7.mono HBW6.out.size)
      have hlen : ([Inf.iby iw, pw] ++ (List.range k).map L ++ [ty]).length = k + 3 := by simp
      have hflt : ([Inf.iby iw, pw] ++ (List.range k).map L ++ [ty]).flatten = R := by
        rw [HR.out, List.flatten_append, List.flatten_append, flat_range]
        simp [List.append_assoc]
      have hRl : R.length ≤ 5000000 := by
        rw [HR.out]
        simp only [List.length_append]
        have h1 := HFL.out
        have h2 := HTL.out
        have h3 := HPL.out
        have h4 := HLW2.out
        omega
      have HJN := hid (join_any hlen (by omega) hpar hcg (by have := HLEN.out; omega) (by rw [hflt]; omega))
      rw [hflt] at HJN
      have HB7 := hid hB7
      have hcast : ((k + 3 : Nat) : Int) = (k : Int) + 3 := by omega
      clear hpar hlen hflt hRl hB7 hb7 HPK hcast
      go_wp2_with fail
      refine HJN.out.mono ?_
      rintro e w8 ⟨g8, c8, rfl, hg8, hc8, hby8, hb8⟩
      have HB8 := hid (HB7.out.trans (hb8.mono HB7.out.size))
      have HG8 := hid (Nat.le_trans HB7.out.size hg8)
      clear hg8 hb8
      go_wp2_with fail
      go_ret2
      exact ⟨some ⟨g8, 0, none⟩, c8, rfl, hby8, hc8, (fun e => by cases e), (fun q hq => by cases hq; exact HG8.out), HB8.out⟩
end Go.Proofs.YthjjonbkfkpkmaaDoor.Fil
namespace Go.Proofs.YthjjonbkfkpkmaaDoor.Fil
open Go.RowKit Gen
open Tl (il il_app rise TRt)
attribute [local go_sem] Oper.semAt_some

instance (L : Nat → List Nat) (n : Nat) : Decidable (Fwb L n) := by unfold Fwb; exact inferInstance

set_option maxHeartbeats 1000000 in
set_option maxRecDepth 100000 in
theorem rfew_any (w : World) {a : Option Addr} {n b off : Nat} {L : Nat → List Nat} (h : Bb w a n b off L) (hm : n ≤ 9223372036854775807) (cap : Nat) :
    Calls Tryd.prog 6 #[.slice a n cap] w fun e w' => e = .returned (.bool (decide (Fwb L n))) ∧ w = w' := by
  obtain ⟨D, hD⟩ : ∃ D, D = decide (Fwb L n) := ⟨_, rfl⟩
  rw [← hD]
  have HD0 := hid hD
  have H := hid h
  clear h hD
  go_enter Tryd.func6, Tryd.ntmps6
  go_wp2_with fail
  go_loopg [3] 20 (fun g i wr => ∃ k : Nat, k ≤ n ∧ k ≤ 20 ∧ g = 20 - k ∧ i = .int .i64 k ∧ (∀ i, i < k → (L i).length ≤ 300) ∧ w = wr)
  case atStart => exact ⟨0, Nat.zero_le _, Nat.zero_le _, rfl, rfl, fun j hj => absurd hj (Nat.not_lt_zero _), rfl⟩
  case round =>
    obtain ⟨k, hk, hk1, hg, rfl, hall, rfl⟩ := hrel
    have HG := hid hg
    have HA := hid hall
    clear hg hall
    by_cases hlt : k < n
    · have hlt2 : (k : Int) < (n : Int) := by omega
      by_cases hlh : k < 20
      · have hlh2 : (k : Int) < 20 := by omega
        obtain rfl := H.out.addr (by omega)
        obtain ⟨p, cp, ck, _, _⟩ := H.out.c k hlt
        have HNO := hid fun (h : ¬ (L k).length ≤ 300) => HD0.out.trans (decide_eq_false (fun hF : Fwb L n => h (hF.2 k hlt)))
        have HYES := hid fun (h : (L k).length ≤ 300) => (fun i hi => by
          by_cases e : i = k
          · exact e ▸ h
          · exact HA.out i (by omega) : ∀ i, i < k + 1 → (L i).length ≤ 300)
        generalize (L k).length = lk at *
        by_cases h1 : 300 < lk
        · have e1 : (300 : Int) < (lk : Int) := by omega
          have HD := hid (HNO.out (by omega))
          clear h1
          go_wp2_with fail
          go_ret
          exact ⟨by rw [HD.out]; rfl, rfl⟩
        have e1 : ¬ (300 : Int) < (lk : Int) := by omega
        have HD := hid (HYES.out (by omega))
        clear h1
        go_wp2_with fail
        go_roundg (20 - (k + 1))
        case measure => rw [HG.out]; omega
        case rel => exact ⟨k + 1, by omega, by omega, rfl, by go_num, HD.out, rfl⟩
      · have hlh2 : ¬ (k : Int) < 20 := by omega
        have HD := hid (HD0.out.trans (decide_eq_false (fun h : Fwb L n => absurd h.1 (by omega))))
        have e1 : ¬ (n : Int) ≤ 12 := by omega
        go_wp2_with fail
        go_ret
        exact ⟨by rw [HD.out]; rfl, rfl⟩
    · have hge : ¬ (k : Int) < (n : Int) := by omega
      obtain rfl : k = n := by omega
      by_cases h7 : k ≤ 12
      · have e1 : (k : Int) ≤ 12 := by omega
        have HD := hid (HD0.out.trans (decide_eq_true (⟨h7, fun i hi => HA.out i hi⟩ : Fwb L k)))
        go_wp2_with fail
        go_ret
        exact ⟨by rw [HD.out]; rfl, rfl⟩
      · have e1 : ¬ (k : Int) ≤ 12 := by omega
        have HD := hid (HD0.out.trans (decide_eq_false (fun h : Fwb L k => h7 h.1)))
        go_wp2_with fail
        go_ret
        exact ⟨by rw [HD.out]; rfl, rfl⟩

def T0 : Nat → Tg.Tag := fun _ => ⟨⟨#[]⟩, ⟨#[]⟩⟩
def L0 : Nat → List Nat := fun _ => []
def i0 : Inf.If := ⟨1, ⟨1, 8, 1⟩, 256, 0⟩
set_option maxRecDepth 100000 in
theorem known_rt : Inf.Rt i0 := by decide
set_option maxRecDepth 100000 in
theorem known_e : bdE i0 T0 0 L0 0 = 0 := by
  unfold bdE
  rw [if_neg (fun e => e known_rt)]
  have : (Tg.chk T0 0) = (0, 0) := Tg.chk_ok (by omega) (fun i hi => by omega)
  rw [this, if_neg (fun e => e rfl)]
  rfl
set_option maxRecDepth 100000 in
theorem known_l : (bdB i0 T0 0 L0 0 0).length = 44 := by
  unfold bdB
  rw [if_pos known_e]
  simp only [List.length_append, Inf.iby_len, pby_len, Tl.tby_len]
  rfl
set_option maxHeartbeats 1000000 in
set_option maxRecDepth 100000 in
theorem known_true (w : World) (hT : Tg.Tabs w) : Calls Tryd.prog 7 #[] w fun e w' => e = .returned (.bool true) ∧ Below w.heap.size w w' := by
  have HM := hid (Crc.make_any w)
  have HB := hid fun (w' : World) (g : Nat) (ht : Crc.Tab w' g) (hb : Below w.heap.size w w') => build_any ht (hT.keep hb) i0 (a := none) (len := 0) (b := 0) (off := 0) (T := T0) (capt := 0) ⟨fun h => by omega, fun i hi => by omega, fun i hi => by omega, fun h => by omega⟩ ⟨by omega, fun i hi => by omega, fun i hi => by omega⟩ (Nat.le_refl _) (ab := none) (n := 0) (bb := 0) (bo := 0) (capb := 0) (L := L0) ⟨fun h => by omega, fun j hj => by omega⟩ ⟨by omega, fun j hj => by omega⟩ (s := 0) (by decide)
  rw [known_e] at HB
  clear hT
  go_enter Tryd.func7, Tryd.ntmps7
  go_wp2_with fail
  refine HM.out.mono ?_
  rintro e w1 ⟨rfl, htab, hb1⟩
  have HB1 := hid (HB.out w1 w.heap.size htab hb1)
  have HBL := hid hb1
  clear htab hb1
  go_wp2_with fail
  refine HB1.out.mono ?_
  rintro e w2 ⟨ao, cap, rfl, _, _, _, _, hb2⟩
  rw [known_l]
  have HB2 := hid (HBL.out.trans (hb2.mono HBL.out.size))
  clear hb2
  go_wp2_with fail
  go_ret
  exact ⟨rfl, HB2.out⟩
end Go.Proofs.YthjjonbkfkpkmaaDoor.Fil
