/- Same of the document, of two files that are the same. Conditions: at most 2^30 blocks, 2^40 tags. -/
import Derived.Test.YthjjonbkfkpkmaaDoorYxFy
import Derived.Test.YthjjonbkfkpkmaaDoorY28
import Derived.Test.YthjjonbkfkpkmaaDoorY21
namespace Go.Proofs.YthjjonbkfkpkmaaDoor.Fil
open Go.RowKit Gen
open Tl (il il_app rise TRt Tx)
attribute [local go_sem] Oper.semAt_some

/-- Two lists of blocks that are the same, each with its payloads in memory. -/
structure Smb (w : World) (X Y : List Bv) : Prop where
  e : ∀ (j : Nat) (x y : Bv), X[j]? = some x → Y[j]? = some y → x.h = y.h ∧ x.n = y.n ∧ x.s = y.s ∧ x.at_ = y.at_ ∧ ∃ l : List Nat, l.length = x.n ∧ Byts w x.a l ∧ Byts w y.a l
set_option maxRecDepth 100000 in
theorem Smb.keep {w w' : World} {X Y : List Bv} (h : Smb w X Y) (hb : Below w.heap.size w w') : Smb w' X Y :=
  ⟨fun j x y hx hy => by
    obtain ⟨h1, h2, h3, h4, l, hl, p, q⟩ := h.e j x y hx hy
    exact ⟨h1, h2, h3, h4, l, hl, p.keep hb, q.keep hb⟩⟩
set_option maxHeartbeats 4000000 in
set_option maxRecDepth 100000 in
theorem same_true {w : World} {i : Inf.If} {a1 : Option Addr} {n1 c1 : Nat} {a2 : Option Addr} {n2 c2 : Nat} {ct : Int} {sm : Nat} {a3 : Option Addr} {n3 c3 : Nat} {a1' : Option Addr} {c1' : Nat} {a2' : Option Addr} {c2' : Nat} {a3' : Option Addr} {c3' : Nat}
    {L : List Tg.Tag} {B B' : Nat} (hL : L.length = n1) (ht : Tg.Ow w B a1 c1 L) (ht' : Tg.Ow w B' a1' c1' L) {X Y : List Bv} (hX : X.length = n2) (hY : Y.length = n2) (hb : BsAt w a2 X) (hb' : BsAt w a2' Y) (hs : Smb w X Y)
    {P : List Int} (hP : P.length = n3) (hp : Tl.Nts w a3 P) (hp' : Tl.Nts w a3' P) (hn : n2 ≤ 1073741824) (hm : n1 ≤ 1099511627776) (hm3 : n3 ≤ 1073741824) :
    Calls Tryd.prog 11 #[.agg (fcl i a1 n1 c1 a2 n2 c2 ct sm a3 n3 c3), .agg (fcl i a1' n1 c1' a2' n2 c2' ct sm a3' n3 c3')] w fun e w' => e = .returned (.bool true) ∧ Below w.heap.size w w' := by
  have hbw := Inf.below_new w (.cells (fcl i a1 n1 c1 a2 n2 c2 ct sm a3 n3 c3) 50)
  have hz1 : (w.alloc (.cells (fcl i a1 n1 c1 a2 n2 c2 ct sm a3 n3 c3) 50)).heap.size = w.heap.size + 1 := Array.size_push _
  have hbw2 := Inf.below_new (w.alloc (.cells (fcl i a1 n1 c1 a2 n2 c2 ct sm a3 n3 c3) 50)) (.cells (fcl i a1' n1 c1' a2' n2 c2' ct sm a3' n3 c3') 50)
  have hb2 := hbw.trans (hbw2.mono hbw.size)
  have HX := hid ((hbw2.block w.heap.size (by rw [hz1]; omega)).trans (cells_fcl w 50 i a1 n1 c1 a2 n2 c2 ct sm a3 n3 c3))
  have HY := hid (show ((w.alloc (.cells (fcl i a1 n1 c1 a2 n2 c2 ct sm a3 n3 c3) 50)).alloc (.cells (fcl i a1' n1 c1' a2' n2 c2' ct sm a3' n3 c3') 50)).heap[w.heap.size + 1]? = some (.cells (fcl i a1' n1 c1' a2' n2 c2' ct sm a3' n3 c3') 50 (0, 0)) from hz1 ▸ cells_fcl (w.alloc (.cells (fcl i a1 n1 c1 a2 n2 c2 ct sm a3 n3 c3) 50)) 50 i a1' n1 c1' a2' n2 c2' ct sm a3' n3 c3')
  have HB2 := hid hb2
  have HBX := hid (hb.keep hb2)
  have HBY := hid (hb'.keep hb2)
  have HSM := hid (hs.keep hb2)
  have HLX := hid (And.intro hX hY)
  have HTG := hid (show ∀ w', Below w.heap.size w w' → Calls Tryd.prog 25 #[.slice a1 n1 c1, .slice a1' n1 c1'] w' (fun e w2 => e = .returned (.bool true) ∧ Below w'.heap.size w' w2) from fun w' hbw' => by
    obtain ⟨q, htb, _, _⟩ := (ht.keep hbw').tb
    obtain ⟨q', htb', _, _⟩ := (ht'.keep hbw').tb
    rw [hL] at htb htb'
    have h := Tg.rsame_any w' htb htb' hm c1 c1'
    rw [decide_eq_true (Tg.Eqs.refl (Tg.gt L) n1)] at h
    exact h)
  have HTL := hid (show ∀ w', Below w.heap.size w w' → Calls Tryd.prog 26 #[.agg #[.int .i64 ct, .int .u32 (sm : Int), .slice a3 n3 c3], .agg #[.int .i64 ct, .int .u32 (sm : Int), .slice a3' n3 c3']] w' (fun e w2 => e = .returned (.bool true) ∧ Below w'.heap.size w' w2) from fun w' hbw' => by
    have h := Tl.trsame_any (w := w') (cap := c3) (cap' := c3') (s := sm) (s' := sm) (c := ct) (c' := ct) hP hP (hp.keep hbw') (hp'.keep hbw') (by omega) (by omega)
    rw [decide_eq_true (And.intro rfl (And.intro rfl rfl))] at h
    exact h)
  clear hbw hbw2 hb2 hb hb' hs hX hY ht ht' hp hp' hz1
  go_enter Tryd.func11, Tryd.ntmps11
  have x0 := Inf.row_cell HX.out 0 rfl
  have x1 := Inf.row_cell HX.out 1 rfl
  have x2 := Inf.row_cell HX.out 2 rfl
  have x3 := Inf.row_cell HX.out 3 rfl
  have x4 := Inf.row_cell HX.out 4 rfl
  have x5 := Inf.row_cell HX.out 5 rfl
  have x6 := Inf.row_cell HX.out 6 rfl
  have x7 := Inf.row_cell HX.out 7 rfl
  have x8 := Inf.row_cell HX.out 8 rfl
  have x9 := Inf.row_cell HX.out 9 rfl
  have x10 := Inf.row_cell HX.out 10 rfl
  have y0 := Inf.row_cell HY.out 0 rfl
  have y1 := Inf.row_cell HY.out 1 rfl
  have y2 := Inf.row_cell HY.out 2 rfl
  have y3 := Inf.row_cell HY.out 3 rfl
  have y4 := Inf.row_cell HY.out 4 rfl
  have y5 := Inf.row_cell HY.out 5 rfl
  have y6 := Inf.row_cell HY.out 6 rfl
  have y7 := Inf.row_cell HY.out 7 rfl
  have y8 := Inf.row_cell HY.out 8 rfl
  have y9 := Inf.row_cell HY.out 9 rfl
  have y10 := Inf.row_cell HY.out 10 rfl
  go_wp2_with fail
  refine (HTG.out _ HB2.out).mono ?_
  rintro e w3 ⟨rfl, hb3⟩
  have HB3 := hid (HB2.out.trans (hb3.mono HB2.out.size))
  have HX3 := hid ((hb3.block w.heap.size (World.block_lt_of_cell? _ _ x0)).trans HX.out)
  have HY3 := hid ((hb3.block (w.heap.size + 1) (World.block_lt_of_cell? _ _ y0)).trans HY.out)
  have HBX3 := hid (HBX.out.keep hb3)
  have HBY3 := hid (HBY.out.keep hb3)
  have HSM3 := hid (HSM.out.keep hb3)
  clear hb3 x0 x1 x2 x3 x4 x5 x6 x7 x8 x9 x10 y0 y1 y2 y3 y4 y5 y6 y7 y8 y9 y10 HX HY HBX HBY HSM
  have x0 := Inf.row_cell HX3.out 0 rfl
  have x1 := Inf.row_cell HX3.out 1 rfl
  have x2 := Inf.row_cell HX3.out 2 rfl
  have x3 := Inf.row_cell HX3.out 3 rfl
  have x4 := Inf.row_cell HX3.out 4 rfl
  have x5 := Inf.row_cell HX3.out 5 rfl
  have x6 := Inf.row_cell HX3.out 6 rfl
  have x7 := Inf.row_cell HX3.out 7 rfl
  have x8 := Inf.row_cell HX3.out 8 rfl
  have x9 := Inf.row_cell HX3.out 9 rfl
  have x10 := Inf.row_cell HX3.out 10 rfl
  have y0 := Inf.row_cell HY3.out 0 rfl
  have y1 := Inf.row_cell HY3.out 1 rfl
  have y2 := Inf.row_cell HY3.out 2 rfl
  have y3 := Inf.row_cell HY3.out 3 rfl
  have y4 := Inf.row_cell HY3.out 4 rfl
  have y5 := Inf.row_cell HY3.out 5 rfl
  have y6 := Inf.row_cell HY3.out 6 rfl
  have y7 := Inf.row_cell HY3.out 7 rfl
  have y8 := Inf.row_cell HY3.out 8 rfl
  have y9 := Inf.row_cell HY3.out 9 rfl
  have y10 := Inf.row_cell HY3.out 10 rfl
  go_wp2_with fail
  refine (HTL.out _ HB3.out).mono ?_
  rintro e w4 ⟨rfl, hb4⟩
  have HB4 := hid (HB3.out.trans (hb4.mono HB3.out.size))
  have HX4 := hid ((hb4.block w.heap.size (World.block_lt_of_cell? _ _ x0)).trans HX3.out)
  have HY4 := hid ((hb4.block (w.heap.size + 1) (World.block_lt_of_cell? _ _ y0)).trans HY3.out)
  have HBX4 := hid (HBX3.out.keep hb4)
  have HBY4 := hid (HBY3.out.keep hb4)
  have HSM4 := hid (HSM3.out.keep hb4)
  clear hb4 x0 x1 x2 x3 x4 x5 x6 x7 x8 x9 x10 y0 y1 y2 y3 y4 y5 y6 y7 y8 y9 y10 HX3 HY3 HBX3 HBY3 HSM3 HTG HTL
  have x0 := Inf.row_cell HX4.out 0 rfl
  have x1 := Inf.row_cell HX4.out 1 rfl
  have x2 := Inf.row_cell HX4.out 2 rfl
  have x3 := Inf.row_cell HX4.out 3 rfl
  have x4 := Inf.row_cell HX4.out 4 rfl
  have x5 := Inf.row_cell HX4.out 5 rfl
  have x6 := Inf.row_cell HX4.out 6 rfl
  have x7 := Inf.row_cell HX4.out 7 rfl
  have x8 := Inf.row_cell HX4.out 8 rfl
  have x9 := Inf.row_cell HX4.out 9 rfl
  have x10 := Inf.row_cell HX4.out 10 rfl
  have y0 := Inf.row_cell HY4.out 0 rfl
  have y1 := Inf.row_cell HY4.out 1 rfl
  have y2 := Inf.row_cell HY4.out 2 rfl
  have y3 := Inf.row_cell HY4.out 3 rfl
  have y4 := Inf.row_cell HY4.out 4 rfl
  have y5 := Inf.row_cell HY4.out 5 rfl
  have y6 := Inf.row_cell HY4.out 6 rfl
  have y7 := Inf.row_cell HY4.out 7 rfl
  have y8 := Inf.row_cell HY4.out 8 rfl
  have y9 := Inf.row_cell HY4.out 9 rfl
  have y10 := Inf.row_cell HY4.out 10 rfl
  go_wp2_with fail
  clear x0 x1 x2 x3 x4 x5 x6 x7 x8 x9 x10 y0 y1 y2 y3 y4 y5 y6 y7 y8 y9 y10
  go_loopg [5] n2 (fun gh vk wr => ∃ k : Nat, k ≤ n2 ∧ gh = n2 - k ∧ vk = .int .i64 (k : Int) ∧ wr.heap[w.heap.size]? = some (.cells (fcl i a1 n1 c1 a2 n2 c2 ct sm a3 n3 c3) 50 (0, 0)) ∧ wr.heap[w.heap.size + 1]? = some (.cells (fcl i a1' n1 c1' a2' n2 c2' ct sm a3' n3 c3') 50 (0, 0)) ∧ BsAt wr a2 X ∧ BsAt wr a2' Y ∧ Smb wr X Y ∧ Below w.heap.size w wr)
  case atStart => exact ⟨0, Nat.zero_le _, rfl, rfl, HX4.out, HY4.out, HBX4.out, HBY4.out, HSM4.out, HB4.out⟩
  case round =>
    clear HX4 HY4 HBX4 HBY4 HSM4 HB4
    obtain ⟨k, hk, hgh, rfl, h1, h2, h3, h4, h5, h6⟩ := hrel
    have HG := hid hgh
    have HX := hid h1
    have HY := hid h2
    have HBX := hid h3
    have HBY := hid h4
    have HSM := hid h5
    have HB := hid h6
    clear hgh h1 h2 h3 h4 h5 h6
    have x7 := Inf.row_cell HX.out 7 rfl
    have y7 := Inf.row_cell HY.out 7 rfl
    by_cases hlt : k < n2
    rotate_left 1
    · obtain rfl : k = n2 := by omega
      have hkf : ¬ (k : Int) < (k : Int) := by omega
      go_wp2_with fail
      go_ret
      exact ⟨rfl, HB.out⟩
    have hlt2 : (k : Int) < (n2 : Int) := by omega
    obtain ⟨x, hx⟩ : ∃ x, X[k]? = some x := ⟨_, List.getElem?_eq_getElem (by rw [HLX.out.1]; exact hlt)⟩
    obtain ⟨y, hy⟩ : ∃ y, Y[k]? = some y := ⟨_, List.getElem?_eq_getElem (by rw [HLX.out.2]; exact hlt)⟩
    obtain ⟨g, rfl, hcx⟩ := HBX.out.c k x hx
    obtain ⟨g', rfl, hcy⟩ := HBY.out.c k y hy
    have HCX := hid hcx
    have HCY := hid hcy
    have HSB := hid (HSM.out.e k x y hx hy)
    have hk1 : wrap64 ((k : Int) + 1) = (k : Int) + 1 := wr_4 (by omega)
    clear hcx hcy hx hy
    go_wp2_with fail
    go_cut [6, 7] (fun p6 p7 wx => ∃ q q' : Nat, p6 = .pointer (some ⟨q, 0, none⟩) ∧ p7 = .pointer (some ⟨q', 0, none⟩) ∧ wx.heap[q]? = some (.cells (bvl x).toArray 85 (0, 0)) ∧ wx.heap[q']? = some (.cells (bvl y).toArray 85 (0, 0)) ∧ Below wr.heap.size wr wx)
    case first =>
      have HTT : Hid (∀ l, Pcm.Till (fun w' => Below wr.heap.size wr w') (fun _ => True) 99 l wr.drew) := hid fun l => ⟨(Below.refl _ _).drew, fun _ => trivial⟩
      refine Pcm.region_T (T := Pcm.Till (fun w' => Below wr.heap.size wr w') (fun _ => True) 99) (by kernel_rfl) ?_
      refine Pcm.take_1 (i := 0) (oi := ({ dst := some 45, op := Op.fieldAddr 50 (Operand.tmp 2) 2, type := 0, pos := _, after := #[], guard := none } : Oper)) (v := .pointer (some ⟨w.heap.size, 7, none⟩)) rfl (by kernel_rfl) (by kernel_rfl) (by kernel_rfl) (by decide) (fun _ _ _ h => h) (HTT.out _) (.inl ⟨by rfl, fun w' hSw => ?_⟩) ?_
      · (try dsimp only at hSw)
        go_simp
      (try simp only [Act.put, List.setIfInBounds_toArray, List.set_cons_zero, List.set_cons_succ])
      refine Pcm.take_1 (i := 1) (oi := ({ dst := some 46, op := Op.load 48 (Operand.tmp 45), type := 48, pos := _, after := #[{ on := 0, ground := Ground.data }], guard := none } : Oper)) (v := .slice (some ⟨g, 0, none⟩) n2 c2) rfl (by kernel_rfl) (by kernel_rfl) (by kernel_rfl) (by decide) (fun _ _ _ h => h) (HTT.out _) (.inl ⟨by rfl, fun w' hSw => ?_⟩) ?_
      · (try dsimp only at hSw)
        have cc := (hSw.cell (p := ⟨w.heap.size, 7, none⟩) (World.block_lt_of_cell? _ _ x7)).trans x7
        clear hSw
        go_simp
      (try simp only [Act.put, List.setIfInBounds_toArray, List.set_cons_zero, List.set_cons_succ])
      refine Pcm.take_1 (i := 2) (oi := ({ dst := some 47, op := Op.move (Operand.tmp 5), type := 3, pos := _, after := #[], guard := none } : Oper)) (v := .int .i64 (k : Int)) rfl (by kernel_rfl) (by kernel_rfl) (by kernel_rfl) (by decide) (fun _ _ _ h => h) (HTT.out _) (.inl ⟨by rfl, fun w' hSw => ?_⟩) ?_
      · (try dsimp only at hSw)
        go_simp
      (try simp only [Act.put, List.setIfInBounds_toArray, List.set_cons_zero, List.set_cons_succ])
      refine Pcm.take_1 (i := 3) (oi := ({ dst := some 48, op := Op.indexAddr 48 (Operand.tmp 46) (Operand.tmp 47), type := 0, pos := _, after := #[{ on := 1, ground := Ground.data }, { on := 2, ground := Ground.data }], guard := none } : Oper)) (v := .pointer (some ⟨g, k * 11, none⟩)) rfl (by kernel_rfl) (by kernel_rfl) (by kernel_rfl) (by decide) (fun _ _ _ h => h) (HTT.out _) (.inl ⟨by rfl, fun w' hSw => ?_⟩) ?_
      · (try dsimp only at hSw)
        go_simp
      (try simp only [Act.put, List.setIfInBounds_toArray, List.set_cons_zero, List.set_cons_succ])
      refine Pcm.take_1 (i := 4) (oi := ({ dst := some 49, op := Op.load 85 (Operand.tmp 48), type := 85, pos := _, after := #[{ on := 3, ground := Ground.data }], guard := none } : Oper)) (v := .agg (bvl x).toArray) rfl (by kernel_rfl) (by kernel_rfl) (by kernel_rfl) (by decide) (fun _ _ _ h => h) (HTT.out _) (yieldsIf_load_mid (by rfl) 85 (.tmp 48) rfl g (k * 11) rfl (bvl x) _ (fun w' hw' => fun m u hu => (hw'.cell (p := ⟨g, k * 11 + m, none⟩) (World.block_lt_of_cell? _ _ (HCX.out m u hu))).trans (HCX.out m u hu)) Tryd.underlying85 rfl size102) ?_
      (try simp only [Act.put, List.setIfInBounds_toArray, List.set_cons_zero, List.set_cons_succ])
      refine Pcm.take_1 (i := 5) (oi := ({ dst := some 50, op := Op.fieldAddr 50 (Operand.tmp 3) 2, type := 0, pos := _, after := #[{ on := 12, ground := Ground.gcOnly Departure.lateStores }], guard := none } : Oper)) (v := .pointer (some ⟨w.heap.size + 1, 7, none⟩)) rfl (by kernel_rfl) (by kernel_rfl) (by kernel_rfl) (by decide) (fun _ _ _ h => h) (HTT.out _) (.inl ⟨by rfl, fun w' hSw => ?_⟩) ?_
      · (try dsimp only at hSw)
        go_simp
      (try simp only [Act.put, List.setIfInBounds_toArray, List.set_cons_zero, List.set_cons_succ])
      refine Pcm.take_1 (i := 6) (oi := ({ dst := some 51, op := Op.load 48 (Operand.tmp 50), type := 48, pos := _, after := #[{ on := 5, ground := Ground.data }, { on := 12, ground := Ground.gcOnly Departure.lateStores }], guard := none } : Oper)) (v := .slice (some ⟨g', 0, none⟩) n2 c2') rfl (by kernel_rfl) (by kernel_rfl) (by kernel_rfl) (by decide) (fun _ _ _ h => h) (HTT.out _) (.inl ⟨by rfl, fun w' hSw => ?_⟩) ?_
      · (try dsimp only at hSw)
        have cc := (hSw.cell (p := ⟨w.heap.size + 1, 7, none⟩) (World.block_lt_of_cell? _ _ y7)).trans y7
        clear hSw
        go_simp
      (try simp only [Act.put, List.setIfInBounds_toArray, List.set_cons_zero, List.set_cons_succ])
      refine Pcm.take_1 (i := 7) (oi := ({ dst := some 52, op := Op.move (Operand.tmp 5), type := 3, pos := _, after := #[{ on := 12, ground := Ground.gcOnly Departure.lateStores }], guard := none } : Oper)) (v := .int .i64 (k : Int)) rfl (by kernel_rfl) (by kernel_rfl) (by kernel_rfl) (by decide) (fun _ _ _ h => h) (HTT.out _) (.inl ⟨by rfl, fun w' hSw => ?_⟩) ?_
      · (try dsimp only at hSw)
        go_simp
      (try simp only [Act.put, List.setIfInBounds_toArray, List.set_cons_zero, List.set_cons_succ])
      refine Pcm.take_1 (i := 8) (oi := ({ dst := some 53, op := Op.indexAddr 48 (Operand.tmp 51) (Operand.tmp 52), type := 0, pos := _, after := #[{ on := 6, ground := Ground.data }, { on := 7, ground := Ground.data }, { on := 12, ground := Ground.gcOnly Departure.lateStores }], guard := none } : Oper)) (v := .pointer (some ⟨g', k * 11, none⟩)) rfl (by kernel_rfl) (by kernel_rfl) (by kernel_rfl) (by decide) (fun _ _ _ h => h) (HTT.out _) (.inl ⟨by rfl, fun w' hSw => ?_⟩) ?_
      · (try dsimp only at hSw)
        go_simp
      (try simp only [Act.put, List.setIfInBounds_toArray, List.set_cons_zero, List.set_cons_succ])
      refine Pcm.take_1 (i := 9) (oi := ({ dst := some 54, op := Op.load 85 (Operand.tmp 53), type := 85, pos := _, after := #[{ on := 8, ground := Ground.data }, { on := 12, ground := Ground.gcOnly Departure.lateStores }], guard := none } : Oper)) (v := .agg (bvl y).toArray) rfl (by kernel_rfl) (by kernel_rfl) (by kernel_rfl) (by decide) (fun _ _ _ h => h) (HTT.out _) (yieldsIf_load_mid (by rfl) 85 (.tmp 53) rfl g' (k * 11) rfl (bvl y) _ (fun w' hw' => fun m u hu => (hw'.cell (p := ⟨g', k * 11 + m, none⟩) (World.block_lt_of_cell? _ _ (HCY.out m u hu))).trans (HCY.out m u hu)) Tryd.underlying85 rfl size102) ?_
      (try simp only [Act.put, List.setIfInBounds_toArray, List.set_cons_zero, List.set_cons_succ])
      have HA1 := hid (show (wr.drew.alloc (.cells #[.int .i64 0, .int .i64 0, .int .i64 0, .int .i64 0, .int .i64 0, .bool false, .int .u32 0, .int .i64 0, .slice none 0 0, .int .u32 0, .int .i64 0] 85)).heap[wr.heap.size]? = some (.cells #[.int .i64 0, .int .i64 0, .int .i64 0, .int .i64 0, .int .i64 0, .bool false, .int .u32 0, .int .i64 0, .slice none 0 0, .int .u32 0, .int .i64 0] 85 (0, 0)) from heap_alloc_new wr.drew _)
      have hsz1 : (wr.drew.alloc (.cells #[.int .i64 0, .int .i64 0, .int .i64 0, .int .i64 0, .int .i64 0, .bool false, .int .u32 0, .int .i64 0, .slice none 0 0, .int .u32 0, .int .i64 0] 85)).heap.size = wr.heap.size + 1 := Array.size_push _
      have HBA1 := hid (show Below wr.heap.size wr (wr.drew.alloc (.cells #[.int .i64 0, .int .i64 0, .int .i64 0, .int .i64 0, .int .i64 0, .bool false, .int .u32 0, .int .i64 0, .slice none 0 0, .int .u32 0, .int .i64 0] 85)) from (Below.refl _ _).drew.trans (Inf.below_new wr.drew _))
      have hbn2 := Inf.below_new (wr.drew.alloc (.cells #[.int .i64 0, .int .i64 0, .int .i64 0, .int .i64 0, .int .i64 0, .bool false, .int .u32 0, .int .i64 0, .slice none 0 0, .int .u32 0, .int .i64 0] 85)) (.cells #[.int .i64 0, .int .i64 0, .int .i64 0, .int .i64 0, .int .i64 0, .bool false, .int .u32 0, .int .i64 0, .slice none 0 0, .int .u32 0, .int .i64 0] 85)
      have HA2 := hid (show ((wr.drew.alloc (.cells #[.int .i64 0, .int .i64 0, .int .i64 0, .int .i64 0, .int .i64 0, .bool false, .int .u32 0, .int .i64 0, .slice none 0 0, .int .u32 0, .int .i64 0] 85)).alloc (.cells #[.int .i64 0, .int .i64 0, .int .i64 0, .int .i64 0, .int .i64 0, .bool false, .int .u32 0, .int .i64 0, .slice none 0 0, .int .u32 0, .int .i64 0] 85)).heap[wr.heap.size + 1]? = some (.cells #[.int .i64 0, .int .i64 0, .int .i64 0, .int .i64 0, .int .i64 0, .bool false, .int .u32 0, .int .i64 0, .slice none 0 0, .int .u32 0, .int .i64 0] 85 (0, 0)) from hsz1 ▸ heap_alloc_new (wr.drew.alloc (.cells #[.int .i64 0, .int .i64 0, .int .i64 0, .int .i64 0, .int .i64 0, .bool false, .int .u32 0, .int .i64 0, .slice none 0 0, .int .u32 0, .int .i64 0] 85)) _)
      have HBA2 := hid (show Below wr.heap.size wr ((wr.drew.alloc (.cells #[.int .i64 0, .int .i64 0, .int .i64 0, .int .i64 0, .int .i64 0, .bool false, .int .u32 0, .int .i64 0, .slice none 0 0, .int .u32 0, .int .i64 0] 85)).alloc (.cells #[.int .i64 0, .int .i64 0, .int .i64 0, .int .i64 0, .int .i64 0, .bool false, .int .u32 0, .int .i64 0, .slice none 0 0, .int .u32 0, .int .i64 0] 85)) from HBA1.out.trans (hbn2.mono (by rw [hsz1]; omega)))
      have HA1 := hid ((hbn2.block wr.heap.size (by rw [hsz1]; omega)).trans HA1.out)
      clear hsz1 hbn2
      refine anyT_two (i := 10) (j := 11) (o := ({ dst := some 6, op := Op.alloc 85, type := 0, pos := _, after := #[], guard := none } : Oper)) (p := ({ dst := some 7, op := Op.alloc 85, type := 0, pos := _, after := #[], guard := none } : Oper)) (by kernel_rfl) rfl rfl (fun K HK2 => ?_) (fun K HK2 => ?_)
      · go_simp
        refine HK2.out _ _ ⟨HBA1.out, fun _ => trivial⟩ ?_
        clear HK2 K
        (try simp only [Act.put, List.setIfInBounds_toArray, List.set_cons_zero, List.set_cons_succ])
        refine Pcm.anyT_one (i := 11) (o := ({ dst := some 7, op := Op.alloc 85, type := 0, pos := _, after := #[], guard := none } : Oper)) (by kernel_rfl) rfl (fun K HK2 => ?_)
        go_simp
        refine HK2.out _ _ ⟨HBA2.out, fun _ => trivial⟩ ?_
        clear HK2 K
        (try simp only [Act.put, List.setIfInBounds_toArray, List.set_cons_zero, List.set_cons_succ])
        have HBS1 := hid (show Below wr.heap.size wr (((wr.drew.alloc (.cells #[.int .i64 0, .int .i64 0, .int .i64 0, .int .i64 0, .int .i64 0, .bool false, .int .u32 0, .int .i64 0, .slice none 0 0, .int .u32 0, .int .i64 0] 85)).alloc (.cells #[.int .i64 0, .int .i64 0, .int .i64 0, .int .i64 0, .int .i64 0, .bool false, .int .u32 0, .int .i64 0, .slice none 0 0, .int .u32 0, .int .i64 0] 85)).setRow (wr.heap.size) (bvl x).toArray) from Inf.fr_rowBelow HBA2.out (by omega))
        have HBS2 := hid (show Below wr.heap.size wr ((((wr.drew.alloc (.cells #[.int .i64 0, .int .i64 0, .int .i64 0, .int .i64 0, .int .i64 0, .bool false, .int .u32 0, .int .i64 0, .slice none 0 0, .int .u32 0, .int .i64 0] 85)).alloc (.cells #[.int .i64 0, .int .i64 0, .int .i64 0, .int .i64 0, .int .i64 0, .bool false, .int .u32 0, .int .i64 0, .slice none 0 0, .int .u32 0, .int .i64 0] 85)).setRow (wr.heap.size) (bvl x).toArray).setRow (wr.heap.size + 1) (bvl y).toArray) from Inf.fr_rowBelow HBS1.out (by omega))
        have hr6 := setRow_heap ((wr.drew.alloc (.cells #[.int .i64 0, .int .i64 0, .int .i64 0, .int .i64 0, .int .i64 0, .bool false, .int .u32 0, .int .i64 0, .slice none 0 0, .int .u32 0, .int .i64 0] 85)).alloc (.cells #[.int .i64 0, .int .i64 0, .int .i64 0, .int .i64 0, .int .i64 0, .bool false, .int .u32 0, .int .i64 0, .slice none 0 0, .int .u32 0, .int .i64 0] 85)) (wr.heap.size) #[.int .i64 0, .int .i64 0, .int .i64 0, .int .i64 0, .int .i64 0, .bool false, .int .u32 0, .int .i64 0, .slice none 0 0, .int .u32 0, .int .i64 0] (bvl x).toArray 85 (0, 0) HA1.out
        have hr7 := ((Inf.fr_setRow ((wr.drew.alloc (.cells #[.int .i64 0, .int .i64 0, .int .i64 0, .int .i64 0, .int .i64 0, .bool false, .int .u32 0, .int .i64 0, .slice none 0 0, .int .u32 0, .int .i64 0] 85)).alloc (.cells #[.int .i64 0, .int .i64 0, .int .i64 0, .int .i64 0, .int .i64 0, .bool false, .int .u32 0, .int .i64 0, .slice none 0 0, .int .u32 0, .int .i64 0] 85)) (wr.heap.size) (bvl x).toArray).block (wr.heap.size + 1) (World.block_lt_of_cell? _ _ (Inf.row_cell HA2.out 0 rfl)) (by omega)).trans HA2.out
        have hs6 := ((Inf.fr_setRow (((wr.drew.alloc (.cells #[.int .i64 0, .int .i64 0, .int .i64 0, .int .i64 0, .int .i64 0, .bool false, .int .u32 0, .int .i64 0, .slice none 0 0, .int .u32 0, .int .i64 0] 85)).alloc (.cells #[.int .i64 0, .int .i64 0, .int .i64 0, .int .i64 0, .int .i64 0, .bool false, .int .u32 0, .int .i64 0, .slice none 0 0, .int .u32 0, .int .i64 0] 85)).setRow (wr.heap.size) (bvl x).toArray) (wr.heap.size + 1) (bvl y).toArray).block (wr.heap.size) (World.block_lt_of_cell? _ _ (Inf.row_cell hr6 0 rfl)) (by omega)).trans hr6
        have hs7 := setRow_heap (((wr.drew.alloc (.cells #[.int .i64 0, .int .i64 0, .int .i64 0, .int .i64 0, .int .i64 0, .bool false, .int .u32 0, .int .i64 0, .slice none 0 0, .int .u32 0, .int .i64 0] 85)).alloc (.cells #[.int .i64 0, .int .i64 0, .int .i64 0, .int .i64 0, .int .i64 0, .bool false, .int .u32 0, .int .i64 0, .slice none 0 0, .int .u32 0, .int .i64 0] 85)).setRow (wr.heap.size) (bvl x).toArray) (wr.heap.size + 1) #[.int .i64 0, .int .i64 0, .int .i64 0, .int .i64 0, .int .i64 0, .bool false, .int .u32 0, .int .i64 0, .slice none 0 0, .int .u32 0, .int .i64 0] (bvl y).toArray 85 (0, 0) hr7
        have HR7 := hid hr7
        have HS6 := hid hs6
        have HS7 := hid hs7
        clear hr6 hr7 hs6 hs7
        refine Pcm.anyT_one (i := 12) (o := ({ dst := none, op := Op.store 85 (Operand.tmp 6) (Operand.tmp 49), type := 0, pos := _, after := #[{ on := 10, ground := Ground.data }, { on := 4, ground := Ground.data }, { on := 0, ground := Ground.phase }, { on := 1, ground := Ground.phase }, { on := 2, ground := Ground.phase }, { on := 3, ground := Ground.phase }, { on := 4, ground := Ground.phase }, { on := 5, ground := Ground.textOnly Departure.lateStores }, { on := 6, ground := Ground.textOnly Departure.lateStores }, { on := 7, ground := Ground.textOnly Departure.lateStores }, { on := 8, ground := Ground.textOnly Departure.lateStores }, { on := 9, ground := Ground.textOnly Departure.lateStores }, { on := 10, ground := Ground.phase }, { on := 11, ground := Ground.phase }], guard := none } : Oper)) (by kernel_rfl) rfl (fun K HK2 => ?_)
        refine Head.step_store_row rfl 85 (.tmp 6) (.tmp 49) rfl (wr.heap.size) (bvl x).toArray rfl rfl 85 #[.int .i64 0, .int .i64 0, .int .i64 0, .int .i64 0, .int .i64 0, .bool false, .int .u32 0, .int .i64 0, .slice none 0 0, .int .u32 0, .int .i64 0] HA1.out size102 rfl (all_oneCell_toArray (bvl_one x)) ?_
        refine HK2.out _ _ ⟨HBS1.out, fun _ => trivial⟩ ?_
        clear HK2 K
        (try simp only [Act.put])
        refine Pcm.anyT_one (i := 13) (o := ({ dst := none, op := Op.store 85 (Operand.tmp 7) (Operand.tmp 54), type := 0, pos := _, after := #[{ on := 11, ground := Ground.data }, { on := 9, ground := Ground.data }, { on := 12, ground := Ground.chain }, { on := 0, ground := Ground.phase }, { on := 1, ground := Ground.phase }, { on := 2, ground := Ground.phase }, { on := 3, ground := Ground.phase }, { on := 4, ground := Ground.phase }, { on := 5, ground := Ground.phase }, { on := 6, ground := Ground.phase }, { on := 7, ground := Ground.phase }, { on := 8, ground := Ground.phase }, { on := 9, ground := Ground.phase }, { on := 10, ground := Ground.phase }, { on := 11, ground := Ground.phase }, { on := 12, ground := Ground.phase }], guard := none } : Oper)) (by kernel_rfl) rfl (fun K HK2 => ?_)
        refine Head.step_store_row rfl 85 (.tmp 7) (.tmp 54) rfl (wr.heap.size + 1) (bvl y).toArray rfl rfl 85 #[.int .i64 0, .int .i64 0, .int .i64 0, .int .i64 0, .int .i64 0, .bool false, .int .u32 0, .int .i64 0, .slice none 0 0, .int .u32 0, .int .i64 0] HR7.out size102 rfl (all_oneCell_toArray (bvl_one y)) ?_
        refine HK2.out _ _ ⟨HBS2.out, fun _ => trivial⟩ ?_
        clear HK2 K
        (try simp only [Act.put])
        refine Pcm.anyT_done (by kernel_rfl) ?_ _
        go_wp2_with fail
        go_meet
        case rel => exact ⟨wr.heap.size, wr.heap.size + 1, rfl, rfl, HS6.out, HS7.out, HBS2.out⟩
      · go_simp
        refine HK2.out _ _ ⟨HBA1.out, fun _ => trivial⟩ ?_
        clear HK2 K
        (try simp only [Act.put, List.setIfInBounds_toArray, List.set_cons_zero, List.set_cons_succ])
        refine Pcm.anyT_one (i := 10) (o := ({ dst := some 6, op := Op.alloc 85, type := 0, pos := _, after := #[], guard := none } : Oper)) (by kernel_rfl) rfl (fun K HK2 => ?_)
        go_simp
        refine HK2.out _ _ ⟨HBA2.out, fun _ => trivial⟩ ?_
        clear HK2 K
        (try simp only [Act.put, List.setIfInBounds_toArray, List.set_cons_zero, List.set_cons_succ])
        have HBS1 := hid (show Below wr.heap.size wr (((wr.drew.alloc (.cells #[.int .i64 0, .int .i64 0, .int .i64 0, .int .i64 0, .int .i64 0, .bool false, .int .u32 0, .int .i64 0, .slice none 0 0, .int .u32 0, .int .i64 0] 85)).alloc (.cells #[.int .i64 0, .int .i64 0, .int .i64 0, .int .i64 0, .int .i64 0, .bool false, .int .u32 0, .int .i64 0, .slice none 0 0, .int .u32 0, .int .i64 0] 85)).setRow (wr.heap.size + 1) (bvl x).toArray) from Inf.fr_rowBelow HBA2.out (by omega))
        have HBS2 := hid (show Below wr.heap.size wr ((((wr.drew.alloc (.cells #[.int .i64 0, .int .i64 0, .int .i64 0, .int .i64 0, .int .i64 0, .bool false, .int .u32 0, .int .i64 0, .slice none 0 0, .int .u32 0, .int .i64 0] 85)).alloc (.cells #[.int .i64 0, .int .i64 0, .int .i64 0, .int .i64 0, .int .i64 0, .bool false, .int .u32 0, .int .i64 0, .slice none 0 0, .int .u32 0, .int .i64 0] 85)).setRow (wr.heap.size + 1) (bvl x).toArray).setRow (wr.heap.size) (bvl y).toArray) from Inf.fr_rowBelow HBS1.out (by omega))
        have hr6 := setRow_heap ((wr.drew.alloc (.cells #[.int .i64 0, .int .i64 0, .int .i64 0, .int .i64 0, .int .i64 0, .bool false, .int .u32 0, .int .i64 0, .slice none 0 0, .int .u32 0, .int .i64 0] 85)).alloc (.cells #[.int .i64 0, .int .i64 0, .int .i64 0, .int .i64 0, .int .i64 0, .bool false, .int .u32 0, .int .i64 0, .slice none 0 0, .int .u32 0, .int .i64 0] 85)) (wr.heap.size + 1) #[.int .i64 0, .int .i64 0, .int .i64 0, .int .i64 0, .int .i64 0, .bool false, .int .u32 0, .int .i64 0, .slice none 0 0, .int .u32 0, .int .i64 0] (bvl x).toArray 85 (0, 0) HA2.out
        have hr7 := ((Inf.fr_setRow ((wr.drew.alloc (.cells #[.int .i64 0, .int .i64 0, .int .i64 0, .int .i64 0, .int .i64 0, .bool false, .int .u32 0, .int .i64 0, .slice none 0 0, .int .u32 0, .int .i64 0] 85)).alloc (.cells #[.int .i64 0, .int .i64 0, .int .i64 0, .int .i64 0, .int .i64 0, .bool false, .int .u32 0, .int .i64 0, .slice none 0 0, .int .u32 0, .int .i64 0] 85)) (wr.heap.size + 1) (bvl x).toArray).block (wr.heap.size) (World.block_lt_of_cell? _ _ (Inf.row_cell HA1.out 0 rfl)) (by omega)).trans HA1.out
        have hs6 := ((Inf.fr_setRow (((wr.drew.alloc (.cells #[.int .i64 0, .int .i64 0, .int .i64 0, .int .i64 0, .int .i64 0, .bool false, .int .u32 0, .int .i64 0, .slice none 0 0, .int .u32 0, .int .i64 0] 85)).alloc (.cells #[.int .i64 0, .int .i64 0, .int .i64 0, .int .i64 0, .int .i64 0, .bool false, .int .u32 0, .int .i64 0, .slice none 0 0, .int .u32 0, .int .i64 0] 85)).setRow (wr.heap.size + 1) (bvl x).toArray) (wr.heap.size) (bvl y).toArray).block (wr.heap.size + 1) (World.block_lt_of_cell? _ _ (Inf.row_cell hr6 0 rfl)) (by omega)).trans hr6
        have hs7 := setRow_heap (((wr.drew.alloc (.cells #[.int .i64 0, .int .i64 0, .int .i64 0, .int .i64 0, .int .i64 0, .bool false, .int .u32 0, .int .i64 0, .slice none 0 0, .int .u32 0, .int .i64 0] 85)).alloc (.cells #[.int .i64 0, .int .i64 0, .int .i64 0, .int .i64 0, .int .i64 0, .bool false, .int .u32 0, .int .i64 0, .slice none 0 0, .int .u32 0, .int .i64 0] 85)).setRow (wr.heap.size + 1) (bvl x).toArray) (wr.heap.size) #[.int .i64 0, .int .i64 0, .int .i64 0, .int .i64 0, .int .i64 0, .bool false, .int .u32 0, .int .i64 0, .slice none 0 0, .int .u32 0, .int .i64 0] (bvl y).toArray 85 (0, 0) hr7
        have HR7 := hid hr7
        have HS6 := hid hs6
        have HS7 := hid hs7
        clear hr6 hr7 hs6 hs7
        refine Pcm.anyT_one (i := 12) (o := ({ dst := none, op := Op.store 85 (Operand.tmp 6) (Operand.tmp 49), type := 0, pos := _, after := #[{ on := 10, ground := Ground.data }, { on := 4, ground := Ground.data }, { on := 0, ground := Ground.phase }, { on := 1, ground := Ground.phase }, { on := 2, ground := Ground.phase }, { on := 3, ground := Ground.phase }, { on := 4, ground := Ground.phase }, { on := 5, ground := Ground.textOnly Departure.lateStores }, { on := 6, ground := Ground.textOnly Departure.lateStores }, { on := 7, ground := Ground.textOnly Departure.lateStores }, { on := 8, ground := Ground.textOnly Departure.lateStores }, { on := 9, ground := Ground.textOnly Departure.lateStores }, { on := 10, ground := Ground.phase }, { on := 11, ground := Ground.phase }], guard := none } : Oper)) (by kernel_rfl) rfl (fun K HK2 => ?_)
        refine Head.step_store_row rfl 85 (.tmp 6) (.tmp 49) rfl (wr.heap.size + 1) (bvl x).toArray rfl rfl 85 #[.int .i64 0, .int .i64 0, .int .i64 0, .int .i64 0, .int .i64 0, .bool false, .int .u32 0, .int .i64 0, .slice none 0 0, .int .u32 0, .int .i64 0] HA2.out size102 rfl (all_oneCell_toArray (bvl_one x)) ?_
        refine HK2.out _ _ ⟨HBS1.out, fun _ => trivial⟩ ?_
        clear HK2 K
        (try simp only [Act.put])
        refine Pcm.anyT_one (i := 13) (o := ({ dst := none, op := Op.store 85 (Operand.tmp 7) (Operand.tmp 54), type := 0, pos := _, after := #[{ on := 11, ground := Ground.data }, { on := 9, ground := Ground.data }, { on := 12, ground := Ground.chain }, { on := 0, ground := Ground.phase }, { on := 1, ground := Ground.phase }, { on := 2, ground := Ground.phase }, { on := 3, ground := Ground.phase }, { on := 4, ground := Ground.phase }, { on := 5, ground := Ground.phase }, { on := 6, ground := Ground.phase }, { on := 7, ground := Ground.phase }, { on := 8, ground := Ground.phase }, { on := 9, ground := Ground.phase }, { on := 10, ground := Ground.phase }, { on := 11, ground := Ground.phase }, { on := 12, ground := Ground.phase }], guard := none } : Oper)) (by kernel_rfl) rfl (fun K HK2 => ?_)
        refine Head.step_store_row rfl 85 (.tmp 7) (.tmp 54) rfl (wr.heap.size) (bvl y).toArray rfl rfl 85 #[.int .i64 0, .int .i64 0, .int .i64 0, .int .i64 0, .int .i64 0, .bool false, .int .u32 0, .int .i64 0, .slice none 0 0, .int .u32 0, .int .i64 0] HR7.out size102 rfl (all_oneCell_toArray (bvl_one y)) ?_
        refine HK2.out _ _ ⟨HBS2.out, fun _ => trivial⟩ ?_
        clear HK2 K
        (try simp only [Act.put])
        refine Pcm.anyT_done (by kernel_rfl) ?_ _
        go_wp2_with fail
        go_meet
        case rel => exact ⟨wr.heap.size + 1, wr.heap.size, rfl, rfl, HS6.out, HS7.out, HBS2.out⟩
    case rest =>
      clear x7 y7 HCX HCY
      obtain ⟨q, q', rfl, rfl, hq, hq', hbx⟩ := hcut
      obtain ⟨e1, e2, e3, e4, l, hl, p1, p2⟩ := HSB.out
      obtain ⟨y1, ya, yn, yc, ys, yat⟩ := y
      dsimp only at e1 e2 e3 e4 p2
      subst e1 e2 e3 e4
      have HX9 := hid ((hbx.block _ (World.block_lt_of_cell? _ _ (Inf.row_cell HX.out 0 rfl))).trans HX.out)
      have HY9 := hid ((hbx.block _ (World.block_lt_of_cell? _ _ (Inf.row_cell HY.out 0 rfl))).trans HY.out)
      have HBX9 := hid (HBX.out.keep hbx)
      have HBY9 := hid (HBY.out.keep hbx)
      have HSM9 := hid (HSM.out.keep hbx)
      have HB9 := hid (HB.out.trans (hbx.mono HB.out.size))
      have cv1 := (p1.keep hbx).conv x.cap
      have cv2 := (p2.keep hbx).conv yc
      rw [hl] at cv1 cv2
      have HSZ := hid hlt
      clear p1 p2 hbx HX HY HBX HBY HSM HB HSB hl
      have s0 : World.cell? _ ⟨q, 0, none⟩ = some (.int .i64 x.h.k) := Inf.row_cell hq 0 rfl
      have t0 : World.cell? _ ⟨q', 0, none⟩ = some (.int .i64 x.h.k) := Inf.row_cell hq' 0 rfl
      have s1 : World.cell? _ ⟨q, 1, none⟩ = some (.int .i64 x.h.ix) := Inf.row_cell hq 1 rfl
      have t1 : World.cell? _ ⟨q', 1, none⟩ = some (.int .i64 x.h.ix) := Inf.row_cell hq' 1 rfl
      have s2 : World.cell? _ ⟨q, 2, none⟩ = some (.int .i64 x.h.ln) := Inf.row_cell hq 2 rfl
      have t2 : World.cell? _ ⟨q', 2, none⟩ = some (.int .i64 x.h.ln) := Inf.row_cell hq' 2 rfl
      have s3 : World.cell? _ ⟨q, 3, none⟩ = some (.int .i64 x.h.st) := Inf.row_cell hq 3 rfl
      have t3 : World.cell? _ ⟨q', 3, none⟩ = some (.int .i64 x.h.st) := Inf.row_cell hq' 3 rfl
      have s4 : World.cell? _ ⟨q, 4, none⟩ = some (.int .i64 x.h.bd) := Inf.row_cell hq 4 rfl
      have t4 : World.cell? _ ⟨q', 4, none⟩ = some (.int .i64 x.h.bd) := Inf.row_cell hq' 4 rfl
      have s5 : World.cell? _ ⟨q, 5, none⟩ = some (.bool x.h.la) := Inf.row_cell hq 5 rfl
      have t5 : World.cell? _ ⟨q', 5, none⟩ = some (.bool x.h.la) := Inf.row_cell hq' 5 rfl
      have s6 : World.cell? _ ⟨q, 6, none⟩ = some (.int .u32 (x.h.lk : Int)) := Inf.row_cell hq 6 rfl
      have t6 : World.cell? _ ⟨q', 6, none⟩ = some (.int .u32 (x.h.lk : Int)) := Inf.row_cell hq' 6 rfl
      have s7 : World.cell? _ ⟨q, 7, none⟩ = some (.int .i64 x.h.sz) := Inf.row_cell hq 7 rfl
      have t7 : World.cell? _ ⟨q', 7, none⟩ = some (.int .i64 x.h.sz) := Inf.row_cell hq' 7 rfl
      have s8 : World.cell? _ ⟨q, 8, none⟩ = some (.slice x.a x.n x.cap) := Inf.row_cell hq 8 rfl
      have t8 : World.cell? _ ⟨q', 8, none⟩ = some (.slice ya x.n yc) := Inf.row_cell hq' 8 rfl
      have s9 : World.cell? _ ⟨q, 9, none⟩ = some (.int .u32 (x.s : Int)) := Inf.row_cell hq 9 rfl
      have t9 : World.cell? _ ⟨q', 9, none⟩ = some (.int .u32 (x.s : Int)) := Inf.row_cell hq' 9 rfl
      have s10 : World.cell? _ ⟨q, 10, none⟩ = some (.int .i64 (x.at_ : Int)) := Inf.row_cell hq 10 rfl
      have t10 : World.cell? _ ⟨q', 10, none⟩ = some (.int .i64 (x.at_ : Int)) := Inf.row_cell hq' 10 rfl
      go_wp2_with fail
      go_roundg (n2 - (k + 1))
      case measure => rw [HG.out]; have := HSZ.out; omega
      case rel => exact ⟨k + 1, by have := HSZ.out; omega, rfl, by go_num, HX9.out, HY9.out, HBX9.out, HBY9.out, HSM9.out, HB9.out⟩
end Go.Proofs.YthjjonbkfkpkmaaDoor.Fil
