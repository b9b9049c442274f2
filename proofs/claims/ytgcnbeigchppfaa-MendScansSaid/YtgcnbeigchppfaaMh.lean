/- Same of the document, of two lists of found blocks that are the same. Conditions: at most 2^30 blocks. -/
import Derived.Test.YtgcnbeigchppfaaMg
namespace Go.Proofs.Ytgcnbeigchppfaa.Mnd
open Go.RowKit Gen
attribute [local go_sem] Oper.semAt_some

/-- Two lists of found blocks that are the same, each with its payloads in memory. -/
structure Smf (w : World) (X Y : List Fnd) : Prop where
  e : ∀ (j : Nat) (x y : Fnd), X[j]? = some x → Y[j]? = some y → x.h = y.h ∧ x.n = y.n ∧ x.s = y.s ∧ x.at_ = y.at_ ∧ ∃ l : List Nat, l.length = x.n ∧ Byts w x.a l ∧ Byts w y.a l
theorem Smf.keep {w w' : World} {X Y : List Fnd} (h : Smf w X Y) (hb : Below w.heap.size w w') : Smf w' X Y :=
  ⟨fun j x y hx hy => by
    obtain ⟨h1, h2, h3, h4, l, hl, p, q⟩ := h.e j x y hx hy
    exact ⟨h1, h2, h3, h4, l, hl, p.keep hb, q.keep hb⟩⟩
theorem Fs.smf {w : World} {b S : List Nat} {X Y : List Fnd} (h : Fs w b S X) (h' : Fs w b S Y) : Smf w X Y :=
  ⟨fun j x y hx hy => by
    obtain ⟨p, hp, k⟩ := h.ok j x hx
    obtain ⟨p', hp', k'⟩ := h'.ok j y hy
    have e : p = p' := by rw [hp] at hp'; exact Option.some.inj hp'
    subst e
    exact ⟨by rw [k.h, k'.h], by rw [k.n, k'.n], by rw [k.s, k'.s], by rw [k.e, k'.e], _, k.n.symm, k.y, k'.y⟩⟩
set_option maxHeartbeats 8000000 in
set_option maxRecDepth 100000 in
theorem fsame_true {w : World} {aa ab : Option Addr} {n ca cb : Nat} {X Y : List Fnd} (hX : X.length = n) (hY : Y.length = n) (h : FAt w aa X) (h' : FAt w ab Y) (hs : Smf w X Y) (hn : n ≤ 1073741824) :
    Calls Try.prog 9 #[.slice aa n ca, .slice ab n cb] w fun e w' => e = .returned (.bool true) ∧ Below w.heap.size w w' := by
  have HX := hid h
  have HY := hid h'
  have HS := hid hs
  have HL := hid (And.intro hX hY)
  clear h h' hs hX hY
  go_enter Try.func9, Try.ntmps9
  go_wp2_with fail
  go_loopg [5] n (fun gh vk wr => ∃ k : Nat, k ≤ n ∧ gh = n - k ∧ vk = .int .i64 (k : Int) ∧ Below w.heap.size w wr)
  case atStart => exact ⟨0, Nat.zero_le _, rfl, rfl, Below.refl _ _⟩
  case round =>
    obtain ⟨k, hk, hgh, rfl, hbel⟩ := hrel
    have HG := hid hgh
    have HB := hid hbel
    clear hgh hbel
    by_cases hlt : k < n
    rotate_left 1
    · obtain rfl : k = n := by omega
      have hkf : ¬ (k : Int) < (k : Int) := by omega
      go_wp2_with fail
      go_ret
      exact ⟨rfl, HB.out⟩
    have hlt2 : (k : Int) < (n : Int) := by omega
    obtain ⟨x, hx⟩ : ∃ x, X[k]? = some x := ⟨_, List.getElem?_eq_getElem (by rw [HL.out.1]; exact hlt)⟩
    obtain ⟨y, hy⟩ : ∃ y, Y[k]? = some y := ⟨_, List.getElem?_eq_getElem (by rw [HL.out.2]; exact hlt)⟩
    obtain ⟨g, rfl, hcx⟩ := (HX.out.keep HB.out).c k x hx
    obtain ⟨g', rfl, hcy⟩ := (HY.out.keep HB.out).c k y hy
    obtain ⟨e1, e2, e3, e4, l, hl, p1, p2⟩ := (HS.out.keep HB.out).e k x y hx hy
    obtain ⟨yat, yh, ya, yn, yc, ys⟩ := y
    dsimp only at e1 e2 e3 e4 p2
    subst e1 e2 e3 e4
    have HCX := hid hcx
    have HCY := hid hcy
    have HP1 := hid p1
    have HP2 := hid p2
    have HLL := hid hl
    have hk1 : wrap64 ((k : Int) + 1) = (k : Int) + 1 := wr_4 (by omega)
    clear hcx hcy hx hy p1 p2 hl
    go_wp2_with fail
    have HTT : Hid (∀ l, Pcm.Till (fun w' => Below wr.heap.size wr w') (fun _ => True) 99 l wr.drew) := hid fun l => ⟨(Below.refl _ _).drew, fun _ => trivial⟩
    refine Pcm.region_T (T := Pcm.Till (fun w' => Below wr.heap.size wr w') (fun _ => True) 99) (by kernel_rfl) ?_
    refine Pcm.take_1 (i := 0) (oi := ({ dst := some 17, op := Op.move (Operand.tmp 0), type := 27, pos := _, after := #[], guard := none } : Oper)) (v := .slice (some ⟨g, 0, none⟩) n ca) rfl (by kernel_rfl) (by kernel_rfl) (by kernel_rfl) (by decide) (fun _ _ _ h => h) (HTT.out _) (.inl ⟨by rfl, fun w' hSw => ?_⟩) ?_
    · (try dsimp only at hSw)
      go_simp
    (try simp only [Act.put, List.setIfInBounds_toArray, List.set_cons_zero, List.set_cons_succ])
    refine Pcm.take_1 (i := 1) (oi := ({ dst := some 18, op := Op.move (Operand.tmp 5), type := 3, pos := _, after := #[], guard := none } : Oper)) (v := .int .i64 (k : Int)) rfl (by kernel_rfl) (by kernel_rfl) (by kernel_rfl) (by decide) (fun _ _ _ h => h) (HTT.out _) (.inl ⟨by rfl, fun w' hSw => ?_⟩) ?_
    · (try dsimp only at hSw)
      go_simp
    (try simp only [Act.put, List.setIfInBounds_toArray, List.set_cons_zero, List.set_cons_succ])
    refine Pcm.take_1 (i := 2) (oi := ({ dst := some 19, op := Op.indexAddr 27 (Operand.tmp 17) (Operand.tmp 18), type := 0, pos := _, after := #[{ on := 0, ground := Ground.data }, { on := 1, ground := Ground.data }], guard := none } : Oper)) (v := .pointer (some ⟨g, k * 11, none⟩)) rfl (by kernel_rfl) (by kernel_rfl) (by kernel_rfl) (by decide) (fun _ _ _ h => h) (HTT.out _) (.inl ⟨by rfl, fun w' hSw => ?_⟩) ?_
    · (try dsimp only at hSw)
      go_simp
    (try simp only [Act.put, List.setIfInBounds_toArray, List.set_cons_zero, List.set_cons_succ])
    refine Pcm.take_1 (i := 3) (oi := ({ dst := some 20, op := Op.fieldAddr 40 (Operand.tmp 19) 0, type := 0, pos := _, after := #[{ on := 2, ground := Ground.data }], guard := none } : Oper)) (v := .pointer (some ⟨g, k * 11, none⟩)) rfl (by kernel_rfl) (by kernel_rfl) (by kernel_rfl) (by decide) (fun _ _ _ h => h) (HTT.out _) (.inl ⟨by rfl, fun w' hSw => ?_⟩) ?_
    · (try dsimp only at hSw)
      go_simp
    (try simp only [Act.put, List.setIfInBounds_toArray, List.set_cons_zero, List.set_cons_succ])
    refine Pcm.take_1 (i := 4) (oi := ({ dst := some 21, op := Op.load 3 (Operand.tmp 20), type := 3, pos := _, after := #[{ on := 3, ground := Ground.data }], guard := none } : Oper)) (v := .int .i64 (x.at_ : Int)) rfl (by kernel_rfl) (by kernel_rfl) (by kernel_rfl) (by decide) (fun _ _ _ h => h) (HTT.out _) (.inl ⟨by rfl, fun w' hSw => ?_⟩) ?_
    · (try dsimp only at hSw)
      have f0 : w'.cell? ⟨g, k * 11, none⟩ = some (.int .i64 (x.at_ : Int)) := (hSw.cell (p := ⟨g, k * 11, none⟩) (World.block_lt_of_cell? _ _ (HCX.out 0 _ rfl))).trans (HCX.out 0 _ rfl)
      clear hSw
      go_simp
    (try simp only [Act.put, List.setIfInBounds_toArray, List.set_cons_zero, List.set_cons_succ])
    refine Pcm.take_1 (i := 5) (oi := ({ dst := some 22, op := Op.move (Operand.tmp 1), type := 27, pos := _, after := #[], guard := none } : Oper)) (v := .slice (some ⟨g', 0, none⟩) n cb) rfl (by kernel_rfl) (by kernel_rfl) (by kernel_rfl) (by decide) (fun _ _ _ h => h) (HTT.out _) (.inl ⟨by rfl, fun w' hSw => ?_⟩) ?_
    · (try dsimp only at hSw)
      go_simp
    (try simp only [Act.put, List.setIfInBounds_toArray, List.set_cons_zero, List.set_cons_succ])
    refine Pcm.take_1 (i := 6) (oi := ({ dst := some 23, op := Op.move (Operand.tmp 5), type := 3, pos := _, after := #[], guard := none } : Oper)) (v := .int .i64 (k : Int)) rfl (by kernel_rfl) (by kernel_rfl) (by kernel_rfl) (by decide) (fun _ _ _ h => h) (HTT.out _) (.inl ⟨by rfl, fun w' hSw => ?_⟩) ?_
    · (try dsimp only at hSw)
      go_simp
    (try simp only [Act.put, List.setIfInBounds_toArray, List.set_cons_zero, List.set_cons_succ])
    refine Pcm.take_1 (i := 7) (oi := ({ dst := some 24, op := Op.indexAddr 27 (Operand.tmp 22) (Operand.tmp 23), type := 0, pos := _, after := #[{ on := 5, ground := Ground.data }, { on := 6, ground := Ground.data }], guard := none } : Oper)) (v := .pointer (some ⟨g', k * 11, none⟩)) rfl (by kernel_rfl) (by kernel_rfl) (by kernel_rfl) (by decide) (fun _ _ _ h => h) (HTT.out _) (.inl ⟨by rfl, fun w' hSw => ?_⟩) ?_
    · (try dsimp only at hSw)
      go_simp
    (try simp only [Act.put, List.setIfInBounds_toArray, List.set_cons_zero, List.set_cons_succ])
    refine Pcm.take_1 (i := 8) (oi := ({ dst := some 25, op := Op.fieldAddr 40 (Operand.tmp 24) 0, type := 0, pos := _, after := #[{ on := 7, ground := Ground.data }], guard := none } : Oper)) (v := .pointer (some ⟨g', k * 11, none⟩)) rfl (by kernel_rfl) (by kernel_rfl) (by kernel_rfl) (by decide) (fun _ _ _ h => h) (HTT.out _) (.inl ⟨by rfl, fun w' hSw => ?_⟩) ?_
    · (try dsimp only at hSw)
      go_simp
    (try simp only [Act.put, List.setIfInBounds_toArray, List.set_cons_zero, List.set_cons_succ])
    refine Pcm.take_1 (i := 9) (oi := ({ dst := some 26, op := Op.load 3 (Operand.tmp 25), type := 3, pos := _, after := #[{ on := 8, ground := Ground.data }], guard := none } : Oper)) (v := .int .i64 (x.at_ : Int)) rfl (by kernel_rfl) (by kernel_rfl) (by kernel_rfl) (by decide) (fun _ _ _ h => h) (HTT.out _) (.inl ⟨by rfl, fun w' hSw => ?_⟩) ?_
    · (try dsimp only at hSw)
      have f0 : w'.cell? ⟨g', k * 11, none⟩ = some (.int .i64 (x.at_ : Int)) := (hSw.cell (p := ⟨g', k * 11, none⟩) (World.block_lt_of_cell? _ _ (HCY.out 0 _ rfl))).trans (HCY.out 0 _ rfl)
      clear hSw
      go_simp
    (try simp only [Act.put, List.setIfInBounds_toArray, List.set_cons_zero, List.set_cons_succ])
    refine Pcm.take_1 (i := 10) (oi := ({ dst := some 27, op := Op.binOp BinOp.neq 3 (Operand.tmp 21) (Operand.tmp 26) 3, type := 4, pos := _, after := #[{ on := 4, ground := Ground.data }, { on := 9, ground := Ground.data }], guard := none } : Oper)) (v := .bool false) rfl (by kernel_rfl) (by kernel_rfl) (by kernel_rfl) (by decide) (fun _ _ _ h => h) (HTT.out _) (.inl ⟨by rfl, fun w' hSw => ?_⟩) ?_
    · (try dsimp only at hSw)
      go_simp
    (try simp only [Act.put, List.setIfInBounds_toArray, List.set_cons_zero, List.set_cons_succ])
    refine Pcm.take_1 (i := 11) (oi := ({ dst := some 28, op := Op.move (Operand.tmp 27), type := 4, pos := _, after := #[{ on := 10, ground := Ground.data }], guard := none } : Oper)) (v := .bool false) rfl (by kernel_rfl) (by kernel_rfl) (by kernel_rfl) (by decide) (fun _ _ _ h => h) (HTT.out _) (.inl ⟨by rfl, fun w' hSw => ?_⟩) ?_
    · (try dsimp only at hSw)
      go_simp
    (try simp only [Act.put, List.setIfInBounds_toArray, List.set_cons_zero, List.set_cons_succ])
    refine Pcm.take_1 (i := 12) (oi := ({ dst := some 29, op := Op.move (Operand.tmp 0), type := 27, pos := _, after := #[{ on := 11, ground := Ground.guard }], guard := some (11, false) } : Oper)) (v := .slice (some ⟨g, 0, none⟩) n ca) rfl (by kernel_rfl) (by kernel_rfl) (by kernel_rfl) (by decide) (fun _ _ _ h => h) (HTT.out _) (.inl ⟨by rfl, fun w' hSw => ?_⟩) ?_
    · (try dsimp only at hSw)
      go_simp
    (try simp only [Act.put, List.setIfInBounds_toArray, List.set_cons_zero, List.set_cons_succ])
    refine Pcm.take_1 (i := 13) (oi := ({ dst := some 30, op := Op.move (Operand.tmp 5), type := 3, pos := _, after := #[{ on := 11, ground := Ground.guard }], guard := some (11, false) } : Oper)) (v := .int .i64 (k : Int)) rfl (by kernel_rfl) (by kernel_rfl) (by kernel_rfl) (by decide) (fun _ _ _ h => h) (HTT.out _) (.inl ⟨by rfl, fun w' hSw => ?_⟩) ?_
    · (try dsimp only at hSw)
      go_simp
    (try simp only [Act.put, List.setIfInBounds_toArray, List.set_cons_zero, List.set_cons_succ])
    refine Pcm.take_1 (i := 14) (oi := ({ dst := some 31, op := Op.indexAddr 27 (Operand.tmp 29) (Operand.tmp 30), type := 0, pos := _, after := #[{ on := 12, ground := Ground.data }, { on := 13, ground := Ground.data }, { on := 11, ground := Ground.guard }], guard := some (11, false) } : Oper)) (v := .pointer (some ⟨g, k * 11, none⟩)) rfl (by kernel_rfl) (by kernel_rfl) (by kernel_rfl) (by decide) (fun _ _ _ h => h) (HTT.out _) (.inl ⟨by rfl, fun w' hSw => ?_⟩) ?_
    · (try dsimp only at hSw)
      go_simp
    (try simp only [Act.put, List.setIfInBounds_toArray, List.set_cons_zero, List.set_cons_succ])
    refine Pcm.take_1 (i := 15) (oi := ({ dst := some 32, op := Op.fieldAddr 40 (Operand.tmp 31) 1, type := 0, pos := _, after := #[{ on := 14, ground := Ground.data }, { on := 11, ground := Ground.guard }], guard := some (11, false) } : Oper)) (v := .pointer (some ⟨g, k * 11 + 1, none⟩)) rfl (by kernel_rfl) (by kernel_rfl) (by kernel_rfl) (by decide) (fun _ _ _ h => h) (HTT.out _) (.inl ⟨by rfl, fun w' hSw => ?_⟩) ?_
    · (try dsimp only at hSw)
      go_simp
    (try simp only [Act.put, List.setIfInBounds_toArray, List.set_cons_zero, List.set_cons_succ])
    refine Pcm.take_1 (i := 16) (oi := ({ dst := some 33, op := Op.load 38 (Operand.tmp 32), type := 38, pos := _, after := #[{ on := 15, ground := Ground.data }, { on := 11, ground := Ground.guard }], guard := some (11, false) } : Oper)) (v := .agg #[.int .i64 x.h.k, .int .i64 x.h.ix, .int .i64 x.h.ln, .int .i64 x.h.st, .int .i64 x.h.bd, .bool x.h.la, .int .u32 (x.h.lk : Int), .int .i64 x.h.sz]) rfl (by kernel_rfl) (by kernel_rfl) (by kernel_rfl) (by decide) (fun _ _ _ h => h) (HTT.out _) (.inl ⟨by rfl, fun w' hSw => ?_⟩) ?_
    · (try dsimp only at hSw)
      have f1 : w'.cell? ⟨g, k * 11 + 1, none⟩ = some (.int .i64 x.h.k) := (hSw.cell (p := ⟨g, k * 11 + 1, none⟩) (World.block_lt_of_cell? _ _ (HCX.out 1 _ rfl))).trans (HCX.out 1 _ rfl)
      have f2 : w'.cell? ⟨g, k * 11 + 2, none⟩ = some (.int .i64 x.h.ix) := (hSw.cell (p := ⟨g, k * 11 + 2, none⟩) (World.block_lt_of_cell? _ _ (HCX.out 2 _ rfl))).trans (HCX.out 2 _ rfl)
      have f3 : w'.cell? ⟨g, k * 11 + 3, none⟩ = some (.int .i64 x.h.ln) := (hSw.cell (p := ⟨g, k * 11 + 3, none⟩) (World.block_lt_of_cell? _ _ (HCX.out 3 _ rfl))).trans (HCX.out 3 _ rfl)
      have f4 : w'.cell? ⟨g, k * 11 + 4, none⟩ = some (.int .i64 x.h.st) := (hSw.cell (p := ⟨g, k * 11 + 4, none⟩) (World.block_lt_of_cell? _ _ (HCX.out 4 _ rfl))).trans (HCX.out 4 _ rfl)
      have f5 : w'.cell? ⟨g, k * 11 + 5, none⟩ = some (.int .i64 x.h.bd) := (hSw.cell (p := ⟨g, k * 11 + 5, none⟩) (World.block_lt_of_cell? _ _ (HCX.out 5 _ rfl))).trans (HCX.out 5 _ rfl)
      have f6 : w'.cell? ⟨g, k * 11 + 6, none⟩ = some (.bool x.h.la) := (hSw.cell (p := ⟨g, k * 11 + 6, none⟩) (World.block_lt_of_cell? _ _ (HCX.out 6 _ rfl))).trans (HCX.out 6 _ rfl)
      have f7 : w'.cell? ⟨g, k * 11 + 7, none⟩ = some (.int .u32 (x.h.lk : Int)) := (hSw.cell (p := ⟨g, k * 11 + 7, none⟩) (World.block_lt_of_cell? _ _ (HCX.out 7 _ rfl))).trans (HCX.out 7 _ rfl)
      have f8 : w'.cell? ⟨g, k * 11 + 8, none⟩ = some (.int .i64 x.h.sz) := (hSw.cell (p := ⟨g, k * 11 + 8, none⟩) (World.block_lt_of_cell? _ _ (HCX.out 8 _ rfl))).trans (HCX.out 8 _ rfl)
      clear hSw
      go_simp
    (try simp only [Act.put, List.setIfInBounds_toArray, List.set_cons_zero, List.set_cons_succ])
    refine Pcm.take_1 (i := 17) (oi := ({ dst := some 34, op := Op.move (Operand.tmp 1), type := 27, pos := _, after := #[{ on := 11, ground := Ground.guard }], guard := some (11, false) } : Oper)) (v := .slice (some ⟨g', 0, none⟩) n cb) rfl (by kernel_rfl) (by kernel_rfl) (by kernel_rfl) (by decide) (fun _ _ _ h => h) (HTT.out _) (.inl ⟨by rfl, fun w' hSw => ?_⟩) ?_
    · (try dsimp only at hSw)
      go_simp
    (try simp only [Act.put, List.setIfInBounds_toArray, List.set_cons_zero, List.set_cons_succ])
    refine Pcm.take_1 (i := 18) (oi := ({ dst := some 35, op := Op.move (Operand.tmp 5), type := 3, pos := _, after := #[{ on := 11, ground := Ground.guard }], guard := some (11, false) } : Oper)) (v := .int .i64 (k : Int)) rfl (by kernel_rfl) (by kernel_rfl) (by kernel_rfl) (by decide) (fun _ _ _ h => h) (HTT.out _) (.inl ⟨by rfl, fun w' hSw => ?_⟩) ?_
    · (try dsimp only at hSw)
      go_simp
    (try simp only [Act.put, List.setIfInBounds_toArray, List.set_cons_zero, List.set_cons_succ])
    refine Pcm.take_1 (i := 19) (oi := ({ dst := some 36, op := Op.indexAddr 27 (Operand.tmp 34) (Operand.tmp 35), type := 0, pos := _, after := #[{ on := 17, ground := Ground.data }, { on := 18, ground := Ground.data }, { on := 11, ground := Ground.guard }], guard := some (11, false) } : Oper)) (v := .pointer (some ⟨g', k * 11, none⟩)) rfl (by kernel_rfl) (by kernel_rfl) (by kernel_rfl) (by decide) (fun _ _ _ h => h) (HTT.out _) (.inl ⟨by rfl, fun w' hSw => ?_⟩) ?_
    · (try dsimp only at hSw)
      go_simp
    (try simp only [Act.put, List.setIfInBounds_toArray, List.set_cons_zero, List.set_cons_succ])
    refine Pcm.take_1 (i := 20) (oi := ({ dst := some 37, op := Op.fieldAddr 40 (Operand.tmp 36) 1, type := 0, pos := _, after := #[{ on := 19, ground := Ground.data }, { on := 11, ground := Ground.guard }], guard := some (11, false) } : Oper)) (v := .pointer (some ⟨g', k * 11 + 1, none⟩)) rfl (by kernel_rfl) (by kernel_rfl) (by kernel_rfl) (by decide) (fun _ _ _ h => h) (HTT.out _) (.inl ⟨by rfl, fun w' hSw => ?_⟩) ?_
    · (try dsimp only at hSw)
      go_simp
    (try simp only [Act.put, List.setIfInBounds_toArray, List.set_cons_zero, List.set_cons_succ])
    refine Pcm.take_1 (i := 21) (oi := ({ dst := some 38, op := Op.load 38 (Operand.tmp 37), type := 38, pos := _, after := #[{ on := 20, ground := Ground.data }, { on := 11, ground := Ground.guard }], guard := some (11, false) } : Oper)) (v := .agg #[.int .i64 x.h.k, .int .i64 x.h.ix, .int .i64 x.h.ln, .int .i64 x.h.st, .int .i64 x.h.bd, .bool x.h.la, .int .u32 (x.h.lk : Int), .int .i64 x.h.sz]) rfl (by kernel_rfl) (by kernel_rfl) (by kernel_rfl) (by decide) (fun _ _ _ h => h) (HTT.out _) (.inl ⟨by rfl, fun w' hSw => ?_⟩) ?_
    · (try dsimp only at hSw)
      have f1 : w'.cell? ⟨g', k * 11 + 1, none⟩ = some (.int .i64 x.h.k) := (hSw.cell (p := ⟨g', k * 11 + 1, none⟩) (World.block_lt_of_cell? _ _ (HCY.out 1 _ rfl))).trans (HCY.out 1 _ rfl)
      have f2 : w'.cell? ⟨g', k * 11 + 2, none⟩ = some (.int .i64 x.h.ix) := (hSw.cell (p := ⟨g', k * 11 + 2, none⟩) (World.block_lt_of_cell? _ _ (HCY.out 2 _ rfl))).trans (HCY.out 2 _ rfl)
      have f3 : w'.cell? ⟨g', k * 11 + 3, none⟩ = some (.int .i64 x.h.ln) := (hSw.cell (p := ⟨g', k * 11 + 3, none⟩) (World.block_lt_of_cell? _ _ (HCY.out 3 _ rfl))).trans (HCY.out 3 _ rfl)
      have f4 : w'.cell? ⟨g', k * 11 + 4, none⟩ = some (.int .i64 x.h.st) := (hSw.cell (p := ⟨g', k * 11 + 4, none⟩) (World.block_lt_of_cell? _ _ (HCY.out 4 _ rfl))).trans (HCY.out 4 _ rfl)
      have f5 : w'.cell? ⟨g', k * 11 + 5, none⟩ = some (.int .i64 x.h.bd) := (hSw.cell (p := ⟨g', k * 11 + 5, none⟩) (World.block_lt_of_cell? _ _ (HCY.out 5 _ rfl))).trans (HCY.out 5 _ rfl)
      have f6 : w'.cell? ⟨g', k * 11 + 6, none⟩ = some (.bool x.h.la) := (hSw.cell (p := ⟨g', k * 11 + 6, none⟩) (World.block_lt_of_cell? _ _ (HCY.out 6 _ rfl))).trans (HCY.out 6 _ rfl)
      have f7 : w'.cell? ⟨g', k * 11 + 7, none⟩ = some (.int .u32 (x.h.lk : Int)) := (hSw.cell (p := ⟨g', k * 11 + 7, none⟩) (World.block_lt_of_cell? _ _ (HCY.out 7 _ rfl))).trans (HCY.out 7 _ rfl)
      have f8 : w'.cell? ⟨g', k * 11 + 8, none⟩ = some (.int .i64 x.h.sz) := (hSw.cell (p := ⟨g', k * 11 + 8, none⟩) (World.block_lt_of_cell? _ _ (HCY.out 8 _ rfl))).trans (HCY.out 8 _ rfl)
      clear hSw
      go_simp
    (try simp only [Act.put, List.setIfInBounds_toArray, List.set_cons_zero, List.set_cons_succ])
    refine Pcm.take_1 (i := 22) (oi := ({ dst := some 39, op := Op.binOp BinOp.neq 38 (Operand.tmp 33) (Operand.tmp 38) 38, type := 4, pos := _, after := #[{ on := 16, ground := Ground.data }, { on := 21, ground := Ground.data }, { on := 11, ground := Ground.guard }], guard := some (11, false) } : Oper)) (v := .bool false) rfl (by kernel_rfl) (by kernel_rfl) (by kernel_rfl) (by decide) (fun _ _ _ h => h) (HTT.out _) (.inl ⟨by rfl, fun w' hSw => ?_⟩) ?_
    · (try dsimp only at hSw)
      go_simp
    (try simp only [Act.put, List.setIfInBounds_toArray, List.set_cons_zero, List.set_cons_succ])
    refine Pcm.take_1 (i := 23) (oi := ({ dst := some 40, op := Op.pick (Operand.tmp 28) (Operand.const (Value.bool true)) (Operand.tmp 39), type := 4, pos := _, after := #[{ on := 11, ground := Ground.data }, { on := 22, ground := Ground.data }], guard := none } : Oper)) (v := .bool false) rfl (by kernel_rfl) (by kernel_rfl) (by kernel_rfl) (by decide) (fun _ _ _ h => h) (HTT.out _) (.inl ⟨by rfl, fun w' hSw => ?_⟩) ?_
    · (try dsimp only at hSw)
      go_simp
    (try simp only [Act.put, List.setIfInBounds_toArray, List.set_cons_zero, List.set_cons_succ])
    refine Pcm.take_1 (i := 24) (oi := ({ dst := some 41, op := Op.move (Operand.tmp 40), type := 4, pos := _, after := #[{ on := 23, ground := Ground.data }, { on := 11, ground := Ground.chain }], guard := none } : Oper)) (v := .bool false) rfl (by kernel_rfl) (by kernel_rfl) (by kernel_rfl) (by decide) (fun _ _ _ h => h) (HTT.out _) (.inl ⟨by rfl, fun w' hSw => ?_⟩) ?_
    · (try dsimp only at hSw)
      go_simp
    (try simp only [Act.put, List.setIfInBounds_toArray, List.set_cons_zero, List.set_cons_succ])
    refine Pcm.take_1 (i := 25) (oi := ({ dst := some 42, op := Op.move (Operand.tmp 0), type := 27, pos := _, after := #[{ on := 24, ground := Ground.guard }], guard := some (24, false) } : Oper)) (v := .slice (some ⟨g, 0, none⟩) n ca) rfl (by kernel_rfl) (by kernel_rfl) (by kernel_rfl) (by decide) (fun _ _ _ h => h) (HTT.out _) (.inl ⟨by rfl, fun w' hSw => ?_⟩) ?_
    · (try dsimp only at hSw)
      go_simp
    (try simp only [Act.put, List.setIfInBounds_toArray, List.set_cons_zero, List.set_cons_succ])
    refine Pcm.take_1 (i := 26) (oi := ({ dst := some 43, op := Op.move (Operand.tmp 5), type := 3, pos := _, after := #[{ on := 24, ground := Ground.guard }], guard := some (24, false) } : Oper)) (v := .int .i64 (k : Int)) rfl (by kernel_rfl) (by kernel_rfl) (by kernel_rfl) (by decide) (fun _ _ _ h => h) (HTT.out _) (.inl ⟨by rfl, fun w' hSw => ?_⟩) ?_
    · (try dsimp only at hSw)
      go_simp
    (try simp only [Act.put, List.setIfInBounds_toArray, List.set_cons_zero, List.set_cons_succ])
    refine Pcm.take_1 (i := 27) (oi := ({ dst := some 44, op := Op.indexAddr 27 (Operand.tmp 42) (Operand.tmp 43), type := 0, pos := _, after := #[{ on := 25, ground := Ground.data }, { on := 26, ground := Ground.data }, { on := 24, ground := Ground.guard }], guard := some (24, false) } : Oper)) (v := .pointer (some ⟨g, k * 11, none⟩)) rfl (by kernel_rfl) (by kernel_rfl) (by kernel_rfl) (by decide) (fun _ _ _ h => h) (HTT.out _) (.inl ⟨by rfl, fun w' hSw => ?_⟩) ?_
    · (try dsimp only at hSw)
      go_simp
    (try simp only [Act.put, List.setIfInBounds_toArray, List.set_cons_zero, List.set_cons_succ])
    refine Pcm.take_1 (i := 28) (oi := ({ dst := some 45, op := Op.fieldAddr 40 (Operand.tmp 44) 3, type := 0, pos := _, after := #[{ on := 27, ground := Ground.data }, { on := 24, ground := Ground.guard }], guard := some (24, false) } : Oper)) (v := .pointer (some ⟨g, k * 11 + 10, none⟩)) rfl (by kernel_rfl) (by kernel_rfl) (by kernel_rfl) (by decide) (fun _ _ _ h => h) (HTT.out _) (.inl ⟨by rfl, fun w' hSw => ?_⟩) ?_
    · (try dsimp only at hSw)
      go_simp
    (try simp only [Act.put, List.setIfInBounds_toArray, List.set_cons_zero, List.set_cons_succ])
    refine Pcm.take_1 (i := 29) (oi := ({ dst := some 46, op := Op.load 36 (Operand.tmp 45), type := 36, pos := _, after := #[{ on := 28, ground := Ground.data }, { on := 24, ground := Ground.guard }], guard := some (24, false) } : Oper)) (v := .int .u32 (x.s : Int)) rfl (by kernel_rfl) (by kernel_rfl) (by kernel_rfl) (by decide) (fun _ _ _ h => h) (HTT.out _) (.inl ⟨by rfl, fun w' hSw => ?_⟩) ?_
    · (try dsimp only at hSw)
      have f10 : w'.cell? ⟨g, k * 11 + 10, none⟩ = some (.int .u32 (x.s : Int)) := (hSw.cell (p := ⟨g, k * 11 + 10, none⟩) (World.block_lt_of_cell? _ _ (HCX.out 10 _ rfl))).trans (HCX.out 10 _ rfl)
      clear hSw
      go_simp
    (try simp only [Act.put, List.setIfInBounds_toArray, List.set_cons_zero, List.set_cons_succ])
    refine Pcm.take_1 (i := 30) (oi := ({ dst := some 47, op := Op.move (Operand.tmp 1), type := 27, pos := _, after := #[{ on := 24, ground := Ground.guard }], guard := some (24, false) } : Oper)) (v := .slice (some ⟨g', 0, none⟩) n cb) rfl (by kernel_rfl) (by kernel_rfl) (by kernel_rfl) (by decide) (fun _ _ _ h => h) (HTT.out _) (.inl ⟨by rfl, fun w' hSw => ?_⟩) ?_
    · (try dsimp only at hSw)
      go_simp
    (try simp only [Act.put, List.setIfInBounds_toArray, List.set_cons_zero, List.set_cons_succ])
    refine Pcm.take_1 (i := 31) (oi := ({ dst := some 48, op := Op.move (Operand.tmp 5), type := 3, pos := _, after := #[{ on := 24, ground := Ground.guard }], guard := some (24, false) } : Oper)) (v := .int .i64 (k : Int)) rfl (by kernel_rfl) (by kernel_rfl) (by kernel_rfl) (by decide) (fun _ _ _ h => h) (HTT.out _) (.inl ⟨by rfl, fun w' hSw => ?_⟩) ?_
    · (try dsimp only at hSw)
      go_simp
    (try simp only [Act.put, List.setIfInBounds_toArray, List.set_cons_zero, List.set_cons_succ])
    refine Pcm.take_1 (i := 32) (oi := ({ dst := some 49, op := Op.indexAddr 27 (Operand.tmp 47) (Operand.tmp 48), type := 0, pos := _, after := #[{ on := 30, ground := Ground.data }, { on := 31, ground := Ground.data }, { on := 24, ground := Ground.guard }], guard := some (24, false) } : Oper)) (v := .pointer (some ⟨g', k * 11, none⟩)) rfl (by kernel_rfl) (by kernel_rfl) (by kernel_rfl) (by decide) (fun _ _ _ h => h) (HTT.out _) (.inl ⟨by rfl, fun w' hSw => ?_⟩) ?_
    · (try dsimp only at hSw)
      go_simp
    (try simp only [Act.put, List.setIfInBounds_toArray, List.set_cons_zero, List.set_cons_succ])
    refine Pcm.take_1 (i := 33) (oi := ({ dst := some 50, op := Op.fieldAddr 40 (Operand.tmp 49) 3, type := 0, pos := _, after := #[{ on := 32, ground := Ground.data }, { on := 24, ground := Ground.guard }], guard := some (24, false) } : Oper)) (v := .pointer (some ⟨g', k * 11 + 10, none⟩)) rfl (by kernel_rfl) (by kernel_rfl) (by kernel_rfl) (by decide) (fun _ _ _ h => h) (HTT.out _) (.inl ⟨by rfl, fun w' hSw => ?_⟩) ?_
    · (try dsimp only at hSw)
      go_simp
    (try simp only [Act.put, List.setIfInBounds_toArray, List.set_cons_zero, List.set_cons_succ])
    refine Pcm.take_1 (i := 34) (oi := ({ dst := some 51, op := Op.load 36 (Operand.tmp 50), type := 36, pos := _, after := #[{ on := 33, ground := Ground.data }, { on := 24, ground := Ground.guard }], guard := some (24, false) } : Oper)) (v := .int .u32 (x.s : Int)) rfl (by kernel_rfl) (by kernel_rfl) (by kernel_rfl) (by decide) (fun _ _ _ h => h) (HTT.out _) (.inl ⟨by rfl, fun w' hSw => ?_⟩) ?_
    · (try dsimp only at hSw)
      have f10 : w'.cell? ⟨g', k * 11 + 10, none⟩ = some (.int .u32 (x.s : Int)) := (hSw.cell (p := ⟨g', k * 11 + 10, none⟩) (World.block_lt_of_cell? _ _ (HCY.out 10 _ rfl))).trans (HCY.out 10 _ rfl)
      clear hSw
      go_simp
    (try simp only [Act.put, List.setIfInBounds_toArray, List.set_cons_zero, List.set_cons_succ])
    refine Pcm.take_1 (i := 35) (oi := ({ dst := some 52, op := Op.binOp BinOp.neq 36 (Operand.tmp 46) (Operand.tmp 51) 36, type := 4, pos := _, after := #[{ on := 29, ground := Ground.data }, { on := 34, ground := Ground.data }, { on := 24, ground := Ground.guard }], guard := some (24, false) } : Oper)) (v := .bool false) rfl (by kernel_rfl) (by kernel_rfl) (by kernel_rfl) (by decide) (fun _ _ _ h => h) (HTT.out _) (.inl ⟨by rfl, fun w' hSw => ?_⟩) ?_
    · (try dsimp only at hSw)
      go_simp
    (try simp only [Act.put, List.setIfInBounds_toArray, List.set_cons_zero, List.set_cons_succ])
    refine Pcm.take_1 (i := 36) (oi := ({ dst := some 53, op := Op.pick (Operand.tmp 41) (Operand.const (Value.bool true)) (Operand.tmp 52), type := 4, pos := _, after := #[{ on := 24, ground := Ground.data }, { on := 35, ground := Ground.data }], guard := none } : Oper)) (v := .bool false) rfl (by kernel_rfl) (by kernel_rfl) (by kernel_rfl) (by decide) (fun _ _ _ h => h) (HTT.out _) (.inl ⟨by rfl, fun w' hSw => ?_⟩) ?_
    · (try dsimp only at hSw)
      go_simp
    (try simp only [Act.put, List.setIfInBounds_toArray, List.set_cons_zero, List.set_cons_succ])
    refine Pcm.take_1 (i := 37) (oi := ({ dst := some 54, op := Op.move (Operand.tmp 53), type := 4, pos := _, after := #[{ on := 36, ground := Ground.data }, { on := 24, ground := Ground.chain }], guard := none } : Oper)) (v := .bool false) rfl (by kernel_rfl) (by kernel_rfl) (by kernel_rfl) (by decide) (fun _ _ _ h => h) (HTT.out _) (.inl ⟨by rfl, fun w' hSw => ?_⟩) ?_
    · (try dsimp only at hSw)
      go_simp
    (try simp only [Act.put, List.setIfInBounds_toArray, List.set_cons_zero, List.set_cons_succ])
    refine Pcm.take_1 (i := 38) (oi := ({ dst := some 55, op := Op.move (Operand.tmp 0), type := 27, pos := _, after := #[{ on := 37, ground := Ground.guard }], guard := some (37, false) } : Oper)) (v := .slice (some ⟨g, 0, none⟩) n ca) rfl (by kernel_rfl) (by kernel_rfl) (by kernel_rfl) (by decide) (fun _ _ _ h => h) (HTT.out _) (.inl ⟨by rfl, fun w' hSw => ?_⟩) ?_
    · (try dsimp only at hSw)
      go_simp
    (try simp only [Act.put, List.setIfInBounds_toArray, List.set_cons_zero, List.set_cons_succ])
    refine Pcm.take_1 (i := 39) (oi := ({ dst := some 56, op := Op.move (Operand.tmp 5), type := 3, pos := _, after := #[{ on := 37, ground := Ground.guard }], guard := some (37, false) } : Oper)) (v := .int .i64 (k : Int)) rfl (by kernel_rfl) (by kernel_rfl) (by kernel_rfl) (by decide) (fun _ _ _ h => h) (HTT.out _) (.inl ⟨by rfl, fun w' hSw => ?_⟩) ?_
    · (try dsimp only at hSw)
      go_simp
    (try simp only [Act.put, List.setIfInBounds_toArray, List.set_cons_zero, List.set_cons_succ])
    refine Pcm.take_1 (i := 40) (oi := ({ dst := some 57, op := Op.indexAddr 27 (Operand.tmp 55) (Operand.tmp 56), type := 0, pos := _, after := #[{ on := 38, ground := Ground.data }, { on := 39, ground := Ground.data }, { on := 37, ground := Ground.guard }], guard := some (37, false) } : Oper)) (v := .pointer (some ⟨g, k * 11, none⟩)) rfl (by kernel_rfl) (by kernel_rfl) (by kernel_rfl) (by decide) (fun _ _ _ h => h) (HTT.out _) (.inl ⟨by rfl, fun w' hSw => ?_⟩) ?_
    · (try dsimp only at hSw)
      go_simp
    (try simp only [Act.put, List.setIfInBounds_toArray, List.set_cons_zero, List.set_cons_succ])
    refine Pcm.take_1 (i := 41) (oi := ({ dst := some 58, op := Op.fieldAddr 40 (Operand.tmp 57) 2, type := 0, pos := _, after := #[{ on := 40, ground := Ground.data }, { on := 37, ground := Ground.guard }], guard := some (37, false) } : Oper)) (v := .pointer (some ⟨g, k * 11 + 9, none⟩)) rfl (by kernel_rfl) (by kernel_rfl) (by kernel_rfl) (by decide) (fun _ _ _ h => h) (HTT.out _) (.inl ⟨by rfl, fun w' hSw => ?_⟩) ?_
    · (try dsimp only at hSw)
      go_simp
    (try simp only [Act.put, List.setIfInBounds_toArray, List.set_cons_zero, List.set_cons_succ])
    refine Pcm.take_1 (i := 42) (oi := ({ dst := some 59, op := Op.load 22 (Operand.tmp 58), type := 22, pos := _, after := #[{ on := 41, ground := Ground.data }, { on := 37, ground := Ground.guard }], guard := some (37, false) } : Oper)) (v := .slice x.a x.n x.cap) rfl (by kernel_rfl) (by kernel_rfl) (by kernel_rfl) (by decide) (fun _ _ _ h => h) (HTT.out _) (.inl ⟨by rfl, fun w' hSw => ?_⟩) ?_
    · (try dsimp only at hSw)
      have f9 : w'.cell? ⟨g, k * 11 + 9, none⟩ = some (.slice x.a x.n x.cap) := (hSw.cell (p := ⟨g, k * 11 + 9, none⟩) (World.block_lt_of_cell? _ _ (HCX.out 9 _ rfl))).trans (HCX.out 9 _ rfl)
      clear hSw
      go_simp
    (try simp only [Act.put, List.setIfInBounds_toArray, List.set_cons_zero, List.set_cons_succ])
    refine Pcm.take_1 (i := 43) (oi := ({ dst := some 60, op := Op.convert 22 9 (Operand.tmp 59), type := 9, pos := _, after := #[{ on := 42, ground := Ground.data }, { on := 37, ground := Ground.guard }], guard := some (37, false) } : Oper)) (v := .string (tos l)) rfl (by kernel_rfl) (by kernel_rfl) (by kernel_rfl) (by decide) (fun _ _ _ h => h) (HTT.out _) (.inl ⟨by rfl, fun w' hSw => ?_⟩) ?_
    · (try dsimp only at hSw)
      have cv := (HP1.out.keep hSw).conv x.cap
      rw [HLL.out] at cv
      clear hSw
      go_simp
    (try simp only [Act.put, List.setIfInBounds_toArray, List.set_cons_zero, List.set_cons_succ])
    refine Pcm.take_1 (i := 44) (oi := ({ dst := some 61, op := Op.move (Operand.tmp 1), type := 27, pos := _, after := #[{ on := 37, ground := Ground.guard }], guard := some (37, false) } : Oper)) (v := .slice (some ⟨g', 0, none⟩) n cb) rfl (by kernel_rfl) (by kernel_rfl) (by kernel_rfl) (by decide) (fun _ _ _ h => h) (HTT.out _) (.inl ⟨by rfl, fun w' hSw => ?_⟩) ?_
    · (try dsimp only at hSw)
      go_simp
    (try simp only [Act.put, List.setIfInBounds_toArray, List.set_cons_zero, List.set_cons_succ])
    refine Pcm.take_1 (i := 45) (oi := ({ dst := some 62, op := Op.move (Operand.tmp 5), type := 3, pos := _, after := #[{ on := 37, ground := Ground.guard }], guard := some (37, false) } : Oper)) (v := .int .i64 (k : Int)) rfl (by kernel_rfl) (by kernel_rfl) (by kernel_rfl) (by decide) (fun _ _ _ h => h) (HTT.out _) (.inl ⟨by rfl, fun w' hSw => ?_⟩) ?_
    · (try dsimp only at hSw)
      go_simp
    (try simp only [Act.put, List.setIfInBounds_toArray, List.set_cons_zero, List.set_cons_succ])
    refine Pcm.take_1 (i := 46) (oi := ({ dst := some 63, op := Op.indexAddr 27 (Operand.tmp 61) (Operand.tmp 62), type := 0, pos := _, after := #[{ on := 44, ground := Ground.data }, { on := 45, ground := Ground.data }, { on := 37, ground := Ground.guard }], guard := some (37, false) } : Oper)) (v := .pointer (some ⟨g', k * 11, none⟩)) rfl (by kernel_rfl) (by kernel_rfl) (by kernel_rfl) (by decide) (fun _ _ _ h => h) (HTT.out _) (.inl ⟨by rfl, fun w' hSw => ?_⟩) ?_
    · (try dsimp only at hSw)
      go_simp
    (try simp only [Act.put, List.setIfInBounds_toArray, List.set_cons_zero, List.set_cons_succ])
    refine Pcm.take_1 (i := 47) (oi := ({ dst := some 64, op := Op.fieldAddr 40 (Operand.tmp 63) 2, type := 0, pos := _, after := #[{ on := 46, ground := Ground.data }, { on := 37, ground := Ground.guard }], guard := some (37, false) } : Oper)) (v := .pointer (some ⟨g', k * 11 + 9, none⟩)) rfl (by kernel_rfl) (by kernel_rfl) (by kernel_rfl) (by decide) (fun _ _ _ h => h) (HTT.out _) (.inl ⟨by rfl, fun w' hSw => ?_⟩) ?_
    · (try dsimp only at hSw)
      go_simp
    (try simp only [Act.put, List.setIfInBounds_toArray, List.set_cons_zero, List.set_cons_succ])
    refine Pcm.take_1 (i := 48) (oi := ({ dst := some 65, op := Op.load 22 (Operand.tmp 64), type := 22, pos := _, after := #[{ on := 47, ground := Ground.data }, { on := 37, ground := Ground.guard }], guard := some (37, false) } : Oper)) (v := .slice ya x.n yc) rfl (by kernel_rfl) (by kernel_rfl) (by kernel_rfl) (by decide) (fun _ _ _ h => h) (HTT.out _) (.inl ⟨by rfl, fun w' hSw => ?_⟩) ?_
    · (try dsimp only at hSw)
      have f9 : w'.cell? ⟨g', k * 11 + 9, none⟩ = some (.slice ya x.n yc) := (hSw.cell (p := ⟨g', k * 11 + 9, none⟩) (World.block_lt_of_cell? _ _ (HCY.out 9 _ rfl))).trans (HCY.out 9 _ rfl)
      clear hSw
      go_simp
    (try simp only [Act.put, List.setIfInBounds_toArray, List.set_cons_zero, List.set_cons_succ])
    refine Pcm.take_1 (i := 49) (oi := ({ dst := some 66, op := Op.convert 22 9 (Operand.tmp 65), type := 9, pos := _, after := #[{ on := 48, ground := Ground.data }, { on := 37, ground := Ground.guard }], guard := some (37, false) } : Oper)) (v := .string (tos l)) rfl (by kernel_rfl) (by kernel_rfl) (by kernel_rfl) (by decide) (fun _ _ _ h => h) (HTT.out _) (.inl ⟨by rfl, fun w' hSw => ?_⟩) ?_
    · (try dsimp only at hSw)
      have cv := (HP2.out.keep hSw).conv yc
      rw [HLL.out] at cv
      clear hSw
      go_simp
    (try simp only [Act.put, List.setIfInBounds_toArray, List.set_cons_zero, List.set_cons_succ])
    refine Pcm.take_1 (i := 50) (oi := ({ dst := some 67, op := Op.binOp BinOp.neq 9 (Operand.tmp 60) (Operand.tmp 66) 9, type := 4, pos := _, after := #[{ on := 43, ground := Ground.data }, { on := 49, ground := Ground.data }, { on := 37, ground := Ground.guard }], guard := some (37, false) } : Oper)) (v := .bool false) rfl (by kernel_rfl) (by kernel_rfl) (by kernel_rfl) (by decide) (fun _ _ _ h => h) (HTT.out _) (.inl ⟨by rfl, fun w' hSw => ?_⟩) ?_
    · (try dsimp only at hSw)
      go_simp
    (try simp only [Act.put, List.setIfInBounds_toArray, List.set_cons_zero, List.set_cons_succ])
    refine Pcm.take_1 (i := 51) (oi := ({ dst := some 68, op := Op.pick (Operand.tmp 54) (Operand.const (Value.bool true)) (Operand.tmp 67), type := 4, pos := _, after := #[{ on := 37, ground := Ground.data }, { on := 50, ground := Ground.data }], guard := none } : Oper)) (v := .bool false) rfl (by kernel_rfl) (by kernel_rfl) (by kernel_rfl) (by decide) (fun _ _ _ h => h) (HTT.out _) (.inl ⟨by rfl, fun w' hSw => ?_⟩) ?_
    · (try dsimp only at hSw)
      go_simp
    (try simp only [Act.put, List.setIfInBounds_toArray, List.set_cons_zero, List.set_cons_succ])
    refine Pcm.anyT_done (by kernel_rfl) ?_ _
    have HBD := hid (HB.out.drew)
    clear HTT
    go_wp2_with fail
    go_roundg (n - (k + 1))
    case measure => rw [HG.out]; omega
    case rel => exact ⟨k + 1, by omega, rfl, by first | rfl | go_num, HBD.out⟩
end Go.Proofs.Ytgcnbeigchppfaa.Mnd
