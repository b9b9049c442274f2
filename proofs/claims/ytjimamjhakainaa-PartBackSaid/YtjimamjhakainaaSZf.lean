/- halved: the tallies of the parts of an order one less. Conditions: the tallies lie there. -/
import Derived.Test.YtjimamjhakainaaSZe
import Derived.Deep.RegionHeld3
namespace Go.Proofs.Ytjimamjhakainaa.Part
open Go.RowKit Bit Rice Runs

theorem wr_two (k k2 : Nat) (h : k2 = 2 * k) (hk : k ≤ 64) : wrap64 (2 * (k : Int)) = (k2 : Int) ∧ IntKind.i64.wrap (2 * (k : Int)) = (k2 : Int) := by
  subst h
  push_cast
  exact ⟨IntWalk.wrap64_in _ (by omega), IntWalk.i64_in _ (by omega)⟩
theorem wr_one (k k2 : Nat) (h : k2 = k + 1) (hk : k ≤ 200) : wrap64 ((k : Int) + 1) = (k2 : Int) ∧ IntKind.i64.wrap ((k : Int) + 1) = (k2 : Int) := by
  subst h
  push_cast
  exact ⟨IntWalk.wrap64_in _ (by omega), IntWalk.i64_in _ (by omega)⟩
theorem half_quo (y : Nat) : Int.tdiv ((2 * y : Nat) : Int) 2 = (y : Int) := by push_cast; exact Int.mul_tdiv_cancel_left _ (by decide)
theorem and_part (W : World) (I : Nat → Int) (len p i : Nat) (hi : i < 2 ^ p) (hlen : len ≤ 65536) :
    Calls Try.prog 73 #[.agg (tT I len (p + 1) (2 * i)).toArray, .agg (tT I len (p + 1) (2 * i + 1)).toArray] W fun e w' => e = .returned (.agg (tT I len p i).toArray) ∧ Below W.heap.size W w' := by
  rw [tT_arr, tT_arr, tT_arr]
  have h1 : 2 * i < 2 ^ (p + 1) := by rw [Nat.pow_succ]; omega
  have h2 : 2 * i + 1 < 2 ^ (p + 1) := by rw [Nat.pow_succ]; omega
  refine (and_any W _ _ _ _ _ _ (by rw [tN_half]; have := tN_le I len p i hi; omega) (fun k _ => by rw [tR_half]; have := tR_le I len p i k hi; omega)).mono ?_
  rintro e w' ⟨rfl, hb⟩
  refine ⟨?_, hb⟩
  rw [tN_half, tG_half]
  exact congrArg (fun z => Ending.returned (.agg z)) (tal_congr fun k _ => tR_half I len p i k)

set_option maxRecDepth 100000 in
set_option maxHeartbeats 2000000 in
theorem halved_any (I : Nat → Int) (len p y g cg : Nat) (hp6 : p + 1 ≤ 6) (hy : 2 ^ p = y) (w : World) (hlen : len ≤ 65536) (ht : Tl w g I len (p + 1) (2 * y) (List.range (2 * y))) (hg : g < w.heap.size) :
    Calls Try.prog 47 #[.slice (some ⟨g, 0, none⟩) (2 * y) cg] w (TlPost w I len p y) := by
  obtain ⟨hsh, hy64, hy1⟩ := shl_p p y (by omega) hy
  have hmk := mk70 w y hy64
  have htl := tl_made w (tal 0 0 fun _ => 0) y I len p
  obtain ⟨C, hC⟩ : ∃ C, madeCells (tal 0 0 fun _ => 0) (y * 33) = C := ⟨_, rfl⟩
  rw [hC] at hmk htl
  have hq := half_quo y
  have HAP := hid fun W i (hi : i < y) => and_part W I len p i (by rw [hy]; exact hi) hlen
  have HB0 := hid ((Below.refl w.heap.size w).alloc (Nat.le_refl _) (.cells C 60))
  have HT0 := hid htl
  have HT := hid ht; have HG := hid hg
  clear ht hsh hC htl
  go_enter Try.func47, Try.ntmps47
  go_wp2_with fail
  go_loopg [11] y (fun gh i wr => ∃ k : Nat, k ≤ y ∧ gh = y - k ∧ i = .int .i64 (k : Int) ∧ Tl wr w.heap.size I len p y (List.range k) ∧ Below w.heap.size w wr ∧ w.heap.size < wr.heap.size)
  case atStart => exact ⟨0, Nat.zero_le _, rfl, rfl, HT0.out, HB0.out, by simp⟩
  case round =>
    obtain ⟨k, hk, hgh, rfl, hst, hb, hsz⟩ := hrel
    have HGH := hid hgh
    have HST := hid hst; have HB := hid hb; have HSZ := hid hsz
    clear hgh hst hb hsz
    by_cases hlt : k < y
    · have hlt2 : (k : Int) < (y : Int) := by omega
      obtain ⟨k2, hk2⟩ : ∃ k2, k2 = 2 * k := ⟨_, rfl⟩
      obtain ⟨k3, hk3⟩ : ∃ k3, k3 = k2 + 1 := ⟨_, rfl⟩
      obtain ⟨hm1, hm2⟩ := wr_two k k2 hk2 (by omega)
      obtain ⟨ha1, ha2⟩ := wr_one k2 k3 hk3 (by omega)
      have hb2 : (k2 : Int) < 2 * (y : Int) := by omega
      have hb3 : (k3 : Int) < 2 * (y : Int) := by omega
      have hx2 : k2 < 2 * y := by omega
      have hx3 : k3 < 2 * y := by omega
      have HT1 := hid (tT_one I len p k)
      have hT33 := tT_len I len p k
      have HS1 := hid (sT60 I len (p + 1) k2)
      have HS2 := hid (sT60 I len (p + 1) k3)
      have HRG : RowKit.Hid (∀ W, Below wr.heap.size wr W → W.rangeAt g (k2 * 33) (tT I len (p + 1) k2) ∧ W.rangeAt g (k3 * 33) (tT I len (p + 1) k3)) := hid fun W hW => by
        have hT := HT.out.of_block ((hW.block g (by have := HG.out; have := HSZ.out; omega)).trans (HB.out.block g HG.out))
        exact ⟨hT.at_ k2 (List.mem_range.2 hx2), hT.at_ k3 (List.mem_range.2 hx3)⟩
      have HTH : RowKit.Hid (∀ W, Below wr.heap.size wr W → W.there w.heap.size (k * 33) (tT I len p k).length) := hid fun W hW => by
        rw [tT_len]
        exact (HST.out.of_block (hW.block w.heap.size HSZ.out)).sub hlt
      have HRS : RowKit.Hid (∀ W, Below wr.heap.size wr W → (W.setCells w.heap.size (k * 33) (tT I len p k)).rangeAt g (k2 * 33) (tT I len (p + 1) k2) ∧ (W.setCells w.heap.size (k * 33) (tT I len p k)).rangeAt g (k3 * 33) (tT I len (p + 1) k3)) := hid fun W hW =>
        ⟨World.rangeAt_setCells_apart (HRG.out W hW).1 _ _ _ (.inl (by have := HG.out; omega)), World.rangeAt_setCells_apart (HRG.out W hW).2 _ _ _ (.inl (by have := HG.out; omega))⟩
      have HSET := hid fun W (hW : Below wr.heap.size wr W) => (HST.out.of_block (hW.block w.heap.size HSZ.out)).set hlt
      have HAP2 : RowKit.Hid (∀ W, Calls Try.prog 73 #[.agg (tT I len (p + 1) k2).toArray, .agg (tT I len (p + 1) k3).toArray] W fun e w' => e = .returned (.agg (tT I len p k).toArray) ∧ Below W.heap.size W w') := hid fun W => by rw [hk3, hk2]; exact HAP.out W k hlt
      generalize tT I len p k = T at *
      generalize tT I len (p + 1) k2 = T1 at *
      generalize tT I len (p + 1) k3 = T2 at *
      clear hk2 hk3 hx2 hx3
      go_wp2_with fail
      refine wp_region_held_drew (S := fun w' => w'.rangeAt g (k2 * 33) T1 ∧ w'.rangeAt g (k3 * 33) T2) (by kernel_rfl) (HRG.out _ ((Below.refl wr.heap.size wr).drew)) (fun hHeld => ?_)
      refine wpAnyH_take (i := 0) (oi := ({ dst := some 14, op := Op.move (Operand.tmp 3), type := 70, pos := _, after := #[], guard := none } : Oper)) (v := .slice (some ⟨w.heap.size, 0, none⟩) y y) rfl (by kernel_rfl) (by kernel_rfl) (by kernel_rfl) (fun _ _ _ h => h) (Or.inl ⟨by rfl, fun w' hSw => ?_⟩) hHeld ?_
      · clear hSw
        go_simp
      (try simp only [Act.put, List.setIfInBounds_toArray, List.set_cons_zero, List.set_cons_succ])
      refine wpAnyH_take (i := 1) (oi := ({ dst := some 15, op := Op.move (Operand.tmp 4), type := 3, pos := _, after := #[], guard := none } : Oper)) (v := .int .i64 (k : Int)) rfl (by kernel_rfl) (by kernel_rfl) (by kernel_rfl) (fun _ _ _ h => h) (Or.inl ⟨by rfl, fun w' hSw => ?_⟩) hHeld ?_
      · clear hSw
        go_simp
      (try simp only [Act.put, List.setIfInBounds_toArray, List.set_cons_zero, List.set_cons_succ])
      refine wpAnyH_take (i := 2) (oi := ({ dst := some 16, op := Op.move (Operand.tmp 0), type := 70, pos := _, after := #[], guard := none } : Oper)) (v := .slice (some ⟨g, 0, none⟩) (2 * y) cg) rfl (by kernel_rfl) (by kernel_rfl) (by kernel_rfl) (fun _ _ _ h => h) (Or.inl ⟨by rfl, fun w' hSw => ?_⟩) hHeld ?_
      · clear hSw
        go_simp
      (try simp only [Act.put, List.setIfInBounds_toArray, List.set_cons_zero, List.set_cons_succ])
      refine wpAnyH_take (i := 3) (oi := ({ dst := some 17, op := Op.move (Operand.tmp 4), type := 3, pos := _, after := #[], guard := none } : Oper)) (v := .int .i64 (k : Int)) rfl (by kernel_rfl) (by kernel_rfl) (by kernel_rfl) (fun _ _ _ h => h) (Or.inl ⟨by rfl, fun w' hSw => ?_⟩) hHeld ?_
      · clear hSw
        go_simp
      (try simp only [Act.put, List.setIfInBounds_toArray, List.set_cons_zero, List.set_cons_succ])
      refine wpAnyH_take (i := 4) (oi := ({ dst := some 18, op := Op.binOp BinOp.mul 3 (Operand.const (Value.int IntKind.i64 2)) (Operand.tmp 17) 3, type := 3, pos := _, after := #[{ on := 3, ground := Ground.data }], guard := none } : Oper)) (v := .int .i64 (k2 : Int)) rfl (by kernel_rfl) (by kernel_rfl) (by kernel_rfl) (fun _ _ _ h => h) (Or.inl ⟨by rfl, fun w' hSw => ?_⟩) hHeld ?_
      · clear hSw
        go_simp
      (try simp only [Act.put, List.setIfInBounds_toArray, List.set_cons_zero, List.set_cons_succ])
      refine wpAnyH_take (i := 5) (oi := ({ dst := some 19, op := Op.indexAddr 70 (Operand.tmp 16) (Operand.tmp 18), type := 0, pos := _, after := #[{ on := 2, ground := Ground.data }, { on := 4, ground := Ground.data }], guard := none } : Oper)) (v := .pointer (some ⟨g, k2 * 33, none⟩)) rfl (by kernel_rfl) (by kernel_rfl) (by kernel_rfl) (fun _ _ _ h => h) (Or.inl ⟨by rfl, fun w' hSw => ?_⟩) hHeld ?_
      · clear hSw
        go_simp
      (try simp only [Act.put, List.setIfInBounds_toArray, List.set_cons_zero, List.set_cons_succ])
      refine wpAnyH_take (i := 6) (oi := ({ dst := some 20, op := Op.load 60 (Operand.tmp 19), type := 60, pos := _, after := #[{ on := 5, ground := Ground.data }], guard := none } : Oper)) (v := .agg T1.toArray) rfl (by kernel_rfl) (by kernel_rfl) (by kernel_rfl) (fun _ _ _ h => h) (yieldsIf_load_mid (by rfl) 60 _ rfl g (k2 * 33) rfl T1 _ (fun w' hSw => hSw.1) Try.underlying60 rfl HS1.out) hHeld ?_
      (try simp only [Act.put, List.setIfInBounds_toArray, List.set_cons_zero, List.set_cons_succ])
      refine wpAnyH_take (i := 7) (oi := ({ dst := some 21, op := Op.move (Operand.tmp 0), type := 70, pos := _, after := #[], guard := none } : Oper)) (v := .slice (some ⟨g, 0, none⟩) (2 * y) cg) rfl (by kernel_rfl) (by kernel_rfl) (by kernel_rfl) (fun _ _ _ h => h) (Or.inl ⟨by rfl, fun w' hSw => ?_⟩) hHeld ?_
      · clear hSw
        go_simp
      (try simp only [Act.put, List.setIfInBounds_toArray, List.set_cons_zero, List.set_cons_succ])
      refine wpAnyH_take (i := 8) (oi := ({ dst := some 22, op := Op.move (Operand.tmp 4), type := 3, pos := _, after := #[], guard := none } : Oper)) (v := .int .i64 (k : Int)) rfl (by kernel_rfl) (by kernel_rfl) (by kernel_rfl) (fun _ _ _ h => h) (Or.inl ⟨by rfl, fun w' hSw => ?_⟩) hHeld ?_
      · clear hSw
        go_simp
      (try simp only [Act.put, List.setIfInBounds_toArray, List.set_cons_zero, List.set_cons_succ])
      refine wpAnyH_take (i := 9) (oi := ({ dst := some 23, op := Op.binOp BinOp.mul 3 (Operand.const (Value.int IntKind.i64 2)) (Operand.tmp 22) 3, type := 3, pos := _, after := #[{ on := 8, ground := Ground.data }], guard := none } : Oper)) (v := .int .i64 (k2 : Int)) rfl (by kernel_rfl) (by kernel_rfl) (by kernel_rfl) (fun _ _ _ h => h) (Or.inl ⟨by rfl, fun w' hSw => ?_⟩) hHeld ?_
      · clear hSw
        go_simp
      (try simp only [Act.put, List.setIfInBounds_toArray, List.set_cons_zero, List.set_cons_succ])
      refine wpAnyH_take (i := 10) (oi := ({ dst := some 24, op := Op.binOp BinOp.add 3 (Operand.tmp 23) (Operand.const (Value.int IntKind.i64 1)) 3, type := 3, pos := _, after := #[{ on := 9, ground := Ground.data }], guard := none } : Oper)) (v := .int .i64 (k3 : Int)) rfl (by kernel_rfl) (by kernel_rfl) (by kernel_rfl) (fun _ _ _ h => h) (Or.inl ⟨by rfl, fun w' hSw => ?_⟩) hHeld ?_
      · clear hSw
        go_simp
      (try simp only [Act.put, List.setIfInBounds_toArray, List.set_cons_zero, List.set_cons_succ])
      refine wpAnyH_take (i := 11) (oi := ({ dst := some 25, op := Op.indexAddr 70 (Operand.tmp 21) (Operand.tmp 24), type := 0, pos := _, after := #[{ on := 7, ground := Ground.data }, { on := 10, ground := Ground.data }], guard := none } : Oper)) (v := .pointer (some ⟨g, k3 * 33, none⟩)) rfl (by kernel_rfl) (by kernel_rfl) (by kernel_rfl) (fun _ _ _ h => h) (Or.inl ⟨by rfl, fun w' hSw => ?_⟩) hHeld ?_
      · clear hSw
        go_simp
      (try simp only [Act.put, List.setIfInBounds_toArray, List.set_cons_zero, List.set_cons_succ])
      refine wpAnyH_take (i := 12) (oi := ({ dst := some 26, op := Op.load 60 (Operand.tmp 25), type := 60, pos := _, after := #[{ on := 11, ground := Ground.data }], guard := none } : Oper)) (v := .agg T2.toArray) rfl (by kernel_rfl) (by kernel_rfl) (by kernel_rfl) (fun _ _ _ h => h) (yieldsIf_load_mid (by rfl) 60 _ rfl g (k3 * 33) rfl T2 _ (fun w' hSw => hSw.2) Try.underlying60 rfl HS2.out) hHeld ?_
      (try simp only [Act.put, List.setIfInBounds_toArray, List.set_cons_zero, List.set_cons_succ])
      refine wpAnyH_ready (rs := [13]) (by kernel_rfl) (by simp) ?_
      refine AllReadyH.cons (o := ({ dst := some 27, op := Op.call { callee := Callee.value (Operand.func 73), args := #[Operand.tmp 20, Operand.tmp 26], argTypes := #[60, 60] }, type := 60, pos := _, after := #[{ on := 6, ground := Ground.data }, { on := 12, ground := Ground.data }], guard := none } : Oper)) rfl (fun K hK => ?_) AllReadyH.nil
      go_simp
      go_at_call 73
      refine (HAP2.out wr.drew).mono ?_
      rintro e w4 ⟨rfl, hb4⟩
      have b4 : Below wr.heap.size wr w4 := ((Below.refl wr.heap.size wr).drew).trans hb4
      have hs4 : w4.rangeAt g (k2 * 33) T1 ∧ w4.rangeAt g (k3 * 33) T2 := HRG.out w4 b4
      refine hK.out _ _ hs4 (fun hHeld2 => ?_)
      clear hK K hHeld
      (try simp only [Act.put, List.setIfInBounds_toArray, List.set_cons_zero, List.set_cons_succ])
      refine wpAnyH_take (i := 14) (oi := ({ dst := some 28, op := Op.indexAddr 70 (Operand.tmp 14) (Operand.tmp 15), type := 0, pos := _, after := #[{ on := 0, ground := Ground.data }, { on := 1, ground := Ground.data }, { on := 0, ground := Ground.phase }, { on := 1, ground := Ground.phase }, { on := 2, ground := Ground.phase }, { on := 3, ground := Ground.phase }, { on := 4, ground := Ground.phase }, { on := 5, ground := Ground.phase }, { on := 6, ground := Ground.phase }, { on := 7, ground := Ground.phase }, { on := 8, ground := Ground.phase }, { on := 9, ground := Ground.phase }, { on := 10, ground := Ground.phase }, { on := 11, ground := Ground.phase }, { on := 12, ground := Ground.phase }, { on := 13, ground := Ground.phase }], guard := none } : Oper)) (v := .pointer (some ⟨w.heap.size, k * 33, none⟩)) rfl (by kernel_rfl) (by kernel_rfl) (by kernel_rfl) (fun _ _ _ h => h) (Or.inl ⟨by rfl, fun w' hSw => ?_⟩) hHeld2 ?_
      · clear hSw
        go_simp
      (try simp only [Act.put, List.setIfInBounds_toArray, List.set_cons_zero, List.set_cons_succ])
      have hsc := run_sc (P := Try.prog) w4 w.heap.size (k * 33) T (HTH.out w4 b4) HT1.out
      refine wpAnyH_ready (rs := [15]) (by kernel_rfl) (by simp) ?_
      refine AllReadyH.cons (o := ({ dst := none, op := Op.store 60 (Operand.tmp 28) (Operand.tmp 27), type := 0, pos := _, after := #[{ on := 14, ground := Ground.data }, { on := 13, ground := Ground.data }, { on := 13, ground := Ground.chain }, { on := 0, ground := Ground.phase }, { on := 1, ground := Ground.phase }, { on := 2, ground := Ground.phase }, { on := 3, ground := Ground.phase }, { on := 4, ground := Ground.phase }, { on := 5, ground := Ground.phase }, { on := 6, ground := Ground.phase }, { on := 7, ground := Ground.phase }, { on := 8, ground := Ground.phase }, { on := 9, ground := Ground.phase }, { on := 10, ground := Ground.phase }, { on := 11, ground := Ground.phase }, { on := 12, ground := Ground.phase }, { on := 13, ground := Ground.phase }], guard := none } : Oper)) rfl (fun K hK => ?_) AllReadyH.nil
      go_simp
      refine hK.out _ _ (HRS.out w4 b4) (fun hHeld3 => ?_)
      clear hK K hHeld2 hsc
      refine wpAnyH_done (by kernel_rfl) ?_ _
      have HSET4 := hid (HSET.out w4 b4)
      have HB4 : RowKit.Hid (Below w.heap.size w (w4.setCells w.heap.size (k * 33) T)) := hid (below_setCells (HB.out.trans (b4.mono HB.out.size)) (Nat.le_refl _) _ _)
      have HSZ4 : RowKit.Hid (w.heap.size < (w4.setCells w.heap.size (k * 33) T).heap.size) := hid (by rw [size_setCells]; have := b4.size; have := HSZ.out; omega)
      clear hs4 hHeld3 b4 hb4
      go_wp2_with fail
      go_roundg (y - (k + 1))
      case measure => rw [HGH.out]; omega
      case rel => exact ⟨k + 1, by omega, rfl, by go_num, by rw [List.range_succ]; exact HSET4.out, HB4.out, HSZ4.out⟩
    · have hge : ¬ (k : Int) < (y : Int) := by omega
      obtain rfl : k = y := by omega
      go_wp2_with fail
      go_ret
      exact ⟨w.heap.size, rfl, HST.out, Nat.le_refl _, HSZ.out, HB.out⟩
end Go.Proofs.Ytjimamjhakainaa.Part
