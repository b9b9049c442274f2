/- the document's Join. Conditions: both sounds lie in memory; lists of at most 2^32 numbers follow from their being right. -/
import Derived.Test.YtfidnklppbdebaaJk
import Derived.Deep.RegionHeld3
namespace Go.Proofs.Ytfidnklppbdebaa.Pcm
open Go.RowKit Gen

set_option maxHeartbeats 3200000 in
set_option maxRecDepth 100000 in
theorem rjoin_any (w : World) (a b : Dat) (ha : Snd w a) (hb : Snd w b) : Calls Try.prog 20 #[a.v, b.v] w (SndPost w (both a b) (Joined a b)) := by
  have HBO := hid fun w' (hw : Below w.heap.size w w') => rboth_any w' a b (ha.below hw) (hb.below hw)
  obtain ⟨i0, hi, hz0, hz1, hz2⟩ := info_parts Try.info3
  obtain ⟨i1, hj, hy0, hy1, hy2⟩ := info_parts Try.info42
  have HJ0 := hid (jn_new w a b)
  have HA := hid ha
  have HB := hid hb
  clear ha hb
  unfold Dat.v at HBO
  show Calls Try.prog 20 #[.agg #[.int .i64 a.f.ch, .int .i64 a.f.bits, .int .i64 a.f.rate, .slice a.a a.n a.cap], .agg #[.int .i64 b.f.ch, .int .i64 b.f.bits, .int .i64 b.f.rate, .slice b.a b.n b.cap]] w _
  go_enter Try.func20, Try.ntmps20
  go_wp2_with fail
  refine (HBO.out _ HJ0.out.below).mono ?_
  rintro e w1 ⟨rfl, hb1⟩
  have HJ1 := hid (HJ0.out.upto hb1)
  clear hb1
  by_cases hbo : both a b = 0
  · have HBZ := hid hbo
    rw [hbo]
    obtain ⟨ok1, ok2, hff⟩ := both_ok hbo
    have HO1 := hid (chk_ok ok1)
    have HO2 := hid (chk_ok ok2)
    have HNN : Hid (a.n = b.n) := hid (by have h1 := HO1.out.2.1; have h2 := HO2.out.2.1; rw [hff] at h1; omega)
    have hn8 := HO1.out.2.2.1
    have HLA : Hid (∀ i, i < a.n → a.ln i ≤ 4294967296 ∧ b.ln i ≤ 4294967296) := hid fun i hi => by
      have h1 := HO1.out.2.2.2.2.2.1 i hi
      have h2 := HO2.out.2.2.2.2.2.1 i (by have := HNN.out; omega)
      have h3 := HO1.out.2.2.2.2.1
      have h4 := HO2.out.2.2.2.2.1
      omega
    clear hbo hff ok1 ok2
    have x0 := HJ1.out.x.c0
    have x1 := HJ1.out.x.c1
    have x2 := HJ1.out.x.c2
    have hW1 : ∀ i (v : Value), (#[.int .i64 a.f.ch, .int .i64 a.f.bits, .int .i64 a.f.rate, .slice none 0 0] : Array Value)[i]? = some v → (w1.alloc (.cells #[.int .i64 a.f.ch, .int .i64 a.f.bits, .int .i64 a.f.rate, .slice none 0 0] 26)).cell? ⟨w1.heap.size, i, none⟩ = some v := fun i v hv => by
      rw [World.cell?_alloc_at _ _ _ _ rfl]; exact hv
    have HU0 : Hid (∀ L X H, Us (w1.heap.size + 1) w1.heap.size (w1.alloc (.cells #[.int .i64 a.f.ch, .int .i64 a.f.bits, .int .i64 a.f.rate, .slice none 0 0] 26)) a.f 0 L X none 0 H) := hid fun L X H =>
      ⟨hW1 0 _ rfl, hW1 1 _ rfl, hW1 2 _ rfl, hW1 3 _ rfl, fz_new _ _ _ _ _ rfl, World.ownsRow_nil _ _ _ _, fun i hi => absurd hi (Nat.not_lt_zero i), by omega, by simp⟩
    have HBN := hid (below_new w1 (.cells #[.int .i64 a.f.ch, .int .i64 a.f.bits, .int .i64 a.f.rate, .slice none 0 0] 26))
    clear hW1
    go_wp2_with fail
    clear x0 x1 x2
    go_loopg [8] a.n (fun gh i wr => ∃ (k : Nat) (lo : Option Addr) (lcap : Nat) (H : Nat → Option Addr × Nat), k ≤ a.n ∧ gh = a.n - k ∧ i = .int .i64 k ∧ Us (w1.heap.size + 1) w1.heap.size wr a.f k (fun i => a.ln i + b.ln i) (fun i => cat (a.X i) (b.X i) (a.ln i)) lo lcap H ∧ Below w1.heap.size w1 wr)
    case atStart => exact ⟨0, none, 0, fun _ => (none, 0), Nat.zero_le _, rfl, rfl, HU0.out _ _ _, HBN.out⟩
    case round =>
      obtain ⟨k, lo, lcap, H, hk, hgh, rfl, hus, hbl⟩ := hrel
      have HG := hid hgh
      have HU := hid hus
      have HB2 := hid hbl
      have HJ2 := hid (HJ1.out.upto hbl)
      have HSA := hid (HA.out.below HJ2.out.below)
      have HSB := hid (HB.out.below HJ2.out.below)
      have y3 := HJ2.out.x.c3
      clear hgh hus hbl
      by_cases hlt : k < a.n
      · have hlt2 : (k : Int) < (a.n : Int) := by omega
        have hkb : k < b.n := by have := HNN.out; omega
        have hlt3 : (k : Int) < (b.n : Int) := by omega
        obtain ⟨b1, o1, hl1⟩ := HSA.out.l k hlt
        obtain ⟨b2, o2, hl2⟩ := HSB.out.l k hkb
        have HL1 := hid hl1
        have HL2 := hid hl2
        have e1 := HSA.out.addr (by omega)
        have e2 := HSB.out.addr (by omega)
        have hR : Rd2 wr w.heap.size w1.heap.size a b k lo lcap := ⟨HJ2.out.x.c3, HJ2.out.y.c3, HSA.out.c k hlt, HSB.out.c k hkb, HU.out.hdr⟩
        have HR := hid hR
        have hla := HLA.out k hlt
        have hbs := HU.out.bs
        clear hl1 hl2
        rw [e1] at y3
        go_wp2_with fail
        have hbD : Below wr.heap.size wr wr.drew := ⟨rfl, rfl, rfl, Nat.le_refl _, fun _ _ => rfl⟩
        have hbW : Below wr.heap.size wr ((wr.drew).alloc (.cells #[] 3)) := hbD.alloc (Nat.le_refl _) _
        have HS : Hid (∀ w', Below w1.heap.size w1 w' → w'.cell? ⟨w.heap.size, 3, none⟩ = some (.slice (some ⟨a.b, a.off, none⟩) a.n a.cap) ∧ w'.cell? ⟨w.heap.size + 1, 3, none⟩ = some (.slice (some ⟨b.b, b.off, none⟩) b.n b.cap) ∧ w'.cell? ⟨a.b, a.off + k, none⟩ = some (.slice (a.la k) (a.ln k) (a.lc k)) ∧ w'.cell? ⟨b.b, b.off + k, none⟩ = some (.slice (b.la k) (b.ln k) (b.lc k))) := hid fun w' hw' => by
          have hj := HJ1.out.upto hw'
          have h3 := hj.x.c3
          have h4 := hj.y.c3
          rw [e1] at h3
          rw [e2] at h4
          exact ⟨h3, h4, (HA.out.below hj.below).c k hlt, (HB.out.below hj.below).c k hkb⟩
        have HBD := hid (HB2.out.trans (hbD.mono HB2.out.size))
        have HBW := hid (HB2.out.trans (hbW.mono HB2.out.size))
        have s5 : wr.drew.cell? ⟨w1.heap.size, 3, none⟩ = some (.slice lo k lcap) := (HR.out.below hbD).p3
        have t5 : (wr.drew.alloc (.cells #[] 3)).cell? ⟨w1.heap.size, 3, none⟩ = some (.slice lo k lcap) := (HR.out.below hbW).p3
        have hown1 : (wr.drew.alloc (.cells #[] 3)).ownsRow wr.heap.size 3 1 (.slice (some ⟨wr.heap.size, 0, none⟩) 0 0) 0 [] := World.ownsRow_made wr.drew #[] 0 (Nat.le_refl _) (Nat.zero_le _) rfl
        have HI1 := hid (HL1.out.below hbW HL1.out.lt)
        have S1 := HS.out _ HBD.out
        have S2 := HS.out _ HBW.out
        clear y3 hR
        have HTT : Hid (∀ l, Till (fun w' => w'.cell? ⟨w.heap.size, 3, none⟩ = some (.slice (some ⟨a.b, a.off, none⟩) a.n a.cap) ∧ w'.cell? ⟨w.heap.size + 1, 3, none⟩ = some (.slice (some ⟨b.b, b.off, none⟩) b.n b.cap) ∧ w'.cell? ⟨a.b, a.off + k, none⟩ = some (.slice (a.la k) (a.ln k) (a.lc k)) ∧ w'.cell? ⟨b.b, b.off + k, none⟩ = some (.slice (b.la k) (b.ln k) (b.lc k))) (fun w' => w'.cell? ⟨w1.heap.size, 3, none⟩ = some (.slice lo k lcap)) 16 l wr.drew) := hid fun l => ⟨S1, fun _ => s5⟩
        clear S1 S2 e1 e2
        refine region_T (T := Till (fun w' => w'.cell? ⟨w.heap.size, 3, none⟩ = some (.slice (some ⟨a.b, a.off, none⟩) a.n a.cap) ∧ w'.cell? ⟨w.heap.size + 1, 3, none⟩ = some (.slice (some ⟨b.b, b.off, none⟩) b.n b.cap) ∧ w'.cell? ⟨a.b, a.off + k, none⟩ = some (.slice (a.la k) (a.ln k) (a.lc k)) ∧ w'.cell? ⟨b.b, b.off + k, none⟩ = some (.slice (b.la k) (b.ln k) (b.lc k))) (fun w' => w'.cell? ⟨w1.heap.size, 3, none⟩ = some (.slice lo k lcap)) 16) (by kernel_rfl) ?_
        refine take_1 (i := 0) (oi := ({ dst := some 26, op := Op.fieldAddr 26 (Operand.tmp 7) 1, type := 0, pos := _, after := #[], guard := none } : Oper)) (v := .pointer (some ⟨w1.heap.size, 3, none⟩)) rfl (by kernel_rfl) (by kernel_rfl) (by kernel_rfl) (by decide) (fun _ _ _ h => h) (HTT.out _) (.inl ⟨by rfl, fun w' hSw => ?_⟩) ?_
        · (try dsimp only at hSw)
          go_simp
        (try simp only [Act.put, List.setIfInBounds_toArray, List.set_cons_zero, List.set_cons_succ])
        refine take_2 (i := 1) (oi := ({ dst := some 27, op := Op.load 24 (Operand.tmp 26), type := 24, pos := _, after := #[{ on := 0, ground := Ground.data }], guard := none } : Oper)) (v := .slice lo k lcap) rfl (by kernel_rfl) (by kernel_rfl) (by kernel_rfl) (by decide) (by kernel_rfl) (by kernel_rfl) (fun _ _ _ h => h) (HTT.out _) (.inl ⟨by rfl, fun w' hSw => ?_⟩) ?_
        · (try dsimp only at hSw)
          go_simp
        (try simp only [Act.put, List.setIfInBounds_toArray, List.set_cons_zero, List.set_cons_succ])
        refine take_1 (i := 3) (oi := ({ dst := some 29, op := Op.fieldAddr 26 (Operand.tmp 2) 1, type := 0, pos := _, after := #[], guard := none } : Oper)) (v := .pointer (some ⟨w.heap.size, 3, none⟩)) rfl (by kernel_rfl) (by kernel_rfl) (by kernel_rfl) (by decide) (fun _ _ _ h => h) (HTT.out _) (.inl ⟨by rfl, fun w' hSw => ?_⟩) ?_
        · (try dsimp only at hSw)
          go_simp
        (try simp only [Act.put, List.setIfInBounds_toArray, List.set_cons_zero, List.set_cons_succ])
        refine take_1 (i := 4) (oi := ({ dst := some 30, op := Op.load 24 (Operand.tmp 29), type := 24, pos := _, after := #[{ on := 3, ground := Ground.data }], guard := none } : Oper)) (v := .slice (some ⟨a.b, a.off, none⟩) a.n a.cap) rfl (by kernel_rfl) (by kernel_rfl) (by kernel_rfl) (by decide) (fun _ _ _ h => h) (HTT.out _) (.inl ⟨by rfl, fun w' hSw => ?_⟩) ?_
        · (try dsimp only at hSw)
          go_simp
        (try simp only [Act.put, List.setIfInBounds_toArray, List.set_cons_zero, List.set_cons_succ])
        refine take_1 (i := 5) (oi := ({ dst := some 31, op := Op.move (Operand.tmp 8), type := 3, pos := _, after := #[], guard := none } : Oper)) (v := .int .i64 (k : Int)) rfl (by kernel_rfl) (by kernel_rfl) (by kernel_rfl) (by decide) (fun _ _ _ h => h) (HTT.out _) (.inl ⟨by rfl, fun w' hSw => ?_⟩) ?_
        · (try dsimp only at hSw)
          go_simp
        (try simp only [Act.put, List.setIfInBounds_toArray, List.set_cons_zero, List.set_cons_succ])
        refine take_1 (i := 6) (oi := ({ dst := some 32, op := Op.indexAddr 24 (Operand.tmp 30) (Operand.tmp 31), type := 0, pos := _, after := #[{ on := 4, ground := Ground.data }, { on := 5, ground := Ground.data }], guard := none } : Oper)) (v := .pointer (some ⟨a.b, a.off + k, none⟩)) rfl (by kernel_rfl) (by kernel_rfl) (by kernel_rfl) (by decide) (fun _ _ _ h => h) (HTT.out _) (.inl ⟨by rfl, fun w' hSw => ?_⟩) ?_
        · (try dsimp only at hSw)
          go_simp
        (try simp only [Act.put, List.setIfInBounds_toArray, List.set_cons_zero, List.set_cons_succ])
        refine take_1 (i := 7) (oi := ({ dst := some 33, op := Op.load 42 (Operand.tmp 32), type := 42, pos := _, after := #[{ on := 6, ground := Ground.data }], guard := none } : Oper)) (v := .slice (a.la k) (a.ln k) (a.lc k)) rfl (by kernel_rfl) (by kernel_rfl) (by kernel_rfl) (by decide) (fun _ _ _ h => h) (HTT.out _) (.inl ⟨by rfl, fun w' hSw => ?_⟩) ?_
        · (try dsimp only at hSw)
          go_simp
        (try simp only [Act.put, List.setIfInBounds_toArray, List.set_cons_zero, List.set_cons_succ])
        refine take_1 (i := 9) (oi := ({ dst := some 35, op := Op.fieldAddr 26 (Operand.tmp 3) 1, type := 0, pos := _, after := #[], guard := none } : Oper)) (v := .pointer (some ⟨w.heap.size + 1, 3, none⟩)) rfl (by kernel_rfl) (by kernel_rfl) (by kernel_rfl) (by decide) (fun _ _ _ h => h) (HTT.out _) (.inl ⟨by rfl, fun w' hSw => ?_⟩) ?_
        · (try dsimp only at hSw)
          go_simp
        (try simp only [Act.put, List.setIfInBounds_toArray, List.set_cons_zero, List.set_cons_succ])
        refine take_1 (i := 10) (oi := ({ dst := some 36, op := Op.load 24 (Operand.tmp 35), type := 24, pos := _, after := #[{ on := 9, ground := Ground.data }], guard := none } : Oper)) (v := .slice (some ⟨b.b, b.off, none⟩) b.n b.cap) rfl (by kernel_rfl) (by kernel_rfl) (by kernel_rfl) (by decide) (fun _ _ _ h => h) (HTT.out _) (.inl ⟨by rfl, fun w' hSw => ?_⟩) ?_
        · (try dsimp only at hSw)
          go_simp
        (try simp only [Act.put, List.setIfInBounds_toArray, List.set_cons_zero, List.set_cons_succ])
        refine take_1 (i := 11) (oi := ({ dst := some 37, op := Op.move (Operand.tmp 8), type := 3, pos := _, after := #[], guard := none } : Oper)) (v := .int .i64 (k : Int)) rfl (by kernel_rfl) (by kernel_rfl) (by kernel_rfl) (by decide) (fun _ _ _ h => h) (HTT.out _) (.inl ⟨by rfl, fun w' hSw => ?_⟩) ?_
        · (try dsimp only at hSw)
          go_simp
        (try simp only [Act.put, List.setIfInBounds_toArray, List.set_cons_zero, List.set_cons_succ])
        refine take_1 (i := 12) (oi := ({ dst := some 38, op := Op.indexAddr 24 (Operand.tmp 36) (Operand.tmp 37), type := 0, pos := _, after := #[{ on := 10, ground := Ground.data }, { on := 11, ground := Ground.data }], guard := none } : Oper)) (v := .pointer (some ⟨b.b, b.off + k, none⟩)) rfl (by kernel_rfl) (by kernel_rfl) (by kernel_rfl) (by decide) (fun _ _ _ h => h) (HTT.out _) (.inl ⟨by rfl, fun w' hSw => ?_⟩) ?_
        · (try dsimp only at hSw)
          go_simp
        (try simp only [Act.put, List.setIfInBounds_toArray, List.set_cons_zero, List.set_cons_succ])
        refine take_1 (i := 13) (oi := ({ dst := some 39, op := Op.load 42 (Operand.tmp 38), type := 42, pos := _, after := #[{ on := 12, ground := Ground.data }], guard := none } : Oper)) (v := .slice (b.la k) (b.ln k) (b.lc k)) rfl (by kernel_rfl) (by kernel_rfl) (by kernel_rfl) (by decide) (fun _ _ _ h => h) (HTT.out _) (.inl ⟨by rfl, fun w' hSw => ?_⟩) ?_
        · (try dsimp only at hSw)
          go_simp
        (try simp only [Act.put, List.setIfInBounds_toArray, List.set_cons_zero, List.set_cons_succ])
        clear s5
        refine anyT_one (i := 2) (o := ({ dst := some 28, op := Op.buildSlice 42 0 #[], type := 42, pos := _, after := #[], guard := none } : Oper)) (by kernel_rfl) rfl (fun K HK => ?_)
        go_simp
        refine HK.out _ _ ⟨HS.out _ HBW.out, fun _ => t5⟩ ?_
        clear HK K
        (try simp only [Act.put, List.setIfInBounds_toArray, List.set_cons_zero, List.set_cons_succ])
        refine anyT_one (i := 8) (o := ({ dst := some 34, op := Op.call { callee := Callee.builtin Builtin.append, args := #[Operand.tmp 28, Operand.tmp 33], argTypes := #[42, 42] }, type := 42, pos := _, after := #[{ on := 2, ground := Ground.data }, { on := 7, ground := Ground.data }], guard := none } : Oper)) (by kernel_rfl) rfl (fun K HK => ?_)
        refine step_append_src (by rfl) (.tmp 28) (.tmp 33) 42 (by rfl) wr.heap.size 3 i0 (.int .i64 0) 8 Try.underlying42 hi hz0 hz1 hz2 rfl (some ⟨wr.heap.size, 0, none⟩) 0 0 [] (by rfl) hown1 (a.la k) (a.ln k) (a.lc k) (vl (a.X k) (a.ln k)) (by rfl) (vl_len _ _) (isb_none HI1.out) (vl_cells HI1.out) (vl_one _ _) (by unfold maxLen; omega) (by omega) hbW.size ?_
        intro ao2 cap2 w2 hown2 hg2
        (try simp only [Nat.zero_add, List.nil_append] at hown2)
        (try rw [Nat.zero_add])
        have hb2 : Below wr.heap.size wr w2 := hbW.grown hg2 hbW.size (fun g hg => by simp [blk] at hg; omega)
        have S3 := HS.out _ (HB2.out.trans (hb2.mono HB2.out.size))
        have p5 := (HR.out.below hb2).p3
        have HI2 := hid (HL2.out.below hb2 HL2.out.lt)
        refine HK.out _ _ ⟨S3, fun _ => p5⟩ ?_
        clear HK K S3 p5
        (try simp only [Act.put, List.setIfInBounds_toArray, List.set_cons_zero, List.set_cons_succ])
        refine anyT_one (i := 14) (o := ({ dst := some 40, op := Op.call { callee := Callee.builtin Builtin.append, args := #[Operand.tmp 34, Operand.tmp 39], argTypes := #[42, 42] }, type := 42, pos := _, after := #[{ on := 8, ground := Ground.data }, { on := 13, ground := Ground.data }, { on := 8, ground := Ground.chain }], guard := none } : Oper)) (by kernel_rfl) rfl (fun K HK => ?_)
        refine step_append_src (by rfl) (.tmp 34) (.tmp 39) 42 (by rfl) wr.heap.size 3 i0 (.int .i64 0) 8 Try.underlying42 hi hz0 hz1 hz2 rfl ao2 (a.ln k) cap2 (vl (a.X k) (a.ln k)) (by rfl) hown2 (b.la k) (b.ln k) (b.lc k) (vl (b.X k) (b.ln k)) (by rfl) (vl_len _ _) (isb_none HI2.out) (vl_cells HI2.out) (vl_one _ _) (by unfold maxLen; omega) (by omega) hb2.size ?_
        intro ao3 cap3 w3 hown3 hg3
        have hb3 : Below wr.heap.size wr w3 := hb2.grown hg3 hb2.size (fun g hg => (World.ownsRow.lt hown2 g (by rw [ownBlock_slice]; exact hg)).1)
        have S4 := HS.out _ (HB2.out.trans (hb3.mono HB2.out.size))
        have q5 := (HR.out.below hb3).p3
        have hb4 : Below wr.heap.size wr (w3.alloc (.cells #[.slice ao3 (a.ln k + b.ln k) cap3] 42)) := hb3.alloc hb3.size _
        have S5 := HS.out _ (HB2.out.trans (hb4.mono HB2.out.size))
        have r5 := (HR.out.below hb4).p3
        have hown4 := (HU.out.fr hb4).own
        have hc4 : (w3.alloc (.cells #[.slice ao3 (a.ln k + b.ln k) cap3] 42)).cell? ⟨w3.heap.size, 0, none⟩ = some (.slice ao3 (a.ln k + b.ln k) cap3) := World.cell?_alloc_at _ _ _ _ rfl
        have hn4 : NewIs wr.heap.size (w3.alloc (.cells #[.slice ao3 (a.ln k + b.ln k) cap3] 42)) ao3 (a.ln k + b.ln k) (cat (a.X k) (b.X k) (a.ln k)) := (own_new hown3 (fun j hj => cat_two _ _ _ _ j hj) (by omega)).below (below_new _ _)
        have hsz4 : w1.heap.size + 1 ≤ (w3.alloc (.cells #[.slice ao3 (a.ln k + b.ln k) cap3] 42)).heap.size := Nat.le_trans hbs hb4.size
        refine HK.out _ _ ⟨S4, fun _ => q5⟩ ?_
        clear HK K S4 q5
        (try simp only [Act.put, List.setIfInBounds_toArray, List.set_cons_zero, List.set_cons_succ])
        refine anyT_one (i := 15) (o := ({ dst := some 41, op := Op.buildSlice 24 1 #[(0, Operand.tmp 40)], type := 24, pos := _, after := #[{ on := 14, ground := Ground.data }], guard := none } : Oper)) (by kernel_rfl) rfl (fun K HK => ?_)
        go_simp
        refine HK.out _ _ ⟨S5, fun _ => r5⟩ ?_
        clear HK K S5 r5
        (try simp only [Act.put, List.setIfInBounds_toArray, List.set_cons_zero, List.set_cons_succ])
        refine anyT_one (i := 16) (o := ({ dst := some 42, op := Op.call { callee := Callee.builtin Builtin.append, args := #[Operand.tmp 27, Operand.tmp 41], argTypes := #[24, 24] }, type := 24, pos := _, after := #[{ on := 1, ground := Ground.data }, { on := 15, ground := Ground.data }, { on := 14, ground := Ground.chain }], guard := none } : Oper)) (by kernel_rfl) rfl (fun K HK => ?_)
        refine step_append_one (by rfl) (.tmp 27) (.tmp 41) 24 (by rfl) (w1.heap.size + 1) 42 i1 (.slice none 0 0) 24 Try.underlying24 hj hy0 hy1 hy2 rfl lo k lcap (hx H (fun i => a.ln i + b.ln i) k) (by rfl) hown4 ⟨w3.heap.size, 0, none⟩ 1 (.slice ao3 (a.ln k + b.ln k) cap3) (by rfl) hc4 rfl (by unfold maxLen; omega) (by omega) hsz4 ?_
        intro gg cap' w5 hown5 hkept
        obtain ⟨k4, k5, hus5⟩ := HU.out.step hb4 hn4 hown5 hkept
        have hb5 : Below w1.heap.size w1 w5 := (HB2.out.trans (hb4.mono HB2.out.size)).grown hkept.grown (by have := hb4.size; have := HB2.out.size; omega) (fun g hg => by have := (World.ownsRow.lt hown4 g (by rw [ownBlock_slice]; exact hg)).1; omega)
        have hbf : Below w1.heap.size w1 (w5.setCell ⟨w1.heap.size, 3, none⟩ (.slice (some ⟨gg, 0, none⟩) (k + 1) cap')) := hb5.setCell (p := ⟨w1.heap.size, 3, none⟩) (Nat.le_refl _) _
        have S6 := HS.out _ hb5
        have S7 := HS.out _ hbf
        refine HK.out _ _ ⟨S6, fun h => absurd (h.symm.trans (by kernel_rfl : _ = true)) (by decide)⟩ ?_
        have HT6 : Hid (∀ l : Array Bool, l.getD 16 true = true → Till (fun w' => w'.cell? ⟨w.heap.size, 3, none⟩ = some (.slice (some ⟨a.b, a.off, none⟩) a.n a.cap) ∧ w'.cell? ⟨w.heap.size + 1, 3, none⟩ = some (.slice (some ⟨b.b, b.off, none⟩) b.n b.cap) ∧ w'.cell? ⟨a.b, a.off + k, none⟩ = some (.slice (a.la k) (a.ln k) (a.lc k)) ∧ w'.cell? ⟨b.b, b.off + k, none⟩ = some (.slice (b.la k) (b.ln k) (b.lc k))) (fun w' => w'.cell? ⟨w1.heap.size, 3, none⟩ = some (.slice lo k lcap)) 16 l w5) := hid fun l hl => ⟨S6, fun h => absurd (hl.symm.trans h) (by decide)⟩
        clear HK K S6
        (try simp only [Act.put, List.setIfInBounds_toArray, List.set_cons_zero, List.set_cons_succ])
        refine take_1 (i := 17) (oi := ({ dst := some 43, op := Op.fieldAddr 26 (Operand.tmp 7) 1, type := 0, pos := _, after := #[{ on := 0, ground := Ground.phase }, { on := 1, ground := Ground.phase }, { on := 2, ground := Ground.phase }, { on := 3, ground := Ground.phase }, { on := 4, ground := Ground.phase }, { on := 5, ground := Ground.phase }, { on := 6, ground := Ground.phase }, { on := 7, ground := Ground.phase }, { on := 8, ground := Ground.phase }, { on := 9, ground := Ground.phase }, { on := 10, ground := Ground.phase }, { on := 11, ground := Ground.phase }, { on := 12, ground := Ground.phase }, { on := 13, ground := Ground.phase }, { on := 14, ground := Ground.phase }, { on := 15, ground := Ground.phase }, { on := 16, ground := Ground.phase }], guard := none } : Oper)) (v := .pointer (some ⟨w1.heap.size, 3, none⟩)) rfl (by kernel_rfl) (by kernel_rfl) (by kernel_rfl) (by decide) (fun _ _ _ h => h) (HT6.out _ (by kernel_rfl)) (.inl ⟨by rfl, fun w' hSw => ?_⟩) ?_
        · (try dsimp only at hSw)
          go_simp
        (try simp only [Act.put, List.setIfInBounds_toArray, List.set_cons_zero, List.set_cons_succ])
        refine anyT_one (i := 18) (o := ({ dst := none, op := Op.store 24 (Operand.tmp 43) (Operand.tmp 42), type := 0, pos := _, after := #[{ on := 17, ground := Ground.data }, { on := 16, ground := Ground.data }, { on := 16, ground := Ground.chain }, { on := 0, ground := Ground.phase }, { on := 1, ground := Ground.phase }, { on := 2, ground := Ground.phase }, { on := 3, ground := Ground.phase }, { on := 4, ground := Ground.phase }, { on := 5, ground := Ground.phase }, { on := 6, ground := Ground.phase }, { on := 7, ground := Ground.phase }, { on := 8, ground := Ground.phase }, { on := 9, ground := Ground.phase }, { on := 10, ground := Ground.phase }, { on := 11, ground := Ground.phase }, { on := 12, ground := Ground.phase }, { on := 13, ground := Ground.phase }, { on := 14, ground := Ground.phase }, { on := 15, ground := Ground.phase }, { on := 16, ground := Ground.phase }], guard := none } : Oper)) (by kernel_rfl) rfl (fun K HK => ?_)
        go_simp
        refine HK.out _ _ ⟨S7, fun h => absurd (show true = false from h) (by decide)⟩ ?_
        clear HK K S7
        refine anyT_done (by kernel_rfl) ?_ _
        have HBF := hid hbf
        have HU5 := hid hus5
        clear hbf hus5 k4 k5 hown5 hkept hn4 hc4 hown4 hsz4 hb4 hb3 hown3 hg3 hb2 hown2 hg2 t5 hown1 hbW hbD hb5
        go_wp2_with fail
        go_roundg (a.n - (k + 1))
        case measure => rw [HG.out]; omega
        case rel => exact ⟨k + 1, some ⟨gg, 0, none⟩, cap', _, by omega, rfl, by go_num, HU5.out, HBF.out⟩
      · have hge : ¬ (k : Int) < (a.n : Int) := by omega
        obtain rfl : a.n = k := by omega
        obtain ⟨d, hdv, hdf, hdn, hdl, hdx, hds, hdw⟩ := HU.out.snd (by omega)
        have x0 := HU.out.c0
        have x1 := HU.out.c1
        have x2 := HU.out.c2
        have x3 := HU.out.hdr
        have r0 := HJ2.out.r 0 _ rfl
        have r1 := HJ2.out.r 1 _ rfl
        have r2 := HJ2.out.r 2 _ rfl
        have r3 := HJ2.out.r 3 _ rfl
        have z0 := HJ2.out.z 0
        have z1 := HJ2.out.z 1
        have z2 := HJ2.out.z 2
        have z3 := HJ2.out.z 3
        have hfs := four_set wr (w.heap.size + 1 + 1) (.int .i64 a.f.ch) (.int .i64 a.f.bits) (.int .i64 a.f.rate) (.slice lo a.n lcap) HJ2.out.four
        obtain ⟨y0, y1, y2, y3', _⟩ := hfs
        have hlt1 := HJ1.out.lt
        have HF : Hid (SndPost w (both a b) (Joined a b) (.returned (.tuple #[.agg #[.int .i64 a.f.ch, .int .i64 a.f.bits, .int .i64 a.f.rate, .slice lo a.n lcap], .int .i64 0])) ((((wr.setCell ⟨w.heap.size + 1 + 1, 0, none⟩ (.int .i64 a.f.ch)).setCell ⟨w.heap.size + 1 + 1, 1, none⟩ (.int .i64 a.f.bits)).setCell ⟨w.heap.size + 1 + 1, 2, none⟩ (.int .i64 a.f.rate)).setCell ⟨w.heap.size + 1 + 1, 3, none⟩ (.slice lo a.n lcap))) :=
          hid ⟨d, by rw [hdv, HBZ.out], hds.set4 hdw (by omega) HJ2.out.four _ _ _ _, set4_below HJ2.out.below (by omega) _ _ _ _, fun _ => ⟨hdf, hdn, fun i _ => ⟨by rw [hdl], by rw [hdx]⟩⟩, fun h => absurd HBZ.out h⟩
        clear hdv hdf hdn hdl hdx hds hdw hlt1
        go_wp2_with fail
        refine bodyPost_ret (v := .tuple #[.agg #[.int .i64 a.f.ch, .int .i64 a.f.bits, .int .i64 a.f.rate, .slice lo a.n lcap], .int .i64 0]) ?_ rfl ?_
        · rw [results_cell_tmp (p := 4) (u := 5) (ty := 26) (by kernel_rfl)]
          go_simp
        · exact HF.out
  · have e0 : (both a b != 0) = true := bne_iff_ne.2 hbo
    have HBN := hid hbo
    clear hbo
    have r0 := HJ1.out.r 0 _ rfl
    have r1 := HJ1.out.r 1 _ rfl
    have r2 := HJ1.out.r 2 _ rfl
    have r3 := HJ1.out.r 3 _ rfl
    have z0 := HJ1.out.z 0
    have z1 := HJ1.out.z 1
    have z2 := HJ1.out.z 2
    have z3 := HJ1.out.z 3
    have hfs := four_set w1 (w.heap.size + 1 + 1) (.int .i64 0) (.int .i64 0) (.int .i64 0) (.slice none 0 0) HJ1.out.four
    obtain ⟨y0, y1, y2, y3, _⟩ := hfs
    go_wp2_with fail
    refine bodyPost_ret (v := .tuple #[.agg #[.int .i64 0, .int .i64 0, .int .i64 0, .slice none 0 0], .int .i64 (both a b)]) ?_ rfl ?_
    · rw [results_cell_tmp (p := 4) (u := 5) (ty := 26) (by kernel_rfl)]
      go_simp
    · exact ⟨Dat.nil, rfl, nil_snd _, set4_below HJ1.out.below (by omega) _ _ _ _, fun h => absurd h HBN.out, fun _ => rfl⟩
end Go.Proofs.Ytfidnklppbdebaa.Pcm
