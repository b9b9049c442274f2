/- the document's Cut. No condition but that the sound's lists lie in their room. -/
import Derived.Test.YtfidnklppbdebaaKc
import Derived.Test.YtfidnklppbdebaaJk
import Derived.Test.YtfidnklppbdebaaJf
namespace Go.Proofs.Ytfidnklppbdebaa.Pcm
open Go.RowKit Gen

/-- What stands while the document's Cut goes on. -/
structure Dn (w wr : World) (d : Dat) : Prop where
  x : Bx wr w.heap.size d
  r : ∀ i v, (#[.int .i64 0, .int .i64 0, .int .i64 0, .slice none 0 0] : Array Value)[i]? = some v → wr.cell? ⟨w.heap.size + 1, i, none⟩ = some v
  z : ∀ i, wr.frozen? ⟨w.heap.size + 1, i, none⟩ = false
  below : Below w.heap.size w wr
  lt : w.heap.size + 2 ≤ wr.heap.size
theorem Dn.upto {w w1 w2 : World} {d : Dat} (h : Dn w w1 d) (hb : Below w1.heap.size w1 w2) : Dn w w2 d := by
  have hlt := h.lt
  exact ⟨h.x.below hb, fun i v hv => (hb.cell (p := ⟨w.heap.size + 1, i, none⟩) (show w.heap.size + 1 < _ by omega)).trans (h.r i v hv),
    fun i => (hb.frozen (p := ⟨w.heap.size + 1, i, none⟩) (show w.heap.size + 1 < _ by omega)).trans (h.z i), h.below.trans (hb.mono h.below.size), Nat.le_trans hlt hb.size⟩
theorem dn_new (w : World) (d : Dat) : Dn w ((w.alloc (.cells #[.int .i64 d.f.ch, .int .i64 d.f.bits, .int .i64 d.f.rate, .slice d.a d.n d.cap] 26)).alloc (.cells #[.int .i64 0, .int .i64 0, .int .i64 0, .slice none 0 0] 26)) d := by
  have hx := bx_new w d
  have hb := below_new w (.cells #[.int .i64 d.f.ch, .int .i64 d.f.bits, .int .i64 d.f.rate, .slice d.a d.n d.cap] 26)
  generalize hW : w.alloc (.cells #[.int .i64 d.f.ch, .int .i64 d.f.bits, .int .i64 d.f.rate, .slice d.a d.n d.cap] 26) = W at *
  have hz : W.heap.size = w.heap.size + 1 := by rw [← hW]; simp
  have hb3 := below_new W (.cells #[.int .i64 0, .int .i64 0, .int .i64 0, .slice none 0 0] 26)
  refine ⟨hx.below hb3, fun i v hv => ?_, fun i => fz_new _ _ _ _ _ (by simp [hz]), hb.trans (hb3.mono (by omega)), by simp [hz]⟩
  rw [World.cell?_alloc_at _ _ _ _ (by simp [hz])]; exact hv
theorem Dn.four {w wr : World} {d : Dat} (h : Dn w wr d) : ∀ i, i < 4 → ∃ v, wr.cell? ⟨w.heap.size + 1, i, none⟩ = some v := fun i hi => by
  match i, hi with
  | 0, _ => exact ⟨_, h.r 0 _ rfl⟩
  | 1, _ => exact ⟨_, h.r 1 _ rfl⟩
  | 2, _ => exact ⟨_, h.r 2 _ rfl⟩
  | 3, _ => exact ⟨_, h.r 3 _ rfl⟩

set_option maxHeartbeats 3200000 in
set_option maxRecDepth 100000 in
theorem rcut_any (w : World) (d : Dat) (hd : Snd w d) (hcp : ∀ k, k < d.n → d.ln k ≤ d.lc k) (i j : Int) : Calls Try.prog 17 #[d.v, .int .i64 i, .int .i64 j] w (SndPost w (ccode d i j) (CutOk d i j)) := by
  have HCH := hid fun w' (hw : Below w.heap.size w w') => rcheck_any w' d (hd.below hw)
  have HCA := hid fun w' (hw : Below w.heap.size w w') => rcount_any w' d (hd.below hw)
  obtain ⟨i0, hi, hz0, hz1, hz2⟩ := info_parts Try.info3
  obtain ⟨i1, hj, hy0, hy1, hy2⟩ := info_parts Try.info42
  have HJ0 := hid (dn_new w d)
  have HA := hid hd
  have HCP := hid hcp
  clear hd hcp
  unfold Dat.v at HCH HCA
  show Calls Try.prog 17 #[.agg #[.int .i64 d.f.ch, .int .i64 d.f.bits, .int .i64 d.f.rate, .slice d.a d.n d.cap], .int .i64 i, .int .i64 j] w _
  go_enter Try.func17, Try.ntmps17
  go_wp2_with fail
  refine (HCH.out _ HJ0.out.below).mono ?_
  rintro e w1 ⟨rfl, hb1⟩
  have HJ1 := hid (HJ0.out.upto hb1)
  clear hb1
  by_cases hck : d.chk = 0
  · have e0 : (d.chk != 0) = false := by rw [hck]; rfl
    have HO := hid (chk_ok hck)
    have HCZ := hid hck
    rw [hck]
    clear hck e0
    have hcl := HO.out.2.2.2.2.1
    by_cases hA : i < 0
    · skip
      have HE := hid (show ccode d i j = 1 from ccode_2 HCZ.out (.inl hA))
      have r0 := HJ1.out.r 0 _ rfl
      have r1 := HJ1.out.r 1 _ rfl
      have r2 := HJ1.out.r 2 _ rfl
      have r3 := HJ1.out.r 3 _ rfl
      have z0 := HJ1.out.z 0
      have z1 := HJ1.out.z 1
      have z2 := HJ1.out.z 2
      have z3 := HJ1.out.z 3
      have hfs := four_set w1 (w.heap.size + 1) (.int .i64 0) (.int .i64 0) (.int .i64 0) (.slice none 0 0) HJ1.out.four
      obtain ⟨y0, y1, y2, y3, _⟩ := hfs
      go_wp2_with fail
      refine bodyPost_ret (v := .tuple #[.agg #[.int .i64 0, .int .i64 0, .int .i64 0, .slice none 0 0], .int .i64 1]) ?_ rfl ?_
      · rw [results_cell_tmp (p := 6) (u := 7) (ty := 26) (by kernel_rfl)]
        go_simp
      · exact ⟨Dat.nil, by rw [HE.out]; rfl, nil_snd _, set4_below HJ1.out.below (by omega) _ _ _ _, fun h => absurd h (by rw [HE.out]; decide), fun _ => rfl⟩
    · by_cases hB : j < i
      · skip
        have HE := hid (show ccode d i j = 1 from ccode_2 HCZ.out (.inr (.inl hB)))
        have r0 := HJ1.out.r 0 _ rfl
        have r1 := HJ1.out.r 1 _ rfl
        have r2 := HJ1.out.r 2 _ rfl
        have r3 := HJ1.out.r 3 _ rfl
        have z0 := HJ1.out.z 0
        have z1 := HJ1.out.z 1
        have z2 := HJ1.out.z 2
        have z3 := HJ1.out.z 3
        have hfs := four_set w1 (w.heap.size + 1) (.int .i64 0) (.int .i64 0) (.int .i64 0) (.slice none 0 0) HJ1.out.four
        obtain ⟨y0, y1, y2, y3, _⟩ := hfs
        go_wp2_with fail
        refine bodyPost_ret (v := .tuple #[.agg #[.int .i64 0, .int .i64 0, .int .i64 0, .slice none 0 0], .int .i64 1]) ?_ rfl ?_
        · rw [results_cell_tmp (p := 6) (u := 7) (ty := 26) (by kernel_rfl)]
          go_simp
        · exact ⟨Dat.nil, by rw [HE.out]; rfl, nil_snd _, set4_below HJ1.out.below (by omega) _ _ _ _, fun h => absurd h (by rw [HE.out]; decide), fun _ => rfl⟩
      · by_cases hC : (d.cnt : Int) < j
        · skip
          obtain ⟨x0, x1, x2, x3⟩ := HJ1.out.x
          go_wp2_with fail
          refine (HCA.out _ HJ1.out.below).mono ?_
          rintro e w2 ⟨rfl, hb2⟩
          have HJ2 := hid (HJ1.out.upto hb2)
          clear hb2 x0 x1 x2 x3
          have HE := hid (show ccode d i j = 1 from ccode_2 HCZ.out (.inr (.inr hC)))
          have r0 := HJ2.out.r 0 _ rfl
          have r1 := HJ2.out.r 1 _ rfl
          have r2 := HJ2.out.r 2 _ rfl
          have r3 := HJ2.out.r 3 _ rfl
          have z0 := HJ2.out.z 0
          have z1 := HJ2.out.z 1
          have z2 := HJ2.out.z 2
          have z3 := HJ2.out.z 3
          have hfs := four_set w2 (w.heap.size + 1) (.int .i64 0) (.int .i64 0) (.int .i64 0) (.slice none 0 0) HJ2.out.four
          obtain ⟨y0, y1, y2, y3, _⟩ := hfs
          go_wp2_with fail
          refine bodyPost_ret (v := .tuple #[.agg #[.int .i64 0, .int .i64 0, .int .i64 0, .slice none 0 0], .int .i64 1]) ?_ rfl ?_
          · rw [results_cell_tmp (p := 6) (u := 7) (ty := 26) (by kernel_rfl)]
            go_simp
          · exact ⟨Dat.nil, by rw [HE.out]; rfl, nil_snd _, set4_below HJ2.out.below (by omega) _ _ _ _, fun h => absurd h (by rw [HE.out]; decide), fun _ => rfl⟩
        · skip
          obtain ⟨x0, x1, x2, x3⟩ := HJ1.out.x
          go_wp2_with fail
          refine (HCA.out _ HJ1.out.below).mono ?_
          rintro e w2 ⟨rfl, hb2⟩
          have HJ2 := hid (HJ1.out.upto hb2)
          clear hb2 x0 x1 x2 x3
          have HE := hid (ccode_3 HCZ.out (show ¬ (i < 0 ∨ j < i ∨ (d.cnt : Int) < j) by omega))
          obtain ⟨f, rfl⟩ := Int.eq_ofNat_of_zero_le (show 0 ≤ i by omega)
          obtain ⟨t, rfl⟩ := Int.eq_ofNat_of_zero_le (show 0 ≤ j by omega)
          have HFT : Hid (f ≤ t ∧ t ≤ d.cnt ∧ t ≤ 4294967296) := hid ⟨by omega, by omega, by omega⟩
          have hn8 := HO.out.2.2.1
          have x0 := HJ2.out.x.c0
          have x1 := HJ2.out.x.c1
          have x2 := HJ2.out.x.c2
          have hW1 : ∀ i (v : Value), (#[.int .i64 d.f.ch, .int .i64 d.f.bits, .int .i64 d.f.rate, .slice none 0 0] : Array Value)[i]? = some v → (w2.alloc (.cells #[.int .i64 d.f.ch, .int .i64 d.f.bits, .int .i64 d.f.rate, .slice none 0 0] 26)).cell? ⟨w2.heap.size, i, none⟩ = some v := fun i v hv => by
            rw [World.cell?_alloc_at _ _ _ _ rfl]; exact hv
          have HU0 : Hid (∀ L X H, Us (w2.heap.size + 1) w2.heap.size (w2.alloc (.cells #[.int .i64 d.f.ch, .int .i64 d.f.bits, .int .i64 d.f.rate, .slice none 0 0] 26)) d.f 0 L X none 0 H) := hid fun L X H =>
            ⟨hW1 0 _ rfl, hW1 1 _ rfl, hW1 2 _ rfl, hW1 3 _ rfl, fz_new _ _ _ _ _ rfl, World.ownsRow_nil _ _ _ _, fun i hi => absurd hi (Nat.not_lt_zero i), by omega, by simp⟩
          have HBN := hid (below_new w2 (.cells #[.int .i64 d.f.ch, .int .i64 d.f.bits, .int .i64 d.f.rate, .slice none 0 0] 26))
          clear hW1
          go_wp2_with fail
          clear x0 x1 x2
          have q1 : decide ((f : Int) < 0) = false := decide_eq_false (by omega)
          have q2 : decide (t < f) = false := decide_eq_false (by have := HFT.out; omega)
          have q3 : decide (d.cnt < t) = false := decide_eq_false (by have := HFT.out; omega)
          simp only [q1, q2, q3, Bool.false_or]
          clear q1 q2 q3
          go_loopg [10] d.n (fun gh i wr => ∃ (k : Nat) (lo : Option Addr) (lcap : Nat) (H : Nat → Option Addr × Nat), k ≤ d.n ∧ gh = d.n - k ∧ i = .int .i64 k ∧ Us (w2.heap.size + 1) w2.heap.size wr d.f k (fun _ => t - f) (fun q m => d.X q (f + m)) lo lcap H ∧ Below w2.heap.size w2 wr)
          case atStart => exact ⟨0, none, 0, fun _ => (none, 0), Nat.zero_le _, rfl, rfl, HU0.out _ _ _, HBN.out⟩
          case round =>
            obtain ⟨k, lo, lcap, H, hk, hgh, rfl, hus, hbl⟩ := hrel
            have HG := hid hgh
            have HU := hid hus
            have HB2 := hid hbl
            have HJ3 := hid (HJ2.out.upto hbl)
            have y3 := HJ3.out.x.c3
            clear hgh hus hbl
            by_cases hlt : k < d.n
            · have hlt2 : (k : Int) < (d.n : Int) := by omega
              have HSA := hid (HA.out.below HJ3.out.below)
              obtain ⟨b1, o1, hl1⟩ := HSA.out.l k hlt
              have e1 := HSA.out.addr (by omega)
              have hbs := HU.out.bs
              have h63 := HFT.out
              have hlk : t ≤ d.ln k := by rw [HO.out.2.2.2.2.2.1 k hlt]; omega
              have hcl := HCP.out k hlt
              have HL1 := hid (cut_isb hl1 h63.1 hlk hcl)
              have hsl := cut_run (d.la k) (d.ln k) (d.lc k) f t h63.1 (by omega)
              generalize hAg : cutA (d.la k) (d.lc k) f = A at *
              clear hl1 hAg
              rw [e1] at y3
              go_wp2_with fail
              have hbD : Below wr.heap.size wr wr.drew := ⟨rfl, rfl, rfl, Nat.le_refl _, fun _ _ => rfl⟩
              have hbW : Below wr.heap.size wr ((wr.drew).alloc (.cells #[] 3)) := hbD.alloc (Nat.le_refl _) _
              have HS : Hid (∀ w', Below w2.heap.size w2 w' → w'.cell? ⟨w.heap.size, 3, none⟩ = some (.slice (some ⟨d.b, d.off, none⟩) d.n d.cap) ∧ w'.cell? ⟨d.b, d.off + k, none⟩ = some (.slice (d.la k) (d.ln k) (d.lc k))) := hid fun w' hw' => by
                have hj := HJ2.out.upto hw'
                have h3 := hj.x.c3
                rw [e1] at h3
                exact ⟨h3, (HA.out.below hj.below).c k hlt⟩
              have HBD := hid (HB2.out.trans (hbD.mono HB2.out.size))
              have HBW := hid (HB2.out.trans (hbW.mono HB2.out.size))
              have s5 : wr.drew.cell? ⟨w2.heap.size, 3, none⟩ = some (.slice lo k lcap) := (HU.out.fr hbD).hdr
              have t5 : (wr.drew.alloc (.cells #[] 3)).cell? ⟨w2.heap.size, 3, none⟩ = some (.slice lo k lcap) := (HU.out.fr hbW).hdr
              have hown1 : (wr.drew.alloc (.cells #[] 3)).ownsRow wr.heap.size 3 1 (.slice (some ⟨wr.heap.size, 0, none⟩) 0 0) 0 [] := World.ownsRow_made wr.drew #[] 0 (Nat.le_refl _) (Nat.zero_le _) rfl
              have HI1 := hid (HL1.out.below hbW HL1.out.lt)
              have S1 := HS.out _ HBD.out
              clear y3 hlk hcl
              have HTT : Hid (∀ l, Till (fun w' => w'.cell? ⟨w.heap.size, 3, none⟩ = some (.slice (some ⟨d.b, d.off, none⟩) d.n d.cap) ∧ w'.cell? ⟨d.b, d.off + k, none⟩ = some (.slice (d.la k) (d.ln k) (d.lc k))) (fun w' => w'.cell? ⟨w2.heap.size, 3, none⟩ = some (.slice lo k lcap)) 13 l wr.drew) := hid fun l => ⟨S1, fun _ => s5⟩
              clear S1 e1
              refine region_T (T := Till (fun w' => w'.cell? ⟨w.heap.size, 3, none⟩ = some (.slice (some ⟨d.b, d.off, none⟩) d.n d.cap) ∧ w'.cell? ⟨d.b, d.off + k, none⟩ = some (.slice (d.la k) (d.ln k) (d.lc k))) (fun w' => w'.cell? ⟨w2.heap.size, 3, none⟩ = some (.slice lo k lcap)) 13) (by kernel_rfl) ?_
              refine take_1 (i := 0) (oi := ({ dst := some 41, op := Op.fieldAddr 26 (Operand.tmp 9) 1, type := 0, pos := _, after := #[], guard := none } : Oper)) (v := .pointer (some ⟨w2.heap.size, 3, none⟩)) rfl (by kernel_rfl) (by kernel_rfl) (by kernel_rfl) (by decide) (fun _ _ _ h => h) (HTT.out _) (.inl ⟨by rfl, fun w' hSw => ?_⟩) ?_
              · (try dsimp only at hSw)
                go_simp
              (try simp only [Act.put, List.setIfInBounds_toArray, List.set_cons_zero, List.set_cons_succ])
              refine take_2 (i := 1) (oi := ({ dst := some 42, op := Op.load 24 (Operand.tmp 41), type := 24, pos := _, after := #[{ on := 0, ground := Ground.data }], guard := none } : Oper)) (v := .slice lo k lcap) rfl (by kernel_rfl) (by kernel_rfl) (by kernel_rfl) (by decide) (by kernel_rfl) (by kernel_rfl) (fun _ _ _ h => h) (HTT.out _) (.inl ⟨by rfl, fun w' hSw => ?_⟩) ?_
              · (try dsimp only at hSw)
                go_simp
              (try simp only [Act.put, List.setIfInBounds_toArray, List.set_cons_zero, List.set_cons_succ])
              refine take_1 (i := 3) (oi := ({ dst := some 44, op := Op.fieldAddr 26 (Operand.tmp 3) 1, type := 0, pos := _, after := #[], guard := none } : Oper)) (v := .pointer (some ⟨w.heap.size, 3, none⟩)) rfl (by kernel_rfl) (by kernel_rfl) (by kernel_rfl) (by decide) (fun _ _ _ h => h) (HTT.out _) (.inl ⟨by rfl, fun w' hSw => ?_⟩) ?_
              · (try dsimp only at hSw)
                go_simp
              (try simp only [Act.put, List.setIfInBounds_toArray, List.set_cons_zero, List.set_cons_succ])
              refine take_1 (i := 4) (oi := ({ dst := some 45, op := Op.load 24 (Operand.tmp 44), type := 24, pos := _, after := #[{ on := 3, ground := Ground.data }], guard := none } : Oper)) (v := .slice (some ⟨d.b, d.off, none⟩) d.n d.cap) rfl (by kernel_rfl) (by kernel_rfl) (by kernel_rfl) (by decide) (fun _ _ _ h => h) (HTT.out _) (.inl ⟨by rfl, fun w' hSw => ?_⟩) ?_
              · (try dsimp only at hSw)
                go_simp
              (try simp only [Act.put, List.setIfInBounds_toArray, List.set_cons_zero, List.set_cons_succ])
              refine take_1 (i := 5) (oi := ({ dst := some 46, op := Op.move (Operand.tmp 10), type := 3, pos := _, after := #[], guard := none } : Oper)) (v := .int .i64 (k : Int)) rfl (by kernel_rfl) (by kernel_rfl) (by kernel_rfl) (by decide) (fun _ _ _ h => h) (HTT.out _) (.inl ⟨by rfl, fun w' hSw => ?_⟩) ?_
              · (try dsimp only at hSw)
                go_simp
              (try simp only [Act.put, List.setIfInBounds_toArray, List.set_cons_zero, List.set_cons_succ])
              refine take_1 (i := 6) (oi := ({ dst := some 47, op := Op.indexAddr 24 (Operand.tmp 45) (Operand.tmp 46), type := 0, pos := _, after := #[{ on := 4, ground := Ground.data }, { on := 5, ground := Ground.data }], guard := none } : Oper)) (v := .pointer (some ⟨d.b, d.off + k, none⟩)) rfl (by kernel_rfl) (by kernel_rfl) (by kernel_rfl) (by decide) (fun _ _ _ h => h) (HTT.out _) (.inl ⟨by rfl, fun w' hSw => ?_⟩) ?_
              · (try dsimp only at hSw)
                go_simp
              (try simp only [Act.put, List.setIfInBounds_toArray, List.set_cons_zero, List.set_cons_succ])
              refine take_1 (i := 7) (oi := ({ dst := some 48, op := Op.load 42 (Operand.tmp 47), type := 42, pos := _, after := #[{ on := 6, ground := Ground.data }], guard := none } : Oper)) (v := .slice (d.la k) (d.ln k) (d.lc k)) rfl (by kernel_rfl) (by kernel_rfl) (by kernel_rfl) (by decide) (fun _ _ _ h => h) (HTT.out _) (.inl ⟨by rfl, fun w' hSw => ?_⟩) ?_
              · (try dsimp only at hSw)
                go_simp
              (try simp only [Act.put, List.setIfInBounds_toArray, List.set_cons_zero, List.set_cons_succ])
              refine take_1 (i := 8) (oi := ({ dst := some 49, op := Op.move (Operand.tmp 1), type := 3, pos := _, after := #[], guard := none } : Oper)) (v := .int .i64 (f : Int)) rfl (by kernel_rfl) (by kernel_rfl) (by kernel_rfl) (by decide) (fun _ _ _ h => h) (HTT.out _) (.inl ⟨by rfl, fun w' hSw => ?_⟩) ?_
              · (try dsimp only at hSw)
                go_simp
              (try simp only [Act.put, List.setIfInBounds_toArray, List.set_cons_zero, List.set_cons_succ])
              refine take_1 (i := 9) (oi := ({ dst := some 50, op := Op.move (Operand.tmp 2), type := 3, pos := _, after := #[], guard := none } : Oper)) (v := .int .i64 (t : Int)) rfl (by kernel_rfl) (by kernel_rfl) (by kernel_rfl) (by decide) (fun _ _ _ h => h) (HTT.out _) (.inl ⟨by rfl, fun w' hSw => ?_⟩) ?_
              · (try dsimp only at hSw)
                go_simp
              (try simp only [Act.put, List.setIfInBounds_toArray, List.set_cons_zero, List.set_cons_succ])
              refine take_1 (i := 10) (oi := ({ dst := some 51, op := Op.slice 42 (Operand.tmp 48) (some (Operand.tmp 49)) (some (Operand.tmp 50)) none, type := 42, pos := _, after := #[{ on := 7, ground := Ground.data }, { on := 8, ground := Ground.data }, { on := 9, ground := Ground.data }], guard := none } : Oper)) (v := .slice A (t - f) (d.lc k - f)) rfl (by kernel_rfl) (by kernel_rfl) (by kernel_rfl) (by decide) (fun _ _ _ h => h) (HTT.out _) (.inl ⟨by rfl, fun w' hSw => ?_⟩) ?_
              · (try dsimp only at hSw)
                go_simp
              (try simp only [Act.put, List.setIfInBounds_toArray, List.set_cons_zero, List.set_cons_succ])
              clear s5 hsl
              refine anyT_one (i := 2) (o := ({ dst := some 43, op := Op.buildSlice 42 0 #[], type := 42, pos := _, after := #[], guard := none } : Oper)) (by kernel_rfl) rfl (fun K HK => ?_)
              go_simp
              refine HK.out _ _ ⟨HS.out _ HBW.out, fun _ => t5⟩ ?_
              clear HK K
              (try simp only [Act.put, List.setIfInBounds_toArray, List.set_cons_zero, List.set_cons_succ])
              refine anyT_one (i := 11) (o := ({ dst := some 52, op := Op.call { callee := Callee.builtin Builtin.append, args := #[Operand.tmp 43, Operand.tmp 51], argTypes := #[42, 42] }, type := 42, pos := _, after := #[{ on := 2, ground := Ground.data }, { on := 10, ground := Ground.data }], guard := none } : Oper)) (by kernel_rfl) rfl (fun K HK => ?_)
              refine step_append_src (by rfl) (.tmp 43) (.tmp 51) 42 (by rfl) wr.heap.size 3 i0 (.int .i64 0) 8 Try.underlying42 hi hz0 hz1 hz2 rfl (some ⟨wr.heap.size, 0, none⟩) 0 0 [] (by rfl) hown1 A (t - f) (d.lc k - f) (vl (fun m => d.X k (f + m)) (t - f)) (by rfl) (vl_len _ _) (isb_none HI1.out) (vl_cells HI1.out) (vl_one _ _) (by unfold maxLen; omega) (by omega) hbW.size ?_
              intro ao2 cap2 w4 hown2 hg2
              (try simp only [Nat.zero_add, List.nil_append] at hown2)
              (try rw [Nat.zero_add])
              have hb2 : Below wr.heap.size wr w4 := hbW.grown hg2 hbW.size (fun g hg => by simp [blk] at hg; omega)
              have p5 := (HU.out.fr hb2).hdr
              have S3 := HS.out _ (HB2.out.trans (hb2.mono HB2.out.size))
              have hb4 : Below wr.heap.size wr (w4.alloc (.cells #[.slice ao2 (t - f) cap2] 42)) := hb2.alloc hb2.size _
              have S5 := HS.out _ (HB2.out.trans (hb4.mono HB2.out.size))
              have r5 := (HU.out.fr hb4).hdr
              have hown4 := (HU.out.fr hb4).own
              have hc4 : (w4.alloc (.cells #[.slice ao2 (t - f) cap2] 42)).cell? ⟨w4.heap.size, 0, none⟩ = some (.slice ao2 (t - f) cap2) := World.cell?_alloc_at _ _ _ _ rfl
              have hn4 : NewIs wr.heap.size (w4.alloc (.cells #[.slice ao2 (t - f) cap2] 42)) ao2 (t - f) (fun m => d.X k (f + m)) := (own_new hown2 (fun j hj => vl_get _ hj) (by omega)).below (below_new _ _)
              have hsz4 : w2.heap.size + 1 ≤ (w4.alloc (.cells #[.slice ao2 (t - f) cap2] 42)).heap.size := Nat.le_trans hbs hb4.size
              refine HK.out _ _ ⟨S3, fun _ => p5⟩ ?_
              clear HK K S3 p5
              (try simp only [Act.put, List.setIfInBounds_toArray, List.set_cons_zero, List.set_cons_succ])
              refine anyT_one (i := 12) (o := ({ dst := some 53, op := Op.buildSlice 24 1 #[(0, Operand.tmp 52)], type := 24, pos := _, after := #[{ on := 11, ground := Ground.data }], guard := none } : Oper)) (by kernel_rfl) rfl (fun K HK => ?_)
              go_simp
              refine HK.out _ _ ⟨S5, fun _ => r5⟩ ?_
              clear HK K S5 r5
              (try simp only [Act.put, List.setIfInBounds_toArray, List.set_cons_zero, List.set_cons_succ])
              refine anyT_one (i := 13) (o := ({ dst := some 54, op := Op.call { callee := Callee.builtin Builtin.append, args := #[Operand.tmp 42, Operand.tmp 53], argTypes := #[24, 24] }, type := 24, pos := _, after := #[{ on := 1, ground := Ground.data }, { on := 12, ground := Ground.data }, { on := 11, ground := Ground.chain }], guard := none } : Oper)) (by kernel_rfl) rfl (fun K HK => ?_)
              refine step_append_one (by rfl) (.tmp 42) (.tmp 53) 24 (by rfl) (w2.heap.size + 1) 42 i1 (.slice none 0 0) 24 Try.underlying24 hj hy0 hy1 hy2 rfl lo k lcap (hx H (fun _ => t - f) k) (by rfl) hown4 ⟨w4.heap.size, 0, none⟩ 1 (.slice ao2 (t - f) cap2) (by rfl) hc4 rfl (by unfold maxLen; omega) (by omega) hsz4 ?_
              intro gg cap' w5 hown5 hkept
              obtain ⟨k4, k5, hus5⟩ := HU.out.step hb4 hn4 hown5 hkept
              have hb5 : Below w2.heap.size w2 w5 := (HB2.out.trans (hb4.mono HB2.out.size)).grown hkept.grown (by have := hb4.size; have := HB2.out.size; omega) (fun g hg => by have := (World.ownsRow.lt hown4 g (by rw [ownBlock_slice]; exact hg)).1; omega)
              have hbf : Below w2.heap.size w2 (w5.setCell ⟨w2.heap.size, 3, none⟩ (.slice (some ⟨gg, 0, none⟩) (k + 1) cap')) := hb5.setCell (p := ⟨w2.heap.size, 3, none⟩) (Nat.le_refl _) _
              have S6 := HS.out _ hb5
              have S7 := HS.out _ hbf
              refine HK.out _ _ ⟨S6, fun h => absurd (h.symm.trans (by kernel_rfl : _ = true)) (by decide)⟩ ?_
              have HT6 : Hid (∀ l : Array Bool, l.getD 13 true = true → Till (fun w' => w'.cell? ⟨w.heap.size, 3, none⟩ = some (.slice (some ⟨d.b, d.off, none⟩) d.n d.cap) ∧ w'.cell? ⟨d.b, d.off + k, none⟩ = some (.slice (d.la k) (d.ln k) (d.lc k))) (fun w' => w'.cell? ⟨w2.heap.size, 3, none⟩ = some (.slice lo k lcap)) 13 l w5) := hid fun l hl => ⟨S6, fun h => absurd (hl.symm.trans h) (by decide)⟩
              clear HK K S6
              (try simp only [Act.put, List.setIfInBounds_toArray, List.set_cons_zero, List.set_cons_succ])
              refine take_1 (i := 14) (oi := ({ dst := some 55, op := Op.fieldAddr 26 (Operand.tmp 9) 1, type := 0, pos := _, after := #[{ on := 0, ground := Ground.phase }, { on := 1, ground := Ground.phase }, { on := 2, ground := Ground.phase }, { on := 3, ground := Ground.phase }, { on := 4, ground := Ground.phase }, { on := 5, ground := Ground.phase }, { on := 6, ground := Ground.phase }, { on := 7, ground := Ground.phase }, { on := 8, ground := Ground.phase }, { on := 9, ground := Ground.phase }, { on := 10, ground := Ground.phase }, { on := 11, ground := Ground.phase }, { on := 12, ground := Ground.phase }, { on := 13, ground := Ground.phase }], guard := none } : Oper)) (v := .pointer (some ⟨w2.heap.size, 3, none⟩)) rfl (by kernel_rfl) (by kernel_rfl) (by kernel_rfl) (by decide) (fun _ _ _ h => h) (HT6.out _ (by kernel_rfl)) (.inl ⟨by rfl, fun w' hSw => ?_⟩) ?_
              · (try dsimp only at hSw)
                go_simp
              (try simp only [Act.put, List.setIfInBounds_toArray, List.set_cons_zero, List.set_cons_succ])
              refine anyT_one (i := 15) (o := ({ dst := none, op := Op.store 24 (Operand.tmp 55) (Operand.tmp 54), type := 0, pos := _, after := #[{ on := 14, ground := Ground.data }, { on := 13, ground := Ground.data }, { on := 13, ground := Ground.chain }, { on := 0, ground := Ground.phase }, { on := 1, ground := Ground.phase }, { on := 2, ground := Ground.phase }, { on := 3, ground := Ground.phase }, { on := 4, ground := Ground.phase }, { on := 5, ground := Ground.phase }, { on := 6, ground := Ground.phase }, { on := 7, ground := Ground.phase }, { on := 8, ground := Ground.phase }, { on := 9, ground := Ground.phase }, { on := 10, ground := Ground.phase }, { on := 11, ground := Ground.phase }, { on := 12, ground := Ground.phase }, { on := 13, ground := Ground.phase }], guard := none } : Oper)) (by kernel_rfl) rfl (fun K HK => ?_)
              go_simp
              refine HK.out _ _ ⟨S7, fun h => absurd (show true = false from h) (by decide)⟩ ?_
              clear HK K S7
              refine anyT_done (by kernel_rfl) ?_ _
              have HBF := hid hbf
              have HU5 := hid hus5
              clear hbf hus5 k4 k5 hown5 hkept hn4 hc4 hown4 hsz4 hb4 hb2 hown2 hg2 t5 hown1 hbW hbD hb5
              go_wp2_with fail
              go_roundg (d.n - (k + 1))
              case measure => rw [HG.out]; omega
              case rel => exact ⟨k + 1, some ⟨gg, 0, none⟩, cap', _, by omega, rfl, by go_num, HU5.out, HBF.out⟩
            · have hge : ¬ (k : Int) < (d.n : Int) := by omega
              obtain rfl : d.n = k := by omega
              obtain ⟨s, hdv, hdf, hdn, hdl, hdx, hds, hdw⟩ := HU.out.snd (by omega)
              have x0 := HU.out.c0
              have x1 := HU.out.c1
              have x2 := HU.out.c2
              have x3 := HU.out.hdr
              have r0 := HJ3.out.r 0 _ rfl
              have r1 := HJ3.out.r 1 _ rfl
              have r2 := HJ3.out.r 2 _ rfl
              have r3 := HJ3.out.r 3 _ rfl
              have z0 := HJ3.out.z 0
              have z1 := HJ3.out.z 1
              have z2 := HJ3.out.z 2
              have z3 := HJ3.out.z 3
              have hfs := four_set wr (w.heap.size + 1) (.int .i64 d.f.ch) (.int .i64 d.f.bits) (.int .i64 d.f.rate) (.slice lo d.n lcap) HJ3.out.four
              obtain ⟨y0, y1, y2, y3', _⟩ := hfs
              have hlt1 := HJ2.out.lt
              have HF : Hid (SndPost w (ccode d (f : Int) (t : Int)) (CutOk d (f : Int) (t : Int)) (.returned (.tuple #[.agg #[.int .i64 d.f.ch, .int .i64 d.f.bits, .int .i64 d.f.rate, .slice lo d.n lcap], .int .i64 0])) ((((wr.setCell ⟨w.heap.size + 1, 0, none⟩ (.int .i64 d.f.ch)).setCell ⟨w.heap.size + 1, 1, none⟩ (.int .i64 d.f.bits)).setCell ⟨w.heap.size + 1, 2, none⟩ (.int .i64 d.f.rate)).setCell ⟨w.heap.size + 1, 3, none⟩ (.slice lo d.n lcap))) :=
                hid ⟨s, by rw [hdv, HE.out], hds.set4 hdw (by omega) HJ3.out.four _ _ _ _, set4_below HJ3.out.below (by omega) _ _ _ _, fun _ => ⟨hdf, hdn, fun i _ => ⟨by rw [hdl]; rfl, by rw [hdx]; rfl⟩⟩, fun h => absurd HE.out h⟩
              clear hdv hdf hdn hdl hdx hds hdw hlt1
              go_wp2_with fail
              refine bodyPost_ret (v := .tuple #[.agg #[.int .i64 d.f.ch, .int .i64 d.f.bits, .int .i64 d.f.rate, .slice lo d.n lcap], .int .i64 0]) ?_ rfl ?_
              · rw [results_cell_tmp (p := 6) (u := 7) (ty := 26) (by kernel_rfl)]
                go_simp
              · exact HF.out
  · have e0 : (d.chk != 0) = true := bne_iff_ne.2 hck
    have HBN := hid hck
    have hck' := hid hck
    clear hck
    have HE := hid (show ccode d i j = d.chk from ccode_1 hck'.out)
    have r0 := HJ1.out.r 0 _ rfl
    have r1 := HJ1.out.r 1 _ rfl
    have r2 := HJ1.out.r 2 _ rfl
    have r3 := HJ1.out.r 3 _ rfl
    have z0 := HJ1.out.z 0
    have z1 := HJ1.out.z 1
    have z2 := HJ1.out.z 2
    have z3 := HJ1.out.z 3
    have hfs := four_set w1 (w.heap.size + 1) (.int .i64 0) (.int .i64 0) (.int .i64 0) (.slice none 0 0) HJ1.out.four
    obtain ⟨y0, y1, y2, y3, _⟩ := hfs
    go_wp2_with fail
    refine bodyPost_ret (v := .tuple #[.agg #[.int .i64 0, .int .i64 0, .int .i64 0, .slice none 0 0], .int .i64 d.chk]) ?_ rfl ?_
    · rw [results_cell_tmp (p := 6) (u := 7) (ty := 26) (by kernel_rfl)]
      go_simp
    · exact ⟨Dat.nil, by rw [HE.out]; rfl, nil_snd _, set4_below HJ1.out.below (by omega) _ _ _ _, fun h => absurd (HE.out.symm.trans h) HBN.out, fun _ => rfl⟩
end Go.Proofs.Ytfidnklppbdebaa.Pcm
