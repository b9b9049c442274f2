/- Silence of pcm. No condition. -/
import Derived.Test.YtfidnklppbdebaaSi
import Derived.Laws.ResultCell
namespace Go.Proofs.Ytfidnklppbdebaa.Pcm
open Go.RowKit Gen

/-- No sound. -/
def Dat.nil : Dat := ⟨⟨0, 0, 0⟩, none, 0, 0, 0, 0, fun _ => none, fun _ => 0, fun _ => 0, fun _ _ => 0⟩
theorem nil_snd (w : World) : Snd w Dat.nil := ⟨fun h => absurd h (Nat.lt_irrefl 0), fun i hi => absurd hi (Nat.not_lt_zero i), fun i hi => absurd hi (Nat.not_lt_zero i), fun h => absurd h (Nat.lt_irrefl 0), Nat.zero_le _⟩
def silc (f : Fmt) (n : Int) : Int := if ¬ f.right then 20 else if ¬ (0 ≤ n ∧ n ≤ 1048576) then 1 else 0
/-- What a call that answers sound and a code answers: the sound `ok` tells of, or none. -/
def SndPost (w : World) (code : Int) (ok : Dat → Prop) (e : Ending) (w' : World) : Prop := ∃ d : Dat, e = .returned (.tuple #[d.v, .int .i64 code]) ∧ Snd w' d ∧ Below w.heap.size w w' ∧ (code = 0 → ok d) ∧ (code ≠ 0 → d = Dat.nil)
/-- What stands while Silence goes on. -/
structure Sl (w wr : World) (f : Fmt) (n : Int) : Prop where
  f0 : wr.cell? ⟨w.heap.size, 0, none⟩ = some (.int .i64 f.ch)
  f1 : wr.cell? ⟨w.heap.size, 1, none⟩ = some (.int .i64 f.bits)
  f2 : wr.cell? ⟨w.heap.size, 2, none⟩ = some (.int .i64 f.rate)
  cn : wr.cell? ⟨w.heap.size + 1, 0, none⟩ = some (.int .i64 n)
  r : ∀ i v, (#[.int .i64 0, .int .i64 0, .int .i64 0, .slice none 0 0] : Array Value)[i]? = some v → wr.cell? ⟨w.heap.size + 1 + 1, i, none⟩ = some v
  z : ∀ i, wr.frozen? ⟨w.heap.size + 1 + 1, i, none⟩ = false
  below : Below w.heap.size w wr
  lt : w.heap.size + 3 ≤ wr.heap.size
theorem Sl.upto {w w1 w2 : World} {f : Fmt} {n : Int} (h : Sl w w1 f n) (hb : Below w1.heap.size w1 w2) : Sl w w2 f n := by
  have hlt := h.lt
  have hc : ∀ b i, b < w.heap.size + 3 → w2.cell? ⟨b, i, none⟩ = w1.cell? ⟨b, i, none⟩ := fun b i hh => hb.cell (p := ⟨b, i, none⟩) (show b < _ by omega)
  exact ⟨(hc _ _ (by omega)).trans h.f0, (hc _ _ (by omega)).trans h.f1, (hc _ _ (by omega)).trans h.f2, (hc _ _ (by omega)).trans h.cn, fun i v hv => (hc _ _ (by omega)).trans (h.r i v hv),
    fun i => (hb.frozen (p := ⟨w.heap.size + 1 + 1, i, none⟩) (show w.heap.size + 1 + 1 < _ by omega)).trans (h.z i), h.below.trans (hb.mono h.below.size), Nat.le_trans hlt hb.size⟩
theorem sl_new (w : World) (f : Fmt) (n : Int) : Sl w (((w.alloc (.cells #[.int .i64 f.ch, .int .i64 f.bits, .int .i64 f.rate] 23)).alloc (.cells #[.int .i64 n] 3)).alloc (.cells #[.int .i64 0, .int .i64 0, .int .i64 0, .slice none 0 0] 26)) f n := by
  have h1 : ∀ i (v : Value), (#[.int .i64 f.ch, .int .i64 f.bits, .int .i64 f.rate] : Array Value)[i]? = some v → (((w.alloc (.cells #[.int .i64 f.ch, .int .i64 f.bits, .int .i64 f.rate] 23)).alloc (.cells #[.int .i64 n] 3)).alloc (.cells #[.int .i64 0, .int .i64 0, .int .i64 0, .slice none 0 0] 26)).cell? ⟨w.heap.size, i, none⟩ = some v := fun i v hv => by
    rw [cell_old _ _ _ _ (by simp <;> omega), cell_old _ _ _ _ (by simp), World.cell?_alloc_at _ _ _ _ rfl]; exact hv
  refine ⟨h1 0 _ rfl, h1 1 _ rfl, h1 2 _ rfl, ?_, fun i v hv => ?_, fun i => fz_new _ _ _ _ _ (by simp), ((below_new w _).alloc (by simp) _).alloc (by simp <;> omega) _, by simp⟩
  · rw [cell_old _ _ _ _ (by simp), World.cell?_alloc_at _ _ _ _ (by simp)]; rfl
  · rw [World.cell?_alloc_at _ _ _ _ (by simp)]; exact hv

theorem Sl.four {w wr : World} {f : Fmt} {n : Int} (h : Sl w wr f n) : ∀ i, i < 4 → ∃ v, wr.cell? ⟨w.heap.size + 1 + 1, i, none⟩ = some v := fun i hi => by
  match i, hi with
  | 0, _ => exact ⟨_, h.r 0 _ rfl⟩
  | 1, _ => exact ⟨_, h.r 1 _ rfl⟩
  | 2, _ => exact ⟨_, h.r 2 _ rfl⟩
  | 3, _ => exact ⟨_, h.r 3 _ rfl⟩
theorem set4_below {w wr : World} {q : Nat} (h : Below w.heap.size w wr) (hq : w.heap.size ≤ q) (v0 v1 v2 v3 : Value) : Below w.heap.size w ((((wr.setCell ⟨q, 0, none⟩ v0).setCell ⟨q, 1, none⟩ v1).setCell ⟨q, 2, none⟩ v2).setCell ⟨q, 3, none⟩ v3) :=
  (((h.setCell (p := ⟨q, 0, none⟩) hq _).setCell (p := ⟨q, 1, none⟩) hq _).setCell (p := ⟨q, 2, none⟩) hq _).setCell (p := ⟨q, 3, none⟩) hq _
theorem Snd.set4 {wr : World} {q B : Nat} {d : Dat} (h : Snd wr d) (hn : NewSnd B wr d) (hq : q < B) (hex : ∀ i, i < 4 → ∃ v, wr.cell? ⟨q, i, none⟩ = some v) (v0 v1 v2 v3 : Value) : Snd ((((wr.setCell ⟨q, 0, none⟩ v0).setCell ⟨q, 1, none⟩ v1).setCell ⟨q, 2, none⟩ v2).setCell ⟨q, 3, none⟩ v3) d := by
  obtain ⟨_, _, _, _, ho⟩ := four_set wr q v0 v1 v2 v3 hex
  refine ⟨h.addr, fun i hi => (ho d.b _ (by have := hn.1; omega)).trans (h.c i hi), fun i hi => ?_, fun hl => by have := h.lt hl; simpa using this, h.hl⟩
  obtain ⟨b, off, h1, _⟩ := ((((hn.2 i hi).set (g := q) (k := 0) hq v0).set (g := q) (k := 1) hq v1).set (g := q) (k := 2) hq v2).set (g := q) (k := 3) hq v3
  exact ⟨b, off, h1⟩

set_option maxHeartbeats 1600000 in
set_option maxRecDepth 100000 in
theorem silence_any (w : World) (f : Fmt) (n : Int) : Calls Try.prog 21 #[f.v, .int .i64 n] w (SndPost w (silc f n) fun d => d.f = f ∧ (d.n : Int) = f.ch ∧ ∀ i, i < d.n → d.ln i = n.toNat ∧ d.X i = fun _ => 0) := by
  have HRT := hid fun w' => right_any f w'
  unfold Fmt.v at HRT
  show Calls Try.prog 21 #[.agg #[.int .i64 f.ch, .int .i64 f.bits, .int .i64 f.rate], .int .i64 n] w _
  go_enter Try.func21, Try.ntmps21
  go_wp2_with fail
  have HS0 := hid (sl_new w f n)
  refine (HRT.out _).mono ?_
  rintro e w1 ⟨rfl, hb1⟩
  have HS1 := hid (HS0.out.upto hb1)
  clear hb1
  have r0 := HS1.out.r 0 _ rfl
  have r1 := HS1.out.r 1 _ rfl
  have r2 := HS1.out.r 2 _ rfl
  have r3 := HS1.out.r 3 _ rfl
  have z0 := HS1.out.z 0
  have z1 := HS1.out.z 1
  have z2 := HS1.out.z 2
  have z3 := HS1.out.z 3
  by_cases hr : f.right
  · rw [decide_eq_true hr]
    have HR := hid hr
    have cn := HS1.out.cn
    have g0 := HS1.out.f0
    have g1 := HS1.out.f1
    have g2 := HS1.out.f2
    go_wp2_with fail
    refine (isfrom n 0 1048576 w1).mono ?_
    rintro e w2 ⟨rfl, rfl⟩
    by_cases hn : 0 ≤ n ∧ n ≤ 1048576
    · rw [decide_eq_true hn]
      have HE : Hid (silc f n = 0) := hid (by unfold silc; rw [if_neg (fun h => h hr), if_neg (fun h => h hn)])
      have HN := hid hn
      clear hr hn
      have HBU := hid (build_any 44 #[.pointer (some ⟨w.heap.size + 1, 0, none⟩)] (fun args w => Try.call44 args w) w1 f f.ch.toNat (by have := HR.out.1; omega) (by have := HR.out.1; omega) (by have := HR.out.1; omega) (fun _ => n.toNat) (fun _ _ => 0) (fun i hi w' hw' => by
        have hw1 := HS1.out.lt
        exact nought_any w' (i : Int) ⟨w.heap.size + 1, 0, none⟩ n.toNat (by have := HN.out; omega) (((hw'.cell (p := ⟨w.heap.size + 1, 0, none⟩) (show w.heap.size + 1 < _ by omega)).trans HS1.out.cn).trans (by rw [Int.toNat_of_nonneg HN.out.1]))))
      unfold Fmt.v at HBU
      go_wp2_with fail
      refine HBU.out.mono ?_
      rintro e w3 ⟨d, rfl, hdf, hdn, hdl, hdx, hds, hdw, hb3⟩
      have HS3 := hid (HS1.out.upto hb3)
      have HD := hid hds
      have HW := hid hdw
      have HOK : Hid (d.f = f ∧ (d.n : Int) = f.ch ∧ ∀ i, i < d.n → d.ln i = n.toNat ∧ d.X i = fun _ => 0) := hid ⟨hdf, by rw [hdn]; have := HR.out.1; omega, fun i hi => ⟨hdl i (by omega), hdx i (by omega)⟩⟩
      have hfs := four_set w3 (w.heap.size + 1 + 1) (.int .i64 d.f.ch) (.int .i64 d.f.bits) (.int .i64 d.f.rate) (.slice d.a d.n d.cap) HS3.out.four
      obtain ⟨y0, y1, y2, y3, _⟩ := hfs
      clear r0 r1 r2 r3 z0 z1 z2 z3 cn g0 g1 g2 hb3 hds hdw hdf hdn hdl hdx
      have r0 := HS3.out.r 0 _ rfl
      have r1 := HS3.out.r 1 _ rfl
      have r2 := HS3.out.r 2 _ rfl
      have r3 := HS3.out.r 3 _ rfl
      have z0 := HS3.out.z 0
      have z1 := HS3.out.z 1
      have z2 := HS3.out.z 2
      have z3 := HS3.out.z 3
      unfold Dat.v
      go_wp2_with fail
      refine bodyPost_ret (v := .tuple #[.agg #[.int .i64 d.f.ch, .int .i64 d.f.bits, .int .i64 d.f.rate, .slice d.a d.n d.cap], .int .i64 0]) ?_ rfl ?_
      · rw [results_cell_tmp (p := 4) (u := 5) (ty := 26) (by kernel_rfl)]
        go_simp
      · exact ⟨d, by rw [HE.out]; rfl, HD.out.set4 HW.out (by have := HS1.out.lt; omega) HS3.out.four _ _ _ _, set4_below HS3.out.below (by omega) _ _ _ _, fun _ => HOK.out, fun h => absurd HE.out h⟩
    · rw [decide_eq_false hn]
      have HE : Hid (silc f n = 1) := hid (by unfold silc; rw [if_neg (fun h => h hr), if_pos hn])
      clear hr hn
      have hfs := four_set w1 (w.heap.size + 1 + 1) (.int .i64 0) (.int .i64 0) (.int .i64 0) (.slice none 0 0) HS1.out.four
      obtain ⟨y0, y1, y2, y3, _⟩ := hfs
      go_wp2_with fail
      refine bodyPost_ret (v := .tuple #[.agg #[.int .i64 0, .int .i64 0, .int .i64 0, .slice none 0 0], .int .i64 1]) ?_ rfl ?_
      · rw [results_cell_tmp (p := 4) (u := 5) (ty := 26) (by kernel_rfl)]
        go_simp
      · exact ⟨Dat.nil, by rw [HE.out]; rfl, nil_snd _, set4_below HS1.out.below (by omega) _ _ _ _, fun h => absurd h (by rw [HE.out]; decide), fun _ => rfl⟩
  · rw [decide_eq_false hr]
    have HE : Hid (silc f n = 20) := hid (if_pos hr)
    clear hr
    have hfs := four_set w1 (w.heap.size + 1 + 1) (.int .i64 0) (.int .i64 0) (.int .i64 0) (.slice none 0 0) (fun i hi => by
      match i, hi with
      | 0, _ => exact ⟨_, r0⟩
      | 1, _ => exact ⟨_, r1⟩
      | 2, _ => exact ⟨_, r2⟩
      | 3, _ => exact ⟨_, r3⟩)
    obtain ⟨y0, y1, y2, y3, _⟩ := hfs
    go_wp2_with fail
    refine bodyPost_ret (v := .tuple #[.agg #[.int .i64 0, .int .i64 0, .int .i64 0, .slice none 0 0], .int .i64 20]) ?_ rfl ?_
    · rw [results_cell_tmp (p := 4) (u := 5) (ty := 26) (by kernel_rfl)]
      go_simp
    · refine ⟨Dat.nil, by rw [HE.out]; rfl, nil_snd _, ?_, fun h => absurd h (by rw [HE.out]; decide), fun _ => rfl⟩
      exact (((HS1.out.below.setCell (p := ⟨w.heap.size + 1 + 1, 0, none⟩) (show w.heap.size ≤ w.heap.size + 1 + 1 by omega) _).setCell (p := ⟨w.heap.size + 1 + 1, 1, none⟩) (show w.heap.size ≤ w.heap.size + 1 + 1 by omega) _).setCell (p := ⟨w.heap.size + 1 + 1, 2, none⟩) (show w.heap.size ≤ w.heap.size + 1 + 1 by omega) _).setCell (p := ⟨w.heap.size + 1 + 1, 3, none⟩) (show w.heap.size ≤ w.heap.size + 1 + 1 by omega) _
end Go.Proofs.Ytfidnklppbdebaa.Pcm
