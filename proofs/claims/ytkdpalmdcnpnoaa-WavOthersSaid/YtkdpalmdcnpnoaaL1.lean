/- The function that Part hands on: each n-th number of a list. Conditions: n from 1 to 8, a list of n K numbers, from a place below n. -/
import Derived.Test.YtkdpalmdcnpnoaaKb
import Derived.Test.YtkdpalmdcnpnoaaWe
import Derived.Test.YtkdpalmdcnpnoaaKg
import Derived.Test.YtkdpalmdcnpnoaaLe
import Derived.Test.YtkdpalmdcnpnoaaRk
import Derived.Test.YtkdpalmdcnpnoaaKf
import Derived.Deep.RegionHeld3
import Derived.Deep.QuietTactic
import Derived.BigQuiet
import Derived.StillTailTactics
namespace Go.Proofs.Ytkdpalmdcnpnoaa.Pcm
open Go.RowKit Gen

set_option maxRecDepth 20000 in
theorem place_lt {n K m c : Nat} (hm : m < K) (hc : c < n) : n * m + c < n * K := by
  have h1 : n * (m + 1) ≤ n * K := Nat.mul_le_mul_left _ hm
  have h2 : n * (m + 1) = n * m + n := Nat.mul_succ n m
  omega

set_option maxHeartbeats 1600000 in
set_option maxRecDepth 100000 in
theorem part1_any (w : World) (c n K L p q : Nat) (a : Option Addr) (cap b o : Nat) (X : Nat → Int) (h8 : n ≤ 8) (hc : c < n) (hK : K ≤ 4294967296) (hL : L = n * K) (hp : w.cell? ⟨p, 0, none⟩ = some (.slice a L cap)) (hq : w.cell? ⟨q, 0, none⟩ = some (.int .i64 (n : Int))) (hl : Isb w a L b o X) :
    Calls Try.prog 97 (#[.int .i64 (c : Int)] ++ #[.pointer (some ⟨p, 0, none⟩), .pointer (some ⟨q, 0, none⟩)]) w (NewPost w K (fun m => X (n * m + c))) := by
  show Calls Try.prog 97 #[.int .i64 (c : Int), .pointer (some ⟨p, 0, none⟩), .pointer (some ⟨q, 0, none⟩)] w _
  obtain ⟨i0, hi, hz0, hz1, hz2⟩ := info_parts Try.info3
  have hmk : ∀ W : World, (Instr.makeSlice 55 (.int .i64 0) (.int .i64 (K : Int))).run Try.prog W = .ok (.slice (some ⟨W.heap.size, 0, none⟩) 0 K) (W.alloc (.cells (madeCells #[.int .i64 0] K) 3)) := fun W => by
    have hm := run_make (P := Try.prog) W 55 3 i0 (.int .i64 0) Try.underlying55 hi hz0 .i64 .i64 0 (K : Int) (by decide) (by omega) (by rw [hz2]; omega) (by omega)
    rw [hz1, Int.toNat_natCast, Nat.mul_one] at hm
    exact hm
  have hn0 : ¬ (n : Int) = 0 := by omega
  have hquo : Int.tdiv (L : Int) (n : Int) = (K : Int) := by
    rw [hL]
    push_cast
    exact Int.mul_tdiv_cancel_left _ hn0
  have hpos : (0 : Int) < (n : Int) := by omega
  have HL := hid hL
  have HLB : Hid (L ≤ 8 * 4294967296) := hid (by rw [hL]; exact Nat.mul_le_mul h8 hK)
  have HI := hid hl
  have HC2 := hid fun w' (hb : Below w.heap.size w w') => And.intro ((hb.cell (p := ⟨p, 0, none⟩) (World.block_lt_of_cell? _ _ hp)).trans hp) ((hb.cell (p := ⟨q, 0, none⟩) (World.block_lt_of_cell? _ _ hq)).trans hq)
  have HR0 : Hid (Row (w.alloc (.cells (madeCells #[.int .i64 0] K) 3)) w.heap.size (some ⟨w.heap.size, 0, none⟩) K (fun m => X (n * m + c)) 0) := hid (World.ownsRow_made w _ K (Nat.le_refl _) (by unfold maxLen; omega) (by rw [size_madeCells, Nat.mul_one]))
  have HB0 := hid (below_new w (.cells (madeCells #[.int .i64 0] K) 3))
  clear hl hL
  go_enter Try.func97, Try.ntmps97
  go_wp2_with fail
  clear hp hq hquo hmk
  go_loopg [5, 6] K (fun g v i wr => ∃ (m : Nat) (lo : Option Addr) (lcap T : Nat), m ≤ K ∧ g = K - m ∧ i = .int .i64 (T : Int) ∧ Hid (T = n * m + c) ∧ v = .slice lo m lcap ∧ Row wr w.heap.size lo lcap (fun m => X (n * m + c)) m ∧ Below w.heap.size w wr)
  case atStart => exact ⟨0, _, _, c, Nat.zero_le _, rfl, rfl, hid (by simp), rfl, HR0.out, HB0.out⟩
  case round =>
    obtain ⟨m, lo, lcap, T, hm, hg, rfl, HT, rfl, hr, hb⟩ := hrel
    have HG := hid hg
    have HB := hid hb
    have hp := (HC2.out wr hb).1
    have hq := (HC2.out wr hb).2
    have hlb := HLB.out
    clear hg hb
    by_cases hlt : m < K
    · have hTL : T < L := by rw [HT.out, HL.out]; exact place_lt hlt hc
      have hTi : (T : Int) < (L : Int) := by omega
      have hI := HI.out.below HB.out HI.out.lt
      have ha := hI.addr (by omega)
      have bx := hI.c T hTL
      rw [ha] at hp
      have hsz : w.heap.size ≤ (wr.alloc (.cells #[.int .i64 (X T)] 3)).heap.size := by have := HB.out.size; simp; omega
      have hrow := Row.upto hr (below_new wr (.cells #[.int .i64 (X T)] 3))
      have hcell : (wr.alloc (.cells #[.int .i64 (X T)] 3)).cell? ⟨wr.heap.size, 0, none⟩ = some (.int .i64 (X T)) := by simp
      have HRW := hid hrow
      have HBW := hid (HB.out.trans ((below_new wr (.cells #[.int .i64 (X T)] 3)).mono HB.out.size))
      unfold Row at hrow
      clear hI ha hr
      go_wp2_with (at_builtin; go_must (refine wpList_append_one rfl (.tmp 22) (.tmp 27) 55 rfl w.heap.size 3 i0 (.int .i64 0) 8 Try.underlying55 hi hz0 hz1 hz2 rfl lo m lcap (ivs (fun m => X (n * m + c)) m) rfl hrow ⟨wr.heap.size, 0, none⟩ 1 (.int .i64 (X T)) rfl hcell rfl (by unfold maxLen; omega) (by omega) hsz ?_))
      intro gg cap' w4 hown4 hkept
      have hst : Row w4 w.heap.size (some ⟨gg, 0, none⟩) cap' (fun m => X (n * m + c)) (m + 1) := by
        unfold Row
        rw [ivs_succ, ← HT.out]
        exact hown4
      have HST := hid hst
      have HB4 := hid (HBW.out.grown hkept.grown HBW.out.size (fun b hb => (HRW.out.lt b hb).1))
      have hq4 := (HC2.out w4 HB4.out).2
      clear hst hown4 hkept hrow hcell hsz bx hp hq
      go_wp2_with fail
      go_roundg (K - (m + 1))
      case measure => rw [HG.out]; omega
      case rel => exact ⟨m + 1, _, _, T + n, by omega, rfl, by go_num, hid (by have h1 : n * (m + 1) = n * m + n := Nat.mul_succ n m; have h2 := HT.out; omega), rfl, HST.out, HB4.out⟩
    · have hTL : ¬ T < L := by
        have h1 := HT.out
        have h2 := HL.out
        obtain rfl : m = K := by omega
        omega
      have hTi : ¬ (T : Int) < (L : Int) := by omega
      obtain rfl : m = K := by omega
      have HN : Hid (NewIs w.heap.size wr lo m (fun j => X (n * j + c))) := hid (own_new hr (fun j hj => by simp [ivs, hj]) (by omega))
      clear hr
      go_wp2_with fail
      go_ret
      exact ⟨_, _, rfl, HN.out, HB.out⟩
end Go.Proofs.Ytkdpalmdcnpnoaa.Pcm
namespace Go.Proofs.Ytkdpalmdcnpnoaa.Pcm
open Go.RowKit Gen

/-- Does a number of the list reach beyond the format? -/
def pfar (f : Fmt) (L : Nat) (X : Nat → Int) : Bool := anyB (fun i => beyond (2 ^ (f.bits.toNat - 1)) (X i)) L
def pcode (f : Fmt) (L : Nat) (X : Nat → Int) : Int := if ¬ f.right then 20 else if ¬ (L : Int) % f.ch = 0 then 22 else if pfar f L X = true then 21 else 0
/-- What the parts of a list are. -/
def PartOk (f : Fmt) (L : Nat) (X : Nat → Int) (d : Dat) : Prop := d.f = f ∧ (d.n : Int) = f.ch ∧ ∀ k, k < d.n → d.ln k = L / d.n ∧ d.X k = fun m => X (d.n * m + k)
/-- What stands while Part goes on. -/
structure Pn (w wr : World) (f : Fmt) (a : Option Addr) (L cap : Nat) : Prop where
  f0 : wr.cell? ⟨w.heap.size, 0, none⟩ = some (.int .i64 f.ch)
  f1 : wr.cell? ⟨w.heap.size, 1, none⟩ = some (.int .i64 f.bits)
  f2 : wr.cell? ⟨w.heap.size, 2, none⟩ = some (.int .i64 f.rate)
  l : wr.cell? ⟨w.heap.size + 1, 0, none⟩ = some (.slice a L cap)
  r : ∀ i v, (#[.int .i64 0, .int .i64 0, .int .i64 0, .slice none 0 0] : Array Value)[i]? = some v → wr.cell? ⟨w.heap.size + 1 + 1, i, none⟩ = some v
  z : ∀ i, wr.frozen? ⟨w.heap.size + 1 + 1, i, none⟩ = false
  below : Below w.heap.size w wr
  lt : w.heap.size + 3 ≤ wr.heap.size
set_option maxRecDepth 20000 in
theorem Pn.upto {w w1 w2 : World} {f : Fmt} {a : Option Addr} {L cap : Nat} (h : Pn w w1 f a L cap) (hb : Below w1.heap.size w1 w2) : Pn w w2 f a L cap := by
  have hlt := h.lt
  have hf : ∀ i, w2.cell? ⟨w.heap.size, i, none⟩ = w1.cell? ⟨w.heap.size, i, none⟩ := fun i => hb.cell (p := ⟨w.heap.size, i, none⟩) (show w.heap.size < _ by omega)
  exact ⟨(hf 0).trans h.f0, (hf 1).trans h.f1, (hf 2).trans h.f2, (hb.cell (p := ⟨w.heap.size + 1, 0, none⟩) (show w.heap.size + 1 < _ by omega)).trans h.l,
    fun i v hv => (hb.cell (p := ⟨w.heap.size + 1 + 1, i, none⟩) (show w.heap.size + 1 + 1 < _ by omega)).trans (h.r i v hv),
    fun i => (hb.frozen (p := ⟨w.heap.size + 1 + 1, i, none⟩) (show w.heap.size + 1 + 1 < _ by omega)).trans (h.z i), h.below.trans (hb.mono h.below.size), Nat.le_trans hlt hb.size⟩
set_option maxRecDepth 20000 in
theorem pn_new (w : World) (f : Fmt) (a : Option Addr) (L cap : Nat) : Pn w (((w.alloc (.cells #[.int .i64 f.ch, .int .i64 f.bits, .int .i64 f.rate] 23)).alloc (.cells #[.slice a L cap] 55)).alloc (.cells #[.int .i64 0, .int .i64 0, .int .i64 0, .slice none 0 0] 26)) f a L cap := by
  have h0 : ∀ i (v : Value), (#[.int .i64 f.ch, .int .i64 f.bits, .int .i64 f.rate] : Array Value)[i]? = some v → (((w.alloc (.cells #[.int .i64 f.ch, .int .i64 f.bits, .int .i64 f.rate] 23)).alloc (.cells #[.slice a L cap] 55)).alloc (.cells #[.int .i64 0, .int .i64 0, .int .i64 0, .slice none 0 0] 26)).cell? ⟨w.heap.size, i, none⟩ = some v := fun i v hv => by
    rw [cell_old _ _ _ _ (by simp <;> omega), cell_old _ _ _ _ (by simp), World.cell?_alloc_at _ _ _ _ rfl]; exact hv
  refine ⟨h0 0 _ rfl, h0 1 _ rfl, h0 2 _ rfl, ?_, fun i v hv => ?_, fun i => fz_new _ _ _ _ _ (by simp), ((below_new w _).alloc (by simp) _).alloc (by simp <;> omega) _, by simp⟩
  · rw [cell_old _ _ _ _ (by simp), World.cell?_alloc_at _ _ _ _ (by simp)]; rfl
  · rw [World.cell?_alloc_at _ _ _ _ (by simp)]; exact hv
set_option maxRecDepth 20000 in
theorem Pn.four {w wr : World} {f : Fmt} {a : Option Addr} {L cap : Nat} (h : Pn w wr f a L cap) : ∀ i, i < 4 → ∃ v, wr.cell? ⟨w.heap.size + 1 + 1, i, none⟩ = some v := fun i hi => by
  match i, hi with
  | 0, _ => exact ⟨_, h.r 0 _ rfl⟩
  | 1, _ => exact ⟨_, h.r 1 _ rfl⟩
  | 2, _ => exact ⟨_, h.r 2 _ rfl⟩
  | 3, _ => exact ⟨_, h.r 3 _ rfl⟩
end Go.Proofs.Ytkdpalmdcnpnoaa.Pcm
namespace Go.Proofs.Ytkdpalmdcnpnoaa.Pcm
open Go.RowKit Gen

set_option maxHeartbeats 3200000 in
set_option maxRecDepth 100000 in
theorem part_any (w : World) (f : Fmt) (a : Option Addr) (L cap b o : Nat) (X : Nat → Int) (hl : Isb w a L b o X) (hL : L ≤ 4294967296) : Calls Try.prog 92 #[f.v, .slice a L cap] w (SndNew w (pcode f L X) (PartOk f L X)) := by
  have HRT := hid fun w' => right_any f w'
  have HRE : Hid (f.right → ∀ w', Below w.heap.size w w' → Calls Try.prog 56 #[.slice a L cap, .int .i64 f.bits] w' fun e w'' => e = .returned (.bool (pfar f L X)) ∧ Below w'.heap.size w' w'') := hid fun hr w' hb => by
    obtain ⟨m, hm⟩ := Int.eq_ofNat_of_zero_le (show 0 ≤ f.bits - 1 by have := hr.2.1.1; omega)
    have e1 : f.bits = ((m + 1 : Nat) : Int) := by push_cast; omega
    have e2 : f.bits.toNat - 1 = m := by omega
    unfold pfar
    rw [e2, e1]
    exact reach_any w' a L cap X ⟨b, o, hl.below hb hl.lt⟩ m (2 ^ m) (by have := hr.2.1.2; omega) rfl
  have HJ0 := hid (pn_new w f a L cap)
  have HI := hid hl
  clear hl
  unfold Fmt.v at HRT
  show Calls Try.prog 92 #[.agg #[.int .i64 f.ch, .int .i64 f.bits, .int .i64 f.rate], .slice a L cap] w _
  go_enter Try.func92, Try.ntmps92
  go_wp2_with fail
  refine (HRT.out _).mono ?_
  rintro e w1 ⟨rfl, hb1⟩
  have HJ1 := hid (HJ0.out.upto hb1)
  clear hb1
  by_cases hR : f.right
  · rw [decide_eq_true hR]
    have hch1 := hR.1.1
    have hch8 := hR.1.2
    have hch0 : ¬ f.ch = 0 := by omega
    have HRR := hid hR
    have k0 := HJ1.out.f0
    have k1 := HJ1.out.f1
    have kl := HJ1.out.l
    by_cases hM : (L : Int) % f.ch = 0
    · have HM := hid hM
      have e1 : ((L : Int) % f.ch != 0) = false := by rw [hM]; rfl
      clear hR hM
      go_wp2_with fail
      refine (HRE.out HRR.out _ HJ1.out.below).mono ?_
      rintro e w2 ⟨rfl, hb2⟩
      have HJ2 := hid (HJ1.out.upto hb2)
      clear hb2 k0 k1 kl e1
      cases hF : pfar f L X with
      | true =>
        have HF := hid hF
        clear hF
        have HE := hid (show pcode f L X = 21 from by unfold pcode; rw [if_neg (fun g => g HRR.out), if_neg (fun g => g HM.out), if_pos HF.out])
        have r0 := HJ2.out.r 0 _ rfl
        have r1 := HJ2.out.r 1 _ rfl
        have r2 := HJ2.out.r 2 _ rfl
        have r3 := HJ2.out.r 3 _ rfl
        have z0 := HJ2.out.z 0
        have z1 := HJ2.out.z 1
        have z2 := HJ2.out.z 2
        have z3 := HJ2.out.z 3
        have hfs := four_set w2 (w.heap.size + 1 + 1) (.int .i64 0) (.int .i64 0) (.int .i64 0) (.slice none 0 0) HJ2.out.four
        obtain ⟨y0, y1, y2, y3, _⟩ := hfs
        go_wp2_with fail
        refine bodyPost_ret (v := .tuple #[.agg #[.int .i64 0, .int .i64 0, .int .i64 0, .slice none 0 0], .int .i64 21]) ?_ rfl ?_
        · rw [results_cell_tmp (p := 4) (u := 5) (ty := 26) (by kernel_rfl)]
          go_simp
        · exact ⟨Dat.nil, by rw [HE.out]; rfl, nil_snd _, set4_below HJ2.out.below (by omega) _ _ _ _, fun h => absurd h (by rw [HE.out]; decide), fun _ => rfl⟩
      | false =>
        have HF := hid hF
        clear hF
        have HE := hid (show pcode f L X = 0 from by unfold pcode; rw [if_neg (fun g => g HRR.out), if_neg (fun g => g HM.out), if_neg (by rw [HF.out]; decide)])
        obtain ⟨n, hn⟩ := Int.eq_ofNat_of_zero_le (show 0 ≤ f.ch by omega)
        have HN := hid hn
        have HLK : Hid (L = n * (L / n)) := hid (by
          have h1 := HM.out
          rw [HN.out] at h1
          have h2 : ((L % n : Nat) : Int) = 0 := by rw [← h1]; exact Int.natCast_emod L n
          have h3 := Nat.div_add_mod L n
          omega)
        have HBU := hid (build_any 97 #[.pointer (some ⟨w.heap.size + 1, 0, none⟩), .pointer (some ⟨w.heap.size, 0, none⟩)] (fun args w => Try.call97 args w) w2 f n HN.out (by omega) (by omega) (fun _ => L / n) (fun k m => X (n * m + k))
          (fun k hk w' hw' => part1_any w' k n (L / n) L (w.heap.size + 1) w.heap.size a cap b o X (by omega) hk (by have := Nat.div_le_self L n; omega) HLK.out (HJ2.out.upto hw').l (by rw [← HN.out]; exact (HJ2.out.upto hw').f0) (HI.out.below (HJ2.out.below.trans (hw'.mono HJ2.out.below.size)) HI.out.lt)))
        unfold Fmt.v at HBU
        have r0 := HJ2.out.r 0 _ rfl
        have r1 := HJ2.out.r 1 _ rfl
        have r2 := HJ2.out.r 2 _ rfl
        have r3 := HJ2.out.r 3 _ rfl
        have z0 := HJ2.out.z 0
        have z1 := HJ2.out.z 1
        have z2 := HJ2.out.z 2
        have z3 := HJ2.out.z 3
        have k0 := HJ2.out.f0
        have k1 := HJ2.out.f1
        have k2 := HJ2.out.f2
        clear hn hch1 hch8 hch0
        go_wp2_with fail
        refine HBU.out.mono ?_
        rintro e w3 ⟨s, rfl, hdf, hdn, hdl, hdx, hds, hdw, hb3⟩
        have HJ3 := hid (HJ2.out.upto hb3)
        have HDS := hid hds
        have HW := hid hdw
        have HOK : Hid (PartOk f L X s) := hid ⟨hdf, by rw [hdn, HN.out], fun k hk => ⟨by rw [hdl k (by omega), hdn], by rw [hdx k (by omega), hdn]⟩⟩
        have hfs := four_set w3 (w.heap.size + 1 + 1) (.int .i64 s.f.ch) (.int .i64 s.f.bits) (.int .i64 s.f.rate) (.slice s.a s.n s.cap) HJ3.out.four
        obtain ⟨y0, y1, y2, y3, _⟩ := hfs
        clear r0 r1 r2 r3 z0 z1 z2 z3 k0 k1 k2 hb3 hds hdw hdf hdn hdl hdx
        have r0 := HJ3.out.r 0 _ rfl
        have r1 := HJ3.out.r 1 _ rfl
        have r2 := HJ3.out.r 2 _ rfl
        have r3 := HJ3.out.r 3 _ rfl
        have z0 := HJ3.out.z 0
        have z1 := HJ3.out.z 1
        have z2 := HJ3.out.z 2
        have z3 := HJ3.out.z 3
        unfold Dat.v
        go_wp2_with fail
        refine bodyPost_ret (v := .tuple #[.agg #[.int .i64 s.f.ch, .int .i64 s.f.bits, .int .i64 s.f.rate, .slice s.a s.n s.cap], .int .i64 0]) ?_ rfl ?_
        · rw [results_cell_tmp (p := 4) (u := 5) (ty := 26) (by kernel_rfl)]
          go_simp
        · exact ⟨s, by rw [HE.out]; rfl, HDS.out.set4 HW.out (by have := HJ2.out.lt; omega) HJ3.out.four _ _ _ _, set4_below HJ3.out.below (by omega) _ _ _ _, fun _ => ⟨HOK.out, HW.out.set4 (by have := HJ2.out.lt; omega) (by have := HJ2.out.lt; omega) _ _ _ _⟩, fun h => absurd HE.out h⟩
    · have HM := hid hM
      have e1 : ((L : Int) % f.ch != 0) = true := bne_iff_ne.2 hM
      clear hR hM
      have HE := hid (show pcode f L X = 22 from by unfold pcode; rw [if_neg (fun g => g HRR.out), if_pos HM.out])
      have r0 := HJ1.out.r 0 _ rfl
      have r1 := HJ1.out.r 1 _ rfl
      have r2 := HJ1.out.r 2 _ rfl
      have r3 := HJ1.out.r 3 _ rfl
      have z0 := HJ1.out.z 0
      have z1 := HJ1.out.z 1
      have z2 := HJ1.out.z 2
      have z3 := HJ1.out.z 3
      have hfs := four_set w1 (w.heap.size + 1 + 1) (.int .i64 0) (.int .i64 0) (.int .i64 0) (.slice none 0 0) HJ1.out.four
      obtain ⟨y0, y1, y2, y3, _⟩ := hfs
      go_wp2_with fail
      refine bodyPost_ret (v := .tuple #[.agg #[.int .i64 0, .int .i64 0, .int .i64 0, .slice none 0 0], .int .i64 22]) ?_ rfl ?_
      · rw [results_cell_tmp (p := 4) (u := 5) (ty := 26) (by kernel_rfl)]
        go_simp
      · exact ⟨Dat.nil, by rw [HE.out]; rfl, nil_snd _, set4_below HJ1.out.below (by omega) _ _ _ _, fun h => absurd h (by rw [HE.out]; decide), fun _ => rfl⟩
  · rw [decide_eq_false hR]
    have HRR := hid hR
    clear hR
    have HE := hid (show pcode f L X = 20 from by unfold pcode; rw [if_pos HRR.out])
    have r0 := HJ1.out.r 0 _ rfl
    have r1 := HJ1.out.r 1 _ rfl
    have r2 := HJ1.out.r 2 _ rfl
    have r3 := HJ1.out.r 3 _ rfl
    have z0 := HJ1.out.z 0
    have z1 := HJ1.out.z 1
    have z2 := HJ1.out.z 2
    have z3 := HJ1.out.z 3
    have hfs := four_set w1 (w.heap.size + 1 + 1) (.int .i64 0) (.int .i64 0) (.int .i64 0) (.slice none 0 0) HJ1.out.four
    obtain ⟨y0, y1, y2, y3, _⟩ := hfs
    go_wp2_with fail
    refine bodyPost_ret (v := .tuple #[.agg #[.int .i64 0, .int .i64 0, .int .i64 0, .slice none 0 0], .int .i64 20]) ?_ rfl ?_
    · rw [results_cell_tmp (p := 4) (u := 5) (ty := 26) (by kernel_rfl)]
      go_simp
    · exact ⟨Dat.nil, by rw [HE.out]; rfl, nil_snd _, set4_below HJ1.out.below (by omega) _ _ _ _, fun h => absurd h (by rw [HE.out]; decide), fun _ => rfl⟩
end Go.Proofs.Ytkdpalmdcnpnoaa.Pcm
namespace Go.Proofs.Ytkdpalmdcnpnoaa.Pcm
open Go.RowKit Gen

structure Pr (w wr : World) (f : Fmt) : Prop where
  f0 : wr.cell? ⟨w.heap.size, 0, none⟩ = some (.int .i64 f.ch)
  f1 : wr.cell? ⟨w.heap.size, 1, none⟩ = some (.int .i64 f.bits)
  f2 : wr.cell? ⟨w.heap.size, 2, none⟩ = some (.int .i64 f.rate)
  r : ∀ i v, (#[.int .i64 0, .int .i64 0, .int .i64 0, .slice none 0 0] : Array Value)[i]? = some v → wr.cell? ⟨w.heap.size + 1, i, none⟩ = some v
  z : ∀ i, wr.frozen? ⟨w.heap.size + 1, i, none⟩ = false
  below : Below w.heap.size w wr
  lt : w.heap.size + 2 ≤ wr.heap.size
set_option maxRecDepth 20000 in
theorem Pr.upto {w w1 w2 : World} {f : Fmt} (h : Pr w w1 f) (hb : Below w1.heap.size w1 w2) : Pr w w2 f := by
  have hlt := h.lt
  have hf : ∀ i, w2.cell? ⟨w.heap.size, i, none⟩ = w1.cell? ⟨w.heap.size, i, none⟩ := fun i => hb.cell (p := ⟨w.heap.size, i, none⟩) (show w.heap.size < _ by omega)
  exact ⟨(hf 0).trans h.f0, (hf 1).trans h.f1, (hf 2).trans h.f2,
    fun i v hv => (hb.cell (p := ⟨w.heap.size + 1, i, none⟩) (show w.heap.size + 1 < _ by omega)).trans (h.r i v hv),
    fun i => (hb.frozen (p := ⟨w.heap.size + 1, i, none⟩) (show w.heap.size + 1 < _ by omega)).trans (h.z i), h.below.trans (hb.mono h.below.size), Nat.le_trans hlt hb.size⟩
set_option maxRecDepth 20000 in
theorem pr_new (w : World) (f : Fmt) : Pr w ((w.alloc (.cells #[.int .i64 f.ch, .int .i64 f.bits, .int .i64 f.rate] 23)).alloc (.cells #[.int .i64 0, .int .i64 0, .int .i64 0, .slice none 0 0] 26)) f := by
  have h0 : ∀ i (v : Value), (#[.int .i64 f.ch, .int .i64 f.bits, .int .i64 f.rate] : Array Value)[i]? = some v → ((w.alloc (.cells #[.int .i64 f.ch, .int .i64 f.bits, .int .i64 f.rate] 23)).alloc (.cells #[.int .i64 0, .int .i64 0, .int .i64 0, .slice none 0 0] 26)).cell? ⟨w.heap.size, i, none⟩ = some v := fun i v hv => by
    rw [cell_old _ _ _ _ (by simp), World.cell?_alloc_at _ _ _ _ rfl]; exact hv
  refine ⟨h0 0 _ rfl, h0 1 _ rfl, h0 2 _ rfl, fun i v hv => ?_, fun i => fz_new _ _ _ _ _ (by simp), (below_new w _).alloc (by simp) _, by simp⟩
  rw [World.cell?_alloc_at _ _ _ _ (by simp)]; exact hv
set_option maxRecDepth 20000 in
theorem Pr.four {w wr : World} {f : Fmt} (h : Pr w wr f) : ∀ i, i < 4 → ∃ v, wr.cell? ⟨w.heap.size + 1, i, none⟩ = some v := fun i hi => by
  match i, hi with
  | 0, _ => exact ⟨_, h.r 0 _ rfl⟩
  | 1, _ => exact ⟨_, h.r 1 _ rfl⟩
  | 2, _ => exact ⟨_, h.r 2 _ rfl⟩
  | 3, _ => exact ⟨_, h.r 3 _ rfl⟩
set_option maxRecDepth 20000 in
theorem cell_far (w : World) (g k b i : Nat) (v : Value) (h : b ≠ g) : (w.setCell ⟨g, k, none⟩ v).cell? ⟨b, i, none⟩ = w.cell? ⟨b, i, none⟩ := World.cell?_setCell_other _ _ _ _ (fun e => h (congrArg Addr.block e).symm)
set_option maxRecDepth 20000 in
theorem Pr.set {w wr : World} {f : Fmt} (h : Pr w wr f) {g k : Nat} (hg : w.heap.size + 2 ≤ g) (v : Value) : Pr w (wr.setCell ⟨g, k, none⟩ v) f :=
  ⟨(cell_far _ _ _ _ _ _ (by omega)).trans h.f0, (cell_far _ _ _ _ _ _ (by omega)).trans h.f1, (cell_far _ _ _ _ _ _ (by omega)).trans h.f2, fun i v hv => (cell_far _ _ _ _ _ _ (by omega)).trans (h.r i v hv),
    fun i => by rw [World.frozen?_setCell]; exact h.z i, h.below.setCell (p := ⟨g, k, none⟩) (show w.heap.size ≤ g by omega) _, by simp; exact h.lt⟩
/-- Sound of n lists of K numbers, into which the first t of a list are put, frame by frame. -/
structure Pt (w wr : World) (f : Fmt) (q : Nat) (d : Dat) (G : Nat → Nat) (n K : Nat) (X : Nat → Int) (t : Nat) : Prop where
  pr : Pr w wr f
  bx : Bx wr q d
  dn : d.n = n
  df : d.f = f
  da : d.a = some ⟨d.b, d.off, none⟩
  db : w.heap.size + 2 ≤ d.b ∧ d.b < wr.heap.size
  hd : ∀ i, i < n → wr.cell? ⟨d.b, d.off + i, none⟩ = some (.slice (some ⟨G i, 0, none⟩) K (d.lc i))
  el : ∀ i m, i < n → m < K → wr.cell? ⟨G i, m, none⟩ = some (.int .i64 (if n * m + i < t then X (n * m + i) else 0))
  fz : ∀ i m, i < n → wr.frozen? ⟨G i, m, none⟩ = false
  sep : ∀ i, i < n → G i ≠ d.b ∧ G i ≠ q ∧ w.heap.size + 2 ≤ G i ∧ G i < wr.heap.size
  inj : ∀ i j, i < n → j < n → G i = G j → i = j
set_option maxRecDepth 20000 in
theorem Pt.step {w wr : World} {f : Fmt} {q : Nat} {d : Dat} {G : Nat → Nat} {n K : Nat} {X : Nat → Int} {t : Nat} (h : Pt w wr f q d G n K X t) {i0 m0 : Nat} (hi : i0 < n) (hm : m0 < K) (ht : t = n * m0 + i0) :
    Pt w (wr.setCell ⟨G i0, m0, none⟩ (.int .i64 (X t))) f q d G n K X (t + 1) := by
  have hs := h.sep i0 hi
  have hc : ∀ b i, b ≠ G i0 → (wr.setCell ⟨G i0, m0, none⟩ (.int .i64 (X t))).cell? ⟨b, i, none⟩ = wr.cell? ⟨b, i, none⟩ := fun b i hb => cell_far _ _ _ _ _ _ hb
  refine ⟨h.pr.set hs.2.2.1 _, ⟨(hc q _ (Ne.symm hs.2.1)).trans h.bx.c0, (hc q _ (Ne.symm hs.2.1)).trans h.bx.c1, (hc q _ (Ne.symm hs.2.1)).trans h.bx.c2, (hc q _ (Ne.symm hs.2.1)).trans h.bx.c3⟩, h.dn, h.df, h.da, by have := h.db; simp; omega,
    fun i hi' => (hc _ _ (Ne.symm hs.1)).trans (h.hd i hi'), fun i m hi' hm' => ?_, fun i m hi' => by rw [World.frozen?_setCell]; exact h.fz i m hi', fun i hi' => by have := h.sep i hi'; simp; omega, h.inj⟩
  have ho := h.el i m hi' hm'
  by_cases e : i = i0 ∧ m = m0
  · obtain ⟨rfl, rfl⟩ := e
    rw [World.cell?_setCell_same _ _ _ ho, if_pos (by omega), ht]
  · have hne : n * m + i ≠ t := fun e2 => e (by
      rw [ht] at e2
      have h1 : (n * m + i) % n = i := by rw [Nat.mul_add_mod, Nat.mod_eq_of_lt hi']
      have h2 : (n * m0 + i0) % n = i0 := by rw [Nat.mul_add_mod, Nat.mod_eq_of_lt hi]
      have h3 : i = i0 := by rw [← h1, e2, h2]
      have h4 : n * m = n * m0 := by omega
      exact ⟨h3, Nat.eq_of_mul_eq_mul_left (by omega) h4⟩)
    have h5 : (wr.setCell ⟨G i0, m0, none⟩ (.int .i64 (X t))).cell? ⟨G i, m, none⟩ = wr.cell? ⟨G i, m, none⟩ := by
      by_cases e3 : i = i0
      · exact World.cell?_setCell_other _ _ _ _ (fun e4 => e ⟨e3, (congrArg Addr.off e4).symm⟩)
      · exact hc _ _ fun e4 => e3 (h.inj i i0 hi' hi e4)
    rw [h5, ho]
    by_cases e6 : n * m + i < t
    · rw [if_pos e6, if_pos (by omega)]
    · rw [if_neg e6, if_neg (by omega)]
set_option maxRecDepth 20000 in
theorem Pt.snd {w wr : World} {f : Fmt} {q : Nat} {d : Dat} {G : Nat → Nat} {n K L : Nat} {X : Nat → Int} (h : Pt w wr f q d G n K X L) (hL : L = n * K) (hn : 0 < n) (h8 : n ≤ 8) (hK : K ≤ 4294967296) (hf : f.ch = (n : Int)) :
    ∃ s : Dat, s.v = d.v ∧ PartOk f L X s ∧ Snd wr s ∧ NewSnd (w.heap.size + 2) wr s := by
  have hin : ∀ i m, i < n → m < K → n * m + i < L := fun i m hi hm => by rw [hL]; exact place_lt hm hi
  have hisb : ∀ i, i < n → Isb wr (some ⟨G i, 0, none⟩) K (G i) 0 (fun m => X (n * m + i)) := fun i hi =>
    ⟨fun _ => rfl, fun m hm => by rw [Nat.zero_add, h.el i m hi hm, if_pos (hin i m hi hm)], fun _ => (h.sep i hi).2.2.2, by omega⟩
  refine ⟨⟨d.f, d.a, d.n, d.cap, d.b, d.off, fun i => some ⟨G i, 0, none⟩, fun _ => K, d.lc, fun k m => X (n * m + k)⟩, rfl, ⟨h.df, ?_, fun k hk => ⟨?_, ?_⟩⟩, ⟨fun _ => h.da, fun i hi => ?_, fun i hi => ?_, fun _ => h.db.2, ?_⟩, h.db.1, fun i hi => ?_⟩
  · show (d.n : Int) = f.ch
    rw [h.dn, hf]
  · show K = L / d.n
    rw [h.dn, hL, Nat.mul_div_cancel_left _ hn]
  · show (fun m => X (n * m + k)) = fun m => X (d.n * m + k)
    rw [h.dn]
  · have hi' : i < d.n := hi
    rw [h.dn] at hi'
    exact h.hd i hi'
  · have hi' : i < d.n := hi
    rw [h.dn] at hi'
    exact ⟨_, _, hisb i hi'⟩
  · show d.n ≤ _
    rw [h.dn]; omega
  · have hi' : i < d.n := hi
    rw [h.dn] at hi'
    exact ⟨_, _, hisb i hi', fun _ => (h.sep i hi').2.2.1⟩
set_option maxRecDepth 20000 in
/-- Of silence it begins. -/
theorem pt_new {w wr : World} {f : Fmt} {q B n K : Nat} {d : Dat} {G : Nat → Nat} {X : Nat → Int} (hpr : Pr w wr f) (hbx : Bx wr q d) (hs : Snd wr d) (hns : NewSnd B wr d) (ho : Own B wr d G) (hB : w.heap.size + 2 ≤ B) (hq : ∀ i, i < n → G i ≠ q) (hn : 0 < n) (hdn : d.n = n) (hdf : d.f = f) (hl : ∀ i, i < d.n → d.ln i = K ∧ d.X i = fun _ => 0) :
    Pt w wr f q d G n K X 0 := by
  have h0 : 0 < d.n := by omega
  refine ⟨hpr, hbx, hdn, hdf, hs.addr h0, ⟨by have := hns.1; omega, hs.lt h0⟩, fun i hi => ?_, fun i m hi hm => ?_, fun i m hi => ho.fz i (by omega) m, fun i hi => ⟨ho.far i (by omega), hq i hi, by have := ho.lt i (by omega); omega, (ho.lt i (by omega)).2⟩, fun i j hi hj e => ?_⟩
  · rw [hs.c i (by omega), ho.at_ i (by omega), (hl i (by omega)).1]
  · obtain ⟨b, o, hI⟩ := hs.l i (by omega)
    have hk := (hl i (by omega)).1
    have e := hI.addr (by omega)
    rw [ho.at_ i (by omega)] at e
    cases e
    have := hI.c m (by omega)
    rw [(hl i (by omega)).2] at this
    rw [if_neg (by omega)]
    simpa using this
  · rcases Nat.lt_trichotomy i j with h | h | h
    · have := ho.mono i j h (by omega); omega
    · exact h
    · have := ho.mono j i h (by omega); omega
end Go.Proofs.Ytkdpalmdcnpnoaa.Pcm
namespace Go.Proofs.Ytkdpalmdcnpnoaa.Pcm
open Go.RowKit Gen


set_option maxHeartbeats 1600000 in
set_option maxRecDepth 100000 in
theorem rpart_wrong (w : World) (f : Fmt) (a : Option Addr) (L cap : Nat) (X : Nat → Int) (hR : ¬ f.right) : Calls Try.prog 79 #[f.v, .slice a L cap] w (SndNew w (pcode f L X) (PartOk f L X)) := by
  have HRT := hid fun w' => rright_any f w'
  have HJ0 := hid (pr_new w f)
  have HE := hid (show pcode f L X = 20 from by unfold pcode; rw [if_pos hR])
  rw [decide_eq_false hR] at HRT
  clear hR
  unfold Fmt.v at HRT
  show Calls Try.prog 79 #[.agg #[.int .i64 f.ch, .int .i64 f.bits, .int .i64 f.rate], .slice a L cap] w _
  go_enter Try.func79, Try.ntmps79
  go_wp2_with fail
  refine (HRT.out _).mono ?_
  rintro e w1 ⟨rfl, hb1⟩
  have HJ1 := hid (HJ0.out.upto hb1)
  clear hb1
  have r0 := HJ1.out.r 0 _ rfl
  have r1 := HJ1.out.r 1 _ rfl
  have r2 := HJ1.out.r 2 _ rfl
  have r3 := HJ1.out.r 3 _ rfl
  have z0 := HJ1.out.z 0
  have z1 := HJ1.out.z 1
  have z2 := HJ1.out.z 2
  have z3 := HJ1.out.z 3
  obtain ⟨y0, y1, y2, y3, _⟩ := four_set w1 (w.heap.size + 1) (.int .i64 0) (.int .i64 0) (.int .i64 0) (.slice none 0 0) HJ1.out.four
  go_wp2_with fail
  refine bodyPost_ret (v := .tuple #[.agg #[.int .i64 0, .int .i64 0, .int .i64 0, .slice none 0 0], .int .i64 20]) ?_ rfl ?_
  · rw [results_cell_tmp (p := 4) (u := 5) (ty := 26) (by kernel_rfl)]
    go_simp
  · exact ⟨Dat.nil, by rw [HE.out]; rfl, nil_snd _, set4_below HJ1.out.below (by omega) _ _ _ _, fun h => absurd h (by rw [HE.out]; decide), fun _ => rfl⟩

set_option maxRecDepth 20000 in
theorem rem_nat (L n : Nat) : (L : Int) % (n : Int) = ((L % n : Nat) : Int) := (Int.natCast_emod L n).symm

set_option maxRecDepth 20000 in
theorem wr_small (k : Nat) (h : k ≤ 1048576) : IntKind.i64.wrap (k : Int) = (k : Int) ∧ wrap64 (k : Int) = (k : Int) := ⟨IntWalk.i64_in _ (by omega), w64 _ (by omega) (by omega)⟩
set_option maxRecDepth 20000 in
theorem Pt.upto {w wr w2 : World} {f : Fmt} {q : Nat} {d : Dat} {G : Nat → Nat} {n K : Nat} {X : Nat → Int} {t : Nat} (h : Pt w wr f q d G n K X t) (hb : Below wr.heap.size wr w2) : Pt w w2 f q d G n K X t := by
  have hs := hb.size
  refine ⟨h.pr.upto hb, h.bx.below hb, h.dn, h.df, h.da, by have := h.db; omega, fun i hi => (hb.cell (p := ⟨d.b, d.off + i, none⟩) h.db.2).trans (h.hd i hi), fun i m hi hm => (hb.cell (p := ⟨G i, m, none⟩) (h.sep i hi).2.2.2).trans (h.el i m hi hm),
    fun i m hi => (hb.frozen (p := ⟨G i, m, none⟩) (h.sep i hi).2.2.2).trans (h.fz i m hi), fun i hi => by have := h.sep i hi; omega, h.inj⟩

set_option maxHeartbeats 3200000 in
set_option maxRecDepth 100000 in
theorem rpart_right (w : World) (n : Nat) (bits rate : Int) (a : Option Addr) (L cap b o : Nat) (X : Nat → Int) (hl : Isb w a L b o X) (hL : L ≤ 1048576) (hR : Fmt.right ⟨(n : Int), bits, rate⟩) : Calls Try.prog 79 #[Fmt.v ⟨(n : Int), bits, rate⟩, .slice a L cap] w (SndNew w (pcode ⟨(n : Int), bits, rate⟩ L X) (PartOk ⟨(n : Int), bits, rate⟩ L X)) := by
  have HRT := hid fun w' => rright_any ⟨(n : Int), bits, rate⟩ w'
  rw [decide_eq_true hR] at HRT
  have hch1 : (1 : Int) ≤ (n : Int) := hR.1.1
  have hch8 : (n : Int) ≤ 8 := hR.1.2
  obtain ⟨m, hm⟩ := Int.eq_ofNat_of_zero_le (show 0 ≤ bits - 1 by have := hR.2.1.1; simp only [] at this; omega)
  have hmb : m ≤ 61 := by have := hR.2.1.2; simp only [] at this; omega
  have hbm : bits = ((m + 1 : Nat) : Int) := by push_cast; omega
  have HFT : Hid (∀ x w', Calls Try.prog 50 #[.int .i64 x, .int .i64 bits] w' fun e w'' => e = .returned (.bool (!beyond (2 ^ m) x)) ∧ w' = w'') := hid fun x w' => by rw [hbm]; exact fits_any x m (2 ^ m) hmb rfl w'
  have HFAR : Hid (pfar ⟨(n : Int), bits, rate⟩ L X = anyB (fun i => beyond (2 ^ m) (X i)) L) := hid (by unfold pfar; simp only []; rw [hbm]; rfl)
  have HRR := hid hR
  have HJ0 := hid (pr_new w ⟨(n : Int), bits, rate⟩)
  have HI := hid hl
  have HN : Hid (0 < n ∧ n ≤ 8) := hid (by omega)
  clear hl hR hm hmb hbm
  unfold Fmt.v at HRT
  show Calls Try.prog 79 #[.agg #[.int .i64 (n : Int), .int .i64 bits, .int .i64 rate], .slice a L cap] w _
  have hn0 : ¬ (n : Int) = 0 := by omega
  go_enter Try.func79, Try.ntmps79
  go_wp2_with fail
  refine (HRT.out _).mono ?_
  rintro e w1 ⟨rfl, hb1⟩
  have HJ1 := hid (HJ0.out.upto hb1)
  clear hb1
  have k0 := HJ1.out.f0
  by_cases hM : L % n = 0
  · have e1 : ((L : Int) % (n : Int) != 0) = false := by rw [rem_nat, hM]; rfl
    obtain ⟨K, hK⟩ : ∃ K, K = L / n := ⟨_, rfl⟩
    have HLK : Hid (L = n * K) := hid (by rw [hK]; have := Nat.div_add_mod L n; omega)
    have hK2 : K ≤ 1048576 := by rw [hK]; have := Nat.div_le_self L n; omega
    have HKB := hid hK2
    have hquo : Int.tdiv (L : Int) (n : Int) = (K : Int) := by
      rw [HLK.out]
      push_cast
      exact Int.mul_tdiv_cancel_left _ hn0
    have HNE : Hid (¬ ¬ (L : Int) % (n : Int) = 0) := hid (by rw [rem_nat, hM]; decide)
    clear hM hK hK2
    have HSI := hid fun w' => rsil2_any w' ⟨(n : Int), bits, rate⟩ n K rfl HN.out.2 HKB.out
    unfold Fmt.v at HSI
    have k1 := HJ1.out.f1
    have k2 := HJ1.out.f2
    go_wp2_with fail
    clear k0 k1 k2
    go_cut [6] (fun p wx => ∃ (q : Nat) (d : Dat) (G : Nat → Nat), p = .pointer (some ⟨q, 0, none⟩) ∧ Pt w wx ⟨(n : Int), bits, rate⟩ q d G n K X 0)
    case first =>
      have HS : Hid (∀ w', Below w1.heap.size w1 w' → (fun w' => w'.cell? ⟨w.heap.size, 0, none⟩ = some (.int .i64 (n : Int)) ∧ w'.cell? ⟨w.heap.size, 1, none⟩ = some (.int .i64 bits) ∧ w'.cell? ⟨w.heap.size, 2, none⟩ = some (.int .i64 rate)) w') := hid fun w' hw' => ⟨(HJ1.out.upto hw').f0, (HJ1.out.upto hw').f1, (HJ1.out.upto hw').f2⟩
      have hkk := HKB.out
      have hn1 : ¬ n = 0 := by have := HN.out.1; omega
      have hn2 : (n : Int) ≠ 0 := hn0
      have hw1 : IntKind.i64.wrap (K : Int) = (K : Int) := IntWalk.i64_in _ (by omega)
      have hw2 : wrap64 (K : Int) = (K : Int) := w64 _ (by omega) (by omega)
      have hw3 : IntKind.i64.wrap (Int.tdiv (L : Int) (n : Int)) = (K : Int) := by rw [hquo]; exact hw1
      have bd : Below w1.heap.size w1 w1.drew := (Below.refl _ _).drew
      have bda : Below w1.heap.size w1 ((w1.alloc (.cells #[.int .i64 0, .int .i64 0, .int .i64 0, .slice none 0 0] 26)).drew) := (below_new w1 _).drew
      have S1 := HS.out _ bd
      have S1a := HS.out _ bda
      dsimp only at S1
      have p0 : ((w1.alloc (.cells #[.int .i64 0, .int .i64 0, .int .i64 0, .slice none 0 0] 26)).drew).cell? ⟨w1.heap.size, 0, none⟩ = some (.int .i64 0) := ((World.cell?_alloc_at _ _ _ _ rfl).trans rfl)
      have m0 : ((w1.alloc (.cells #[.int .i64 0, .int .i64 0, .int .i64 0, .slice none 0 0] 26)).drew).frozen? ⟨w1.heap.size, 0, none⟩ = false := fz_new _ _ _ _ _ rfl
      have p1 : ((w1.alloc (.cells #[.int .i64 0, .int .i64 0, .int .i64 0, .slice none 0 0] 26)).drew).cell? ⟨w1.heap.size, 1, none⟩ = some (.int .i64 0) := ((World.cell?_alloc_at _ _ _ _ rfl).trans rfl)
      have m1 : ((w1.alloc (.cells #[.int .i64 0, .int .i64 0, .int .i64 0, .slice none 0 0] 26)).drew).frozen? ⟨w1.heap.size, 1, none⟩ = false := fz_new _ _ _ _ _ rfl
      have p2 : ((w1.alloc (.cells #[.int .i64 0, .int .i64 0, .int .i64 0, .slice none 0 0] 26)).drew).cell? ⟨w1.heap.size, 2, none⟩ = some (.int .i64 0) := ((World.cell?_alloc_at _ _ _ _ rfl).trans rfl)
      have m2 : ((w1.alloc (.cells #[.int .i64 0, .int .i64 0, .int .i64 0, .slice none 0 0] 26)).drew).frozen? ⟨w1.heap.size, 2, none⟩ = false := fz_new _ _ _ _ _ rfl
      have p3 : ((w1.alloc (.cells #[.int .i64 0, .int .i64 0, .int .i64 0, .slice none 0 0] 26)).drew).cell? ⟨w1.heap.size, 3, none⟩ = some (.slice none 0 0) := ((World.cell?_alloc_at _ _ _ _ rfl).trans rfl)
      have m3 : ((w1.alloc (.cells #[.int .i64 0, .int .i64 0, .int .i64 0, .slice none 0 0] 26)).drew).frozen? ⟨w1.heap.size, 3, none⟩ = false := fz_new _ _ _ _ _ rfl
      go_region_held3 (fun w' => w'.cell? ⟨w.heap.size, 0, none⟩ = some (.int .i64 (n : Int)) ∧ w'.cell? ⟨w.heap.size, 1, none⟩ = some (.int .i64 bits) ∧ w'.cell? ⟨w.heap.size, 2, none⟩ = some (.int .i64 rate))
        (first | with_reducible exact S1 | with_reducible exact S1a | with_reducible exact S2 | with_reducible exact S2a | with_reducible exact S2b | with_reducible exact HS.out _ (set4_below b9 (Nat.le_refl _) _ _ _ _) | go_keep)
        ((first
          | (go_at_call 24; (with_reducible refine (HSI.out w1.drew).mono ?_); rintro e w9 ⟨d, G, rfl, hs, hns, hb9, hdf, hdn, hdl, hown⟩; have HQ := hid (And.intro hs (And.intro hns (And.intro hdf (And.intro hdn (And.intro hdl hown))))); clear hs hns hdf hdn hdl hown; unfold Dat.v; have b9 := bd.trans hb9; have b9a := b9.alloc b9.size (.cells #[.int .i64 0, .int .i64 0, .int .i64 0, .slice none 0 0] 26); have S2 := HS.out _ b9; have S2a := HS.out _ b9a; have b9b := b9.alloc b9.size (.cells #[.int .i64 d.f.ch, .int .i64 d.f.bits, .int .i64 d.f.rate, .slice d.a d.n d.cap] 26); have S2b := HS.out _ b9b)
          | (go_at_call 24; (with_reducible refine (HSI.out ((w1.alloc (.cells #[.int .i64 0, .int .i64 0, .int .i64 0, .slice none 0 0] 26)).drew)).mono ?_); rintro e w9 ⟨d, G, rfl, hs, hns, hb9, hdf, hdn, hdl, hown⟩; have HQ := hid (And.intro hs (And.intro hns (And.intro hdf (And.intro hdn (And.intro hdl hown))))); clear hs hns hdf hdn hdl hown; unfold Dat.v; have b9 := bda.trans (hb9.mono bda.size); have S2 := HS.out _ b9; have q0 : w9.cell? ⟨w1.heap.size, 0, none⟩ = some (.int .i64 0) := (hb9.cell (p := ⟨w1.heap.size, 0, none⟩) (World.block_lt_of_cell? _ _ p0)).trans p0; have g0 : w9.frozen? ⟨w1.heap.size, 0, none⟩ = false := (hb9.frozen (p := ⟨w1.heap.size, 0, none⟩) (World.block_lt_of_cell? _ _ p0)).trans m0; have q1 : w9.cell? ⟨w1.heap.size, 1, none⟩ = some (.int .i64 0) := (hb9.cell (p := ⟨w1.heap.size, 1, none⟩) (World.block_lt_of_cell? _ _ p1)).trans p1; have g1 : w9.frozen? ⟨w1.heap.size, 1, none⟩ = false := (hb9.frozen (p := ⟨w1.heap.size, 1, none⟩) (World.block_lt_of_cell? _ _ p1)).trans m1; have q2 : w9.cell? ⟨w1.heap.size, 2, none⟩ = some (.int .i64 0) := (hb9.cell (p := ⟨w1.heap.size, 2, none⟩) (World.block_lt_of_cell? _ _ p2)).trans p2; have g2 : w9.frozen? ⟨w1.heap.size, 2, none⟩ = false := (hb9.frozen (p := ⟨w1.heap.size, 2, none⟩) (World.block_lt_of_cell? _ _ p2)).trans m2; have q3 : w9.cell? ⟨w1.heap.size, 3, none⟩ = some (.slice none 0 0) := (hb9.cell (p := ⟨w1.heap.size, 3, none⟩) (World.block_lt_of_cell? _ _ p3)).trans p3; have g3 : w9.frozen? ⟨w1.heap.size, 3, none⟩ = false := (hb9.frozen (p := ⟨w1.heap.size, 3, none⟩) (World.block_lt_of_cell? _ _ p3)).trans m3)))
      · have HPT : Hid (Pt w (w9.alloc (.cells #[.int .i64 d.f.ch, .int .i64 d.f.bits, .int .i64 d.f.rate, .slice d.a d.n d.cap] 26)) ⟨(n : Int), bits, rate⟩ w9.heap.size d G n K X 0) := hid (by
          obtain ⟨h1, h2, h3, h4, h5, h6⟩ := HQ.out
          have hbn := below_new w9 (.cells #[.int .i64 d.f.ch, .int .i64 d.f.bits, .int .i64 d.f.rate, .slice d.a d.n d.cap] 26)
          have hlt := HJ1.out.lt
          refine pt_new (B := w1.heap.size) (HJ1.out.upto b9b) (bx_new w9 d) (h1.below hbn) ⟨h2.1, fun i hi => (h2.2 i hi).below hbn⟩ ⟨h6.at_, fun i hi => ?_, fun i hi mm => ?_, h6.far, h6.mono⟩ hlt (fun i hi => ?_) HN.out.1 h4 h3 h5
          · have h7 : w1.heap.size ≤ G i ∧ G i < w9.heap.size := h6.lt i hi; simp; omega
          · have := h6.lt i hi; exact (hbn.frozen (p := ⟨G i, mm, none⟩) this.2).trans (h6.fz i hi mm)
          · have h7 : w1.heap.size ≤ G i ∧ G i < w9.heap.size := h6.lt i (by omega); omega)
        clear S1 S1a S2 S2a S2b
        go_wp2_with fail
        go_meet
        exact ⟨w9.heap.size, d, G, rfl, HPT.out⟩
      · have HPT : Hid (Pt w ((((w9.setCell ⟨w1.heap.size, 0, none⟩ (.int .i64 d.f.ch)).setCell ⟨w1.heap.size, 1, none⟩ (.int .i64 d.f.bits)).setCell ⟨w1.heap.size, 2, none⟩ (.int .i64 d.f.rate)).setCell ⟨w1.heap.size, 3, none⟩ (.slice d.a d.n d.cap)) ⟨(n : Int), bits, rate⟩ w1.heap.size d G n K X 0) := hid (by
          obtain ⟨h1, h2, h3, h4, h5, h6⟩ := HQ.out
          have hlt := HJ1.out.lt
          have hz : w1.heap.size < ((w1.alloc (.cells #[.int .i64 0, .int .i64 0, .int .i64 0, .slice none 0 0] 26)).drew).heap.size := by show w1.heap.size < (w1.alloc _).heap.size; simp
          have hex := four_ex q0 q1 q2 q3
          obtain ⟨y0, y1, y2, y3, _⟩ := four_set w9 w1.heap.size (.int .i64 d.f.ch) (.int .i64 d.f.bits) (.int .i64 d.f.rate) (.slice d.a d.n d.cap) hex
          refine pt_new (B := w1.heap.size) (HJ1.out.upto (set4_below b9 (Nat.le_refl _) _ _ _ _)) ⟨y0, y1, y2, y3⟩ (h1.set4 h2 hz hex _ _ _ _) (h2.set4 hz (Nat.le_of_lt hz) _ _ _ _) (h6.set4 (Nat.le_of_lt hz) _ _ _ _) hlt (fun i hi => ?_) HN.out.1 h4 h3 h5
          have := h6.lt i (by omega); omega)
        clear S1 S1a S2
        go_wp2_with fail
        go_meet
        exact ⟨w1.heap.size, d, G, rfl, HPT.out⟩
    case rest =>
      obtain ⟨q, d, G, rfl, hpt⟩ := hcut
      have HP0 := hid hpt
      clear hpt hquo hn0
      go_wp2_with fail
      have HBF : Hid (∀ (t : Nat), (∀ j, j < t → beyond (2 ^ m) (X j) = false) → t = L → pcode ⟨(n : Int), bits, rate⟩ L X = 0) := hid fun t ht e => by
        unfold pcode
        rw [if_neg (fun g => g HRR.out), if_neg HNE.out, if_neg]
        rw [HFAR.out]
        intro h
        obtain ⟨i, hi, h2⟩ := (any_iff _ _).1 h
        rw [ht i (by omega)] at h2
        cases h2
      have HBT : Hid (∀ (t : Nat), t < L → beyond (2 ^ m) (X t) = true → pcode ⟨(n : Int), bits, rate⟩ L X = 21) := hid fun t ht e => by
        unfold pcode
        rw [if_neg (fun g => g HRR.out), if_neg HNE.out, if_pos]
        rw [HFAR.out]
        exact (any_iff _ _).2 ⟨t, ht, e⟩
      generalize 2 ^ m = P at *
      clear HRR HNE HFAR HRT e1 HSI
      go_loopg [7] L (fun g i wr => ∃ t : Nat, t ≤ L ∧ g = L - t ∧ i = .int .i64 t ∧ Pt w wr ⟨(n : Int), bits, rate⟩ q d G n K X t ∧ ∀ j, j < t → beyond P (X j) = false)
      case atStart => exact ⟨0, Nat.zero_le _, rfl, rfl, HP0.out, fun j hj => absurd hj (Nat.not_lt_zero _)⟩
      case round =>
        obtain ⟨t, ht, hg, rfl, hpt, hall⟩ := hrel
        have HG := hid hg
        have HA := hid hall
        have HP := hid hpt
        clear hg hall hpt
        by_cases hlt : t < L
        · have hlt2 : (t : Int) < (L : Int) := by omega
          have hI := HI.out.below HP.out.pr.below HI.out.lt
          have ha := hI.addr (by omega)
          have bx := hI.c t hlt
          have k0 := HP.out.pr.f0
          have k1 := HP.out.pr.f1
          have HAA := hid ha
          clear hI
          subst ha
          go_wp2_with fail
          go_quiet (first | (go_at_call 50; refine Calls.quiet_of_same ((HFT.out _ _).mono fun e w' h => ⟨h.1, h.2.symm⟩)))
          have bq : Below wr.heap.size wr (wr.drewN nq) := by
            exact below_drewN (Below.refl _ _) nq
          generalize wr.drewN nq = wv at *
          have HV := hid (HP.out.upto bq)
          clear bx k0 k1 bq
          cases hF : beyond P (X t) with
          | true =>
            have HC := hid (HBT.out t hlt hF)
            have r0 := HV.out.pr.r 0 _ rfl
            have r1 := HV.out.pr.r 1 _ rfl
            have r2 := HV.out.pr.r 2 _ rfl
            have r3 := HV.out.pr.r 3 _ rfl
            have z0 := HV.out.pr.z 0
            have z1 := HV.out.pr.z 1
            have z2 := HV.out.pr.z 2
            have z3 := HV.out.pr.z 3
            obtain ⟨y0, y1, y2, y3, _⟩ := four_set wv (w.heap.size + 1) (.int .i64 0) (.int .i64 0) (.int .i64 0) (.slice none 0 0) HV.out.pr.four
            clear hF
            go_wp2_with fail
            refine bodyPost_ret (v := .tuple #[.agg #[.int .i64 0, .int .i64 0, .int .i64 0, .slice none 0 0], .int .i64 21]) ?_ rfl ?_
            · rw [results_cell_tmp (p := 4) (u := 5) (ty := 26) (by kernel_rfl)]
              go_simp
            · exact ⟨Dat.nil, by rw [HC.out]; rfl, nil_snd _, set4_below HV.out.pr.below (by omega) _ _ _ _, fun h => absurd h (by rw [HC.out]; decide), fun _ => rfl⟩
          | false =>
            have HFF := hid hF
            clear hF
            obtain ⟨i0, hi0⟩ : ∃ i0, i0 = t % n := ⟨_, rfl⟩
            obtain ⟨m0, hm0⟩ : ∃ m0, m0 = t / n := ⟨_, rfl⟩
            have hin : i0 < n := by rw [hi0]; exact Nat.mod_lt _ HN.out.1
            have htm : t = n * m0 + i0 := by rw [hi0, hm0]; exact (Nat.div_add_mod t n).symm
            have hmK : m0 < K := by
              have h1 : n * m0 < n * K := by rw [← HLK.out]; omega
              exact Nat.lt_of_mul_lt_mul_left h1
            have HT := hid htm
            have hkk := HKB.out
            have hn0 : ¬ (n : Int) = 0 := by omega
            have hn1 : ¬ n = 0 := by omega
            have hrem : (t : Int) % (n : Int) = (i0 : Int) := by rw [rem_nat, ← hi0]
            have hrem2 : Int.tmod (t : Int) (n : Int) = (i0 : Int) := by rw [Int.tmod_eq_emod_of_nonneg (by omega)]; exact hrem
            have hquo : Int.tdiv (t : Int) (n : Int) = (m0 : Int) := by rw [Int.tdiv_eq_ediv_of_nonneg (by omega), hm0]; exact (Int.natCast_ediv t n).symm
            have hquo2 : (t : Int) / (n : Int) = (m0 : Int) := by rw [hm0]; exact (Int.natCast_ediv t n).symm
            obtain ⟨hw1, hw2⟩ := wr_small m0 (Nat.le_trans (Nat.le_of_lt hmK) hkk)
            obtain ⟨hw3, hw4⟩ := wr_small i0 (Nat.le_trans (Nat.le_of_lt hin) (Nat.le_trans HN.out.2 (by decide)))
            have hb1 : (i0 : Int) < (n : Int) := Int.ofNat_lt.2 hin
            have hb2 : (m0 : Int) < (K : Int) := Int.ofNat_lt.2 hmK
            clear hi0 hm0 htm
            have HS : Hid (∀ w' t', Pt w w' ⟨(n : Int), bits, rate⟩ q d G n K X t' → (fun w' => w'.cell? ⟨w.heap.size, 0, none⟩ = some (.int .i64 (n : Int)) ∧ w'.cell? ⟨q, 3, none⟩ = some (.slice (some ⟨d.b, d.off, none⟩) n d.cap) ∧ w'.cell? ⟨d.b, d.off + i0, none⟩ = some (.slice (some ⟨G i0, 0, none⟩) K (d.lc i0)) ∧ w'.cell? ⟨b, o + t, none⟩ = some (.int .i64 (X t))) w') := hid fun w' t' h => ⟨h.pr.f0, by have := h.bx.c3; rw [h.dn, h.da] at this; exact this, h.hd i0 hin, (HI.out.below h.pr.below HI.out.lt).c t hlt⟩
            have bd : Below wv.heap.size wv wv.drew := (Below.refl _ _).drew
            have HD := hid (HV.out.upto bd)
            have S1 := HS.out _ _ HD.out
            dsimp only at S1
            have tc : wv.drew.cell? ⟨G i0, m0, none⟩ = some (.int .i64 (if n * m0 + i0 < t then X (n * m0 + i0) else 0)) := HD.out.el i0 m0 hin hmK
            have tf : wv.drew.frozen? ⟨G i0, m0, none⟩ = false := HD.out.fz i0 m0 hin
            rw [← HT.out] at tc
            have hirr : ¬ t < t := Nat.lt_irrefl t
            rw [if_neg hirr] at tc
            have HE := hid ((HV.out.step hin hmK HT.out).upto ((Below.refl _ _).drew))
            have S2 := HS.out _ _ HE.out
            dsimp only at S2
            clear hirr
            go_wp2_with fail
            go_region_held3 (fun w' => w'.cell? ⟨w.heap.size, 0, none⟩ = some (.int .i64 (n : Int)) ∧ w'.cell? ⟨q, 3, none⟩ = some (.slice (some ⟨d.b, d.off, none⟩) n d.cap) ∧ w'.cell? ⟨d.b, d.off + i0, none⟩ = some (.slice (some ⟨G i0, 0, none⟩) K (d.lc i0)) ∧ w'.cell? ⟨b, o + t, none⟩ = some (.int .i64 (X t)))
              (first | with_reducible exact S1 | with_reducible exact S2 | go_keep) (first | fail)
            clear S1 S2 tc tf hrem hrem2 hquo hquo2 hw1 hw2 hw3 hw4 hb1 hb2 hn0 hn1 bd
            go_wp2_with fail
            go_roundg (L - (t + 1))
            case measure => rw [HG.out]; omega
            case rel => exact ⟨t + 1, by omega, rfl, by go_num, HE.out, fun j hj => by
              by_cases e : j = t
              · rw [e]; exact HFF.out
              · exact HA.out j (by omega)⟩
        · have hge : ¬ (t : Int) < (L : Int) := by omega
          obtain rfl : t = L := by omega
          have HC := hid (HBF.out t HA.out rfl)
          obtain ⟨s, hs1, hs2, hs3, hs4⟩ := HP.out.snd HLK.out HN.out.1 HN.out.2 (by have := HKB.out; omega) rfl
          have HS := hid (And.intro hs1 (And.intro hs2 (And.intro hs3 hs4)))
          clear hs1 hs2 hs3 hs4 hge
          obtain ⟨x0, x1, x2, x3⟩ := HP.out.bx
          have r0 := HP.out.pr.r 0 _ rfl
          have r1 := HP.out.pr.r 1 _ rfl
          have r2 := HP.out.pr.r 2 _ rfl
          have r3 := HP.out.pr.r 3 _ rfl
          have z0 := HP.out.pr.z 0
          have z1 := HP.out.pr.z 1
          have z2 := HP.out.pr.z 2
          have z3 := HP.out.pr.z 3
          obtain ⟨y0, y1, y2, y3, _⟩ := four_set wr (w.heap.size + 1) (.int .i64 d.f.ch) (.int .i64 d.f.bits) (.int .i64 d.f.rate) (.slice d.a d.n d.cap) HP.out.pr.four
          go_wp2_with fail
          refine bodyPost_ret (v := .tuple #[.agg #[.int .i64 d.f.ch, .int .i64 d.f.bits, .int .i64 d.f.rate, .slice d.a d.n d.cap], .int .i64 0]) ?_ rfl ?_
          · rw [results_cell_tmp (p := 4) (u := 5) (ty := 26) (by kernel_rfl)]
            go_simp
          · exact ⟨s, by rw [HC.out, HS.out.1]; rfl, HS.out.2.2.1.set4 HS.out.2.2.2 (by omega) HP.out.pr.four _ _ _ _, set4_below HP.out.pr.below (by omega) _ _ _ _, fun _ => ⟨HS.out.2.1, HS.out.2.2.2.set4 (by omega) (by omega) _ _ _ _⟩, fun h => absurd HC.out h⟩
  · have e1 : ((L : Int) % (n : Int) != 0) = true := bne_iff_ne.2 (by rw [rem_nat]; omega)
    have HE := hid (show pcode ⟨(n : Int), bits, rate⟩ L X = 22 from by unfold pcode; rw [if_neg (fun g => g HRR.out), if_pos (by show ¬ (L : Int) % (n : Int) = 0; rw [rem_nat]; omega)])
    clear hM
    have r0 := HJ1.out.r 0 _ rfl
    have r1 := HJ1.out.r 1 _ rfl
    have r2 := HJ1.out.r 2 _ rfl
    have r3 := HJ1.out.r 3 _ rfl
    have z0 := HJ1.out.z 0
    have z1 := HJ1.out.z 1
    have z2 := HJ1.out.z 2
    have z3 := HJ1.out.z 3
    obtain ⟨y0, y1, y2, y3, _⟩ := four_set w1 (w.heap.size + 1) (.int .i64 0) (.int .i64 0) (.int .i64 0) (.slice none 0 0) HJ1.out.four
    go_wp2_with fail
    refine bodyPost_ret (v := .tuple #[.agg #[.int .i64 0, .int .i64 0, .int .i64 0, .slice none 0 0], .int .i64 22]) ?_ rfl ?_
    · rw [results_cell_tmp (p := 4) (u := 5) (ty := 26) (by kernel_rfl)]
      go_simp
    · exact ⟨Dat.nil, by rw [HE.out]; rfl, nil_snd _, set4_below HJ1.out.below (by omega) _ _ _ _, fun h => absurd h (by rw [HE.out]; decide), fun _ => rfl⟩
set_option maxRecDepth 20000 in
theorem rpart_any (w : World) (f : Fmt) (a : Option Addr) (L cap b o : Nat) (X : Nat → Int) (hl : Isb w a L b o X) (hL : L ≤ 1048576) : Calls Try.prog 79 #[f.v, .slice a L cap] w (SndNew w (pcode f L X) (PartOk f L X)) := by
  by_cases hR : f.right
  · obtain ⟨ch, bits, rate⟩ := f
    obtain ⟨n, rfl⟩ := Int.eq_ofNat_of_zero_le (show 0 ≤ ch by have : (1 : Int) ≤ ch := hR.1.1; omega)
    exact rpart_right w n bits rate a L cap b o X hl hL hR
  · exact rpart_wrong w f a L cap X hR
end Go.Proofs.Ytkdpalmdcnpnoaa.Pcm
