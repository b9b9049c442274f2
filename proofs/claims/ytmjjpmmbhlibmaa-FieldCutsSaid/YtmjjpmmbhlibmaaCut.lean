/- The walk of FieldCuts: fields of the number 7, of which the last bytes are cut off. Conditions: none beyond the form's own. -/
import Derived.Test.YtmjjpmmbhlibmaaTk4
namespace Go.Proofs.Ytmjjpmmbhlibmaa.Fld
open Go.RowKit Gen

theorem Try.info3 : (Try.prog.info? 3).map (fun i => (i.zero, i.size, i.bytes)) = some (some (.int .i64 0), 1, 8) := by kernel_rfl

/-- Whole numbers, as they lie behind a slice. -/
structure Ints (w : World) (a : Option Addr) (len : Nat) (Z : Nat → Int) : Prop where
  at_ : ∀ j, j < len → ∃ b off, a = some ⟨b, off, none⟩ ∧ w.cell? ⟨b, off + j, none⟩ = some (.int .i64 (Z j))
theorem Ints.keep {w w' : World} {a : Option Addr} {len : Nat} {Z : Nat → Int} (h : Ints w a len Z) (e : Below w.heap.size w w') : Ints w' a len Z :=
  ⟨fun j hj => by
    obtain ⟨b, off, ha, hc⟩ := h.at_ j hj
    exact ⟨b, off, ha, (e.cell (p := ⟨b, off + j, none⟩) (World.block_lt_of_cell? w _ hc)).trans hc⟩⟩

theorem and7 (n : Int) : bits .and .i64 n 7 = n % 8 := by
  have h7 : (BitVec.ofInt 64 7).toNat = 2 ^ 3 - 1 := by decide
  have key : (BitVec.ofInt 64 n &&& BitVec.ofInt 64 7).toNat = (n % ((2 ^ 64 : Nat) : Int)).toNat % 2 ^ 3 := by
    rw [BitVec.toNat_and, BitVec.toNat_ofInt, h7, Nat.and_two_pow_sub_one_eq_mod]
  show IntKind.i64.wrap ((BitVec.ofInt 64 n &&& BitVec.ofInt 64 7).toNat : Nat) = n % 8
  rw [key, IntKind.wrap_i64]
  omega

/-- How many bytes each field has. -/
def nb (Z : Nat → Int) (i : Nat) : Nat := (1 + Z i % 8).toNat
theorem nb_in (Z : Nat → Int) (i : Nat) : 1 ≤ nb Z i ∧ nb Z i ≤ 8 := by unfold nb; omega
theorem nb_int (Z : Nat → Int) (i : Nat) : 1 + Z i % 8 = (nb Z i : Int) := by unfold nb; omega
/-- The bytes of the first k fields. -/
def cat (Z : Nat → Int) : Nat → List Nat
  | 0 => []
  | k + 1 => cat Z k ++ le 7 (nb Z k)
theorem cat_le (Z : Nat → Int) (k : Nat) : (cat Z k).length ≤ 8 * k := by
  induction k with
  | zero => simp [cat]
  | succ k ih => have := nb_in Z k; simp only [cat, List.length_append, le_len]; omega
theorem cat_succ (Z : Nat → Int) (k : Nat) : (cat Z (k + 1)).length = (cat Z k).length + nb Z k := by simp only [cat, List.length_append, le_len]
theorem cat_split (Z : Nat → Int) (k n : Nat) (h : k < n) : ∃ r, cat Z n = cat Z k ++ (le 7 (nb Z k) ++ r) := by
  induction n with
  | zero => omega
  | succ n ih =>
    by_cases hkn : k = n
    · subst hkn; exact ⟨[], by rw [List.append_nil]; rfl⟩
    · obtain ⟨r, hr⟩ := ih (by omega)
      exact ⟨r ++ le 7 (nb Z n), by rw [cat, hr]; simp⟩
theorem cat_lt (Z : Nat → Int) (k : Nat) : ∀ b ∈ cat Z k, b < 256 := by
  induction k with
  | zero => intro b h; cases h
  | succ k ih =>
    intro b h
    rcases List.mem_append.1 h with h | h
    · exact ih b h
    · exact le_lt _ _ b h
theorem cat_field (Z : Nat → Int) (k n M : Nat) (h : k < n) (hM : (cat Z k).length + nb Z k ≤ M) : (((cat Z n).take M).drop (cat Z k).length).take (nb Z k) = le 7 (nb Z k) := by
  obtain ⟨r, hr⟩ := cat_split Z k n h
  rw [List.drop_take, List.take_take, Nat.min_eq_left (by omega), hr, List.drop_left]
  rw [List.take_left' (le_len _ _)]
theorem u7_ok (Z : Nat → Int) (i : Nat) : uErr 7 (nb Z i : Int) = 0 := by
  have := nb_in Z i
  unfold uErr
  rw [if_neg (by omega), Int.toNat_natCast, if_neg]
  have h1 : 2 ^ 8 ≤ 2 ^ (8 * nb Z i) := Nat.pow_le_pow_right (by decide) (by omega)
  omega
theorem lev7 (Z : Nat → Int) (i : Nat) : lev (le 7 (nb Z i)) = 7 := by
  have := nb_in Z i
  rw [lev_le]
  have h1 : 2 ^ 8 ≤ 2 ^ (8 * nb Z i) := Nat.pow_le_pow_right (by decide) (by omega)
  exact Nat.mod_eq_of_lt (by omega)

/-- A taker of the first M bytes of n fields, behind j of them. -/
def st (Z : Nat → Int) (n M : Nat) : Nat → TS
  | 0 => ⟨0, (cat Z n).take M, 0⟩
  | j + 1 => (nx (st Z n M j) (nb Z j : Int) true).2
theorem st_inv (Z : Nat → Int) (n M j : Nat) (hj : j ≤ n) (hM : M ≤ (cat Z n).length) : ((st Z n M j).F = 0 ∧ (cat Z j).length ≤ M ∧ (st Z n M j).l = ((cat Z n).take M).drop (cat Z j).length) ∨ (st Z n M j).F = 10 := by
  induction j with
  | zero => exact .inl ⟨rfl, Nat.zero_le _, rfl⟩
  | succ j ih =>
    have hb := nb_in Z j
    have hc := cat_succ Z j
    rcases ih (by omega) with ⟨h1, h2, h3⟩ | h
    · have hl : (st Z n M j).l.length = M - (cat Z j).length := by rw [h3, List.length_drop, List.length_take, Nat.min_eq_left hM]
      by_cases hfit : nb Z j ≤ M - (cat Z j).length
      · left
        have e : st Z n M (j + 1) = (nx (st Z n M j) (nb Z j : Int) true).2 := rfl
        rw [e, nx_ok h1 (fun _ => hb) (by omega)]
        exact ⟨rfl, by omega, by show (st Z n M j).l.drop (nb Z j) = _; rw [h3, List.drop_drop, hc]⟩
      · right
        show (nx (st Z n M j) (nb Z j : Int) true).2.F = 10
        unfold nx
        rw [if_neg (by simp [h1]), if_neg (by simp; omega), if_pos (by omega)]
    · right
      show (nx (st Z n M j) (nb Z j : Int) true).2.F = 10
      unfold nx
      rw [if_pos (by omega)]
      exact h
theorem st_val (Z : Nat → Int) (n M j : Nat) (hj : j < n) (hM : M ≤ (cat Z n).length) :
    ((st Z n M (j + 1)).F = 0 ∧ lev (nx (st Z n M j) (nb Z j : Int) true).1 = 7) ∨ ((st Z n M (j + 1)).F = 10 ∧ lev (nx (st Z n M j) (nb Z j : Int) true).1 = 0) := by
  have hb := nb_in Z j
  have e : st Z n M (j + 1) = (nx (st Z n M j) (nb Z j : Int) true).2 := rfl
  rcases st_inv Z n M j (by omega) hM with ⟨h1, h2, h3⟩ | h
  · have hl : (st Z n M j).l.length = M - (cat Z j).length := by rw [h3, List.length_drop, List.length_take, Nat.min_eq_left hM]
    by_cases hfit : nb Z j ≤ M - (cat Z j).length
    · left
      rw [e, nx_ok h1 (fun _ => hb) (by omega)]
      refine ⟨rfl, ?_⟩
      show lev ((st Z n M j).l.take (nb Z j)) = 7
      rw [h3, cat_field Z j n M hj (by omega), lev7]
    · right
      have hx : nx (st Z n M j) (nb Z j : Int) true = ([], ⟨10, [], (st Z n M j).pos⟩) := by
        unfold nx
        rw [if_neg (by simp [h1]), if_neg (by simp; omega), if_pos (by omega)]
      rw [e, hx]
      exact ⟨rfl, rfl⟩
  · right
    have hx : nx (st Z n M j) (nb Z j : Int) true = ([], st Z n M j) := by
      unfold nx
      rw [if_pos (by omega)]
    rw [e, hx]
    exact ⟨h, rfl⟩
theorem st_end (Z : Nat → Int) (n M : Nat) (hM : M < (cat Z n).length) : (st Z n M n).F = 10 := by
  rcases st_inv Z n M n (Nat.le_refl _) (by omega) with ⟨_, h2, _⟩ | h
  · omega
  · exact h

/-- The sizes as values. -/
def il (Z : Nat → Int) (k : Nat) : List Value := (List.range k).map fun i => .int .i64 (nb Z i : Int)
theorem il_succ (Z : Nat → Int) (k : Nat) : il Z (k + 1) = il Z k ++ [.int .i64 (nb Z k : Int)] := by unfold il; rw [List.range_succ, List.map_append]; rfl

/-- Behind k rounds of the first loop. -/
def Cst (w : World) (Z : Nat → Int) (k : Nat) (v : Value) (wr : World) : Prop :=
  ∃ ao cap lo lcap, v = .slice lo k lcap ∧ MkA wr w.heap.size w.heap.size ao cap 0 (cat Z k) ∧ wr.ownsRow w.heap.size 3 1 (.slice lo k lcap) k (il Z k) ∧ blk lo ≠ some w.heap.size ∧ (∀ g, blk lo = some g → blk ao ≠ some g) ∧ Below w.heap.size w wr

set_option maxHeartbeats 4000000 in
set_option maxRecDepth 100000 in
theorem cuts_first (w : World) (a : Option Addr) (len cap : Nat) (Z : Nat → Int) (hz : Ints w a len Z) (cut : Int) (hl : ¬ 50 < len) :
    Calls Try.prog 6 #[.slice a len cap, .int .i64 cut] w fun e w' => e = .returned (.bool true) ∧ Below w.heap.size w w' := by
  have hl1 : ¬ (50 : Int) < (len : Int) := by omega
  obtain ⟨i0, hi, hz0, hz1, hz2⟩ := info_parts Try.info3
  have h0 : Cst w Z 0 (.slice none 0 0) (w.alloc (.cells #[.int .i64 0, .slice none 0 0] 31)) :=
    ⟨none, 0, none, 0, rfl, new_maker w, World.ownsRow_nil _ _ _ _, by simp [blk], fun g hg => by simp [blk] at hg, (Below.refl _ _).alloc (Nat.le_refl _) _⟩
  have H0 := hid h0
  have HZ := hid hz
  clear h0 hz
  go_enter Try.func6, Try.ntmps6
  go_wp2_with fail
  go_loopw [6, 7, 8] (fun v i _ wr => ∃ k : Nat, k ≤ len ∧ i = .int .i64 k ∧ Cst w Z k v wr) (fun _ i _ _ => len - (intOf i).toNat)
  case atStart => exact ⟨0, Nat.zero_le _, rfl, H0.out⟩
  case round =>
    obtain ⟨k, hk, rfl, ao, cap1, lo, lcap, rfl, hm, hown, hne, hdis, hb⟩ := hrel
    have HM := hid hm
    have HO := hid hown
    have HN := hid (And.intro hne hdis)
    have HB := hid hb
    clear hm hown hne hdis hb H0
    by_cases hlt : k < len
    · obtain ⟨b, off, rfl, hcell⟩ := (HZ.out.keep HB.out).at_ k hlt
      have ha7 := and7 (Z k)
      have hnb := nb_int Z k
      go_wp2_with fail
      refine (u_any HM.out HB.out.size 7 (nb Z k : Int) (by decide) (by have := cat_le Z k; omega)).mono ?_
      rintro e w1 ⟨rfl, ao1, cap2, hm1, hP1⟩
      rw [u7_ok, Int.toNat_natCast] at hm1
      have hm2 : MkA w1 w.heap.size w.heap.size ao1 cap2 0 (cat Z (k + 1)) := hm1
      have hlo : ∀ g, blk lo = some g → g < wr.heap.size := fun g hg => (HO.out.lt g (by rw [ownBlock_slice]; exact hg)).2
      have hown1 : w1.ownsRow w.heap.size 3 1 (.slice lo k lcap) k (il Z k) := ownsRow_block HO.out fun g hg => hP1.fr.block g (hlo g hg) (by
        rintro (e | e)
        · exact HN.out.1 (by rw [hg, e])
        · exact HN.out.2 g hg e)
      have hdis1 : ∀ g, blk lo = some g → blk ao1 ≠ some g := fun g hg e => by
        rcases hP1.at_ with e1 | e1
        · exact HN.out.2 g hg (e1 ▸ e)
        · have := e1 g e; have := hlo g hg; omega
      have hb1 : Below w.heap.size w w1 := HB.out.trans (hP1.below (Nat.le_refl _) (fun g hg => (HM.out.rlt g hg).1) HB.out.size)
      have hlo1 : ∀ g, blk lo = some g → g < w1.heap.size := fun g hg => Nat.lt_of_lt_of_le (hlo g hg) hP1.fr.size
      have HM2 := hid hm2
      have HO1 := hid hown1
      have HD1 := hid hdis1
      have HB1 := hid hb1
      have HL1 := hid hlo1
      clear hm1 hm2 hlo hown1 hdis1 hb1 hlo1 hP1 hcell ha7 hnb
      go_wp2_with (at_builtin; (refine (wpList_append_one (by rfl) _ _ _ (by rfl) w.heap.size 3 i0 _ 8 Try.underlying54 hi hz0 hz1 hz2 rfl lo k lcap (il Z k) (by rfl) (HO1.out.alloc _) ⟨w1.heap.size, 0, none⟩ 1 (.int .i64 (nb Z k : Int)) (by rfl) (by simp) rfl (by unfold maxLen; omega) (by omega) (by have := HB1.out.size; simp; omega) ?_)))
      intro gg cap3 w2 hown2 hK
      have hgg : gg ≠ w.heap.size := by
        rcases hK.at_ with e | e
        · intro e'; exact HN.out.1 (by rw [e, e'])
        · intro e'; have := HB1.out.size; simp at e; omega
      have hm3 : MkA w2 w.heap.size w.heap.size ao1 cap2 0 (cat Z (k + 1)) :=
        (HM2.out.below (bel_alloc w1 _)).keep (X := fun b => blk lo = some b) ((Fr.refl _ _).grown hK.grown (fun b e _ => e)) (fun e => HN.out.1 e) (fun g hg e => HD1.out g e hg)
      have hdis2 : ∀ g, blk (some ⟨gg, 0, none⟩) = some g → blk ao1 ≠ some g := fun g hg e => by
        obtain rfl : gg = g := by simpa [blk] using hg
        rcases hK.at_ with e1 | e1
        · exact HD1.out gg e1 e
        · have := (HM2.out.rlt gg e).2; simp at e1; omega
      have hb2 : Below w.heap.size w w2 := (HB1.out.alloc HB1.out.size _).trans ⟨hK.grown.os, hK.grown.tape, hK.grown.output, hK.grown.size, fun j hj => hK.grown.block j (by have := HB1.out.size; simp; omega) (fun e => by
        have := (HO1.out.lt j (by rw [ownBlock_slice]; exact e.symm)).1; omega)⟩
      have HC : RowKit.Hid (Cst w Z (k + 1) (.slice (some ⟨gg, 0, none⟩) (k + 1) cap3) w2) := hid ⟨ao1, cap2, some ⟨gg, 0, none⟩, cap3, rfl, hm3, by rw [il_succ]; exact hown2, by simpa [blk] using hgg, hdis2, hb2⟩
      clear hgg hm3 hdis2 hb2 hown2 hK HM2 HO1 HD1 HB1 HL1 HM HO HN HB
      go_wp2_with fail
      go_roundw
      case rel => exact ⟨k + 1, by omega, by go_num, HC.out⟩
      case measure => simp [intOf]; omega
    · obtain rfl : k = len := by omega
      go_wp2_with fail
      refine (mbytes_ok HM.out (by have := cat_le Z k; omega)).mono ?_
      rintro e w1 ⟨ao4, cap4, rfl, hown4, hb4⟩
      have hby := Byts.of_row (cat_lt Z k) hown4
      have hroom : (cat Z k).length ≤ cap4 ∧ cap4 ≤ 9223372036854775807 := by
        obtain ⟨_, h⟩ := hown4
        rcases h with ⟨hv, h1⟩ | ⟨g, cap2, cur, hv, _, h2, h3, h4, _⟩
        · injection hv with e1 e2 e3
          omega
        · injection hv with e1 e2 e3
          unfold maxLen at h4
          omega
      have hlo : ∀ g, blk lo = some g → g < wr.heap.size := fun g hg => (HO.out.lt g (by rw [ownBlock_slice]; exact hg)).2
      have hown1 : w1.ownsRow w.heap.size 3 1 (.slice lo k lcap) k (il Z k) := ownsRow_block HO.out fun g hg => hb4.block g (hlo g hg)
      have HBY := hid hby
      have HR := hid hroom
      have HO1 := hid hown1
      have HB1 := hid (HB.out.trans (hb4.mono HB.out.size))
      have hcl := cat_le Z k
      clear hown4 hb4 hby hroom hlo hown1 HM HO HN HB
      by_cases hcut : cut < 1 ∨ ((cat Z k).length : Int) < cut
      · rcases hcut with hcut | hcut
        · go_wp2_with fail
          refine (known_true _).mono ?_
          rintro e w3 ⟨rfl, hb3⟩
          have HB3 := hid (HB1.out.trans (hb3.mono HB1.out.size))
          clear hb3 HB1
          go_wp2_with fail
          go_ret
          exact ⟨rfl, HB3.out⟩
        · have hc1 : ¬ cut < 1 := by omega
          go_wp2_with fail
          refine (known_true _).mono ?_
          rintro e w3 ⟨rfl, hb3⟩
          have HB3 := hid (HB1.out.trans (hb3.mono HB1.out.size))
          clear hb3 HB1
          go_wp2_with fail
          go_ret
          exact ⟨rfl, HB3.out⟩
      · obtain ⟨c, rfl⟩ : ∃ c : Nat, cut = c := ⟨cut.toNat, by omega⟩
        have hc1 : ¬ (c : Int) < 1 := by omega
        have hc2 : ¬ ((cat Z k).length : Int) < (c : Int) := by omega
        obtain ⟨M, hM⟩ : ∃ M, M + c = (cat Z k).length := ⟨(cat Z k).length - c, by omega⟩
        have hMl : ((cat Z k).length : Int) - (c : Int) = (M : Int) := by omega
        have hM2 : (M : Int) ≤ (cap4 : Int) := by have := HR.out; omega
        cases ao4 with
        | none =>
          have := HBY.out.none_len rfl
          rw [this] at hM; simp at hM; omega
        | some ad =>
          go_wp2_with fail
          have htk := take_any (c := cap4) (HBY.out.take M) (fun e => by cases e) (by rw [List.length_take]; omega)
          rw [List.length_take, Nat.min_eq_left (show M ≤ (cat Z k).length by omega)] at htk
          refine htk.mono ?_
          rintro e w2 ⟨q, rfl, hq, ht, hb2⟩
          have ht' : TkS w2 q (st Z k M 0) := ht
          have hown2 : w2.ownsRow w.heap.size 3 1 (.slice lo k lcap) k (il Z k) := ownsRow_block HO1.out fun g hg => hb2.block g (HO1.out.lt g (by rw [ownBlock_slice]; exact hg)).2
          have hqlo : ∀ g, blk lo = some g → g ≠ q := fun g hg e => by have := (HO1.out.lt g (by rw [ownBlock_slice]; exact hg)).2; omega
          have HT := hid ht'
          have HO2 := hid hown2
          have HQ := hid hqlo
          have HQ2 := hid (Nat.le_trans HB1.out.size hq)
          have HB2 := hid (HB1.out.trans (hb2.mono HB1.out.size))
          have HML := hid (show M < (cat Z k).length by omega)
          clear htk ht ht' hb2 hown2 hqlo hq HO1 HB1 HBY HR hMl hM2 hc1 hc2 hM hcut hcl
          go_wp2_with fail
          go_loopw [12, 13] (fun i _ wq => ∃ j : Nat, j ≤ k ∧ i = .int .i64 j ∧ TkS wq q (st Z k M j) ∧ wq.ownsRow w.heap.size 3 1 (.slice lo k lcap) k (il Z k) ∧ Below w.heap.size w wq) (fun i _ _ => k - (intOf i).toNat)
          case atStart => exact ⟨0, Nat.zero_le _, rfl, HT.out, HO2.out, HB2.out⟩
          case round =>
            obtain ⟨j, hj, rfl, ht, hown, hb⟩ := hrel
            have HT := hid ht
            have HO := hid hown
            have HB := hid hb
            clear ht hown hb HO2 HB2
            by_cases hlt2 : j < k
            · obtain ⟨g, rfl⟩ : ∃ g, lo = some ⟨g, 0, none⟩ := by
                rcases ownsRow_at HO.out with ⟨_, h1, _, _⟩ | h
                · omega
                · exact h
              have hcell := ownsRow_cell HO.out j (.int .i64 (nb Z j : Int)) (by simp [il, hlt2])
              have hv := st_val Z k M j hlt2 (by have := HML.out; omega)
              go_wp2_with fail
              refine (tku_any HT.out (nb Z j : Int)).mono ?_
              rintro e w3 ⟨rfl, ht3, hf3⟩
              have ht4 : TkS w3 q (st Z k M (j + 1)) := ht3
              have hown3 : w3.ownsRow w.heap.size 3 1 (.slice (some ⟨g, 0, none⟩) k lcap) k (il Z k) := ownsRow_block HO.out fun g' hg => hf3.block g' (HO.out.lt g' (by rw [ownBlock_slice]; exact hg)).2 (HQ.out g' hg)
              have hb3 : Below w.heap.size w w3 := HB.out.trans ⟨hf3.os, hf3.tape, hf3.output, hf3.size, fun i hi => hf3.block i (by have := HB.out.size; omega) (by have := HQ2.out; omega)⟩
              have H3 := hid (And.intro ht4 (And.intro hown3 hb3))
              have HV := hid hv
              clear ht3 ht4 hf3 hown3 hb3 hcell hv HT HO HB
              go_wp2_with fail
              refine (terr_any H3.out.1).mono ?_
              rintro e w4 ⟨rfl, rfl⟩
              rcases HV.out with ⟨hF, hv⟩ | ⟨hF, hv⟩
              · have t1 : (((st Z k M (j + 1)).F : Int) == 0) = true := by rw [hF]; rfl
                have t2 : ((lev (nx (st Z k M j) (nb Z j : Int) true).1 : Int) != 7) = false := by rw [hv]; rfl
                have t3 : (((st Z k M (j + 1)).F : Int) != 0) = false := by rw [hF]; rfl
                clear hF hv
                go_wp2_with fail
                refine (terr_any H3.out.1).mono ?_
                rintro e w4 ⟨rfl, rfl⟩
                go_wp2_with fail
                go_roundw
                case rel => exact ⟨j + 1, by omega, by go_num, H3.out.1, H3.out.2.1, H3.out.2.2⟩
                case measure => simp [intOf]; omega
              · have t1 : (((st Z k M (j + 1)).F : Int) == 0) = false := by rw [hF]; rfl
                have t2 : ((lev (nx (st Z k M j) (nb Z j : Int) true).1 : Int) != 0) = false := by rw [hv]; rfl
                have t3 : (((st Z k M (j + 1)).F : Int) != 0) = true := by rw [hF]; rfl
                clear hF hv
                go_wp2_with fail
                refine (terr_any H3.out.1).mono ?_
                rintro e w4 ⟨rfl, rfl⟩
                go_wp2_with fail
                go_roundw
                case rel => exact ⟨j + 1, by omega, by go_num, H3.out.1, H3.out.2.1, H3.out.2.2⟩
                case measure => simp [intOf]; omega
            · obtain rfl : j = k := by omega
              go_wp2_with fail
              refine (terr_any HT.out).mono ?_
              rintro e w4 ⟨rfl, rfl⟩
              rw [st_end Z j M HML.out]
              go_wp2_with fail
              refine (known_true _).mono ?_
              rintro e w5 ⟨rfl, hb5⟩
              have HB5 := hid (HB.out.trans (hb5.mono HB.out.size))
              clear hb5 HB
              go_wp2_with fail
              go_ret
              exact ⟨rfl, HB5.out⟩

theorem cuts_walk (w : World) (a : Option Addr) (len cap : Nat) (Z : Nat → Int) (hz : Ints w a len Z) (cut : Int) :
    Calls Try.prog 6 #[.slice a len cap, .int .i64 cut] w fun e w' => e = .returned (.bool true) ∧ Below w.heap.size w w' := by
  by_cases hl : 50 < len
  · have hl1 : (50 : Int) < (len : Int) := by omega
    go_enter Try.func6, Try.ntmps6
    go_wp2_with fail
    refine (known_true _).mono ?_
    rintro e w3 ⟨rfl, hb3⟩
    have HB3 := hid hb3
    clear hb3
    go_wp2_with fail
    go_ret
    exact ⟨rfl, HB3.out⟩
  · exact cuts_first w a len cap Z hz cut hl
end Go.Proofs.Ytmjjpmmbhlibmaa.Fld
