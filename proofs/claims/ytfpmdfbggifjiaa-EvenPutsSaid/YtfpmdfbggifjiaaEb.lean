/- Even's Total, Cost, PutAll and Put: what they answer, what the writer has behind them, and that nothing else has turned. Conditions: a list lies in memory as its numbers; the writer has fewer than 2^42 bits. -/
import Derived.Test.YtfpmdfbggifjiaaEa
namespace Go.Proofs.Ytfpmdfbggifjiaa.Even
open Go.RowKit Bit Rice

/-- What all numbers of a list cost. -/
def tot (U : Nat → Nat) (n : Nat) : Nat → Nat
  | 0 => 0
  | j + 1 => tot U n j + ct (U j) n
theorem tot_le (U : Nat → Nat) (n : Nat) : ∀ j, tot U n j ≤ 40 * j
  | 0 => Nat.le_refl _
  | j + 1 => by
    have := tot_le U n j
    have := ct_le (U j) n
    show _ + _ ≤ _
    omega
theorem tot_no (U : Nat → Nat) {n : Nat} (h : ¬ spn n) : ∀ j, tot U n j = 0
  | 0 => rfl
  | j + 1 => by
    show tot U n j + ct (U j) n = 0
    rw [tot_no U h j, ct_no fun h1 => h h1.1]

theorem tot1_any (x y : Int) (c : Nat) (v : Nat) (b : Nat) (w : World) (hc : w.cell? ⟨b, 0, none⟩ = some (.int .i64 (c : Int))) (hf : w.frozen? ⟨b, 0, none⟩ = false) (hy : y = (v : Int)) (hl : c + v ≤ 9223372036854775807) :
    Calls Try.prog 37 #[.int .u64 x, .int .i64 y, .pointer (some ⟨b, 0, none⟩)] w fun e w' => e = .returned (.tuple #[]) ∧ w' = w.setCell ⟨b, 0, none⟩ (.int .i64 ((c + v : Nat) : Int)) := by
  subst hy
  go_enter Try.func37, Try.ntmps37
  go_wp2_with fail
  go_end0
  exact ⟨rfl, by rw [Int.natCast_add]⟩

/-- A box that counts, in new memory. -/
def Cnt (w : World) (c : Nat) (wr : World) : Prop := wr.cell? ⟨w.heap.size, 0, none⟩ = some (.int .i64 (c : Int)) ∧ wr.frozen? ⟨w.heap.size, 0, none⟩ = false ∧ Below w.heap.size w wr
theorem Cnt.set {w wr : World} {c : Nat} (h : Cnt w c wr) (c' : Nat) : Cnt w c' (wr.setCell ⟨w.heap.size, 0, none⟩ (.int .i64 (c' : Int))) :=
  ⟨World.cell?_setCell_same _ _ _ (by rw [h.1]), by rw [frozen_setCell]; exact h.2.1, h.2.2.setCell (p := ⟨w.heap.size, 0, none⟩) (Nat.le_refl _) _⟩
theorem Cnt.drewN {w wr : World} {c : Nat} (h : Cnt w c wr) (n : Nat) : Cnt w c (wr.drewN n) := ⟨h.1, h.2.1, h.2.2.trans ⟨rfl, rfl, rfl, Nat.le_refl _, fun _ _ => rfl⟩⟩

theorem total_any (w : World) (a : Option Addr) (len cap b off : Nat) (U : Nat → Nat) (h : Us w a len b off U) (hlen : len ≤ 1048576) (n : Nat) :
    Calls Try.prog 13 #[.slice a len cap, .int .u64 (n : Int)] w fun e w' => e = .returned (.int .i64 (tot U n len : Int)) ∧ Below w.heap.size w w' := by
  have hc0 : Cnt w 0 (w.alloc (.cells #[.int .i64 0] 3)) := ⟨by simp, by simp, (Below.refl _ _).alloc (Nat.le_refl _) _⟩
  by_cases hs : spn n
  · have hcd := fun W (hW : Cnt w 0 W) => codes_any n hs 37 (.pointer (some ⟨w.heap.size, 0, none⟩)) (fun args w => Try.call37 args w) (fun j wr => Cnt w (tot U n j) wr) W a len cap b off U
      (fun j wr hst => h.below hst.2.2 h.lt) (fun wr nq hst => hst.drewN nq) hW h.hl
      (fun j wr x y hj hst ho hx hy => (tot1_any x y (tot U n j) (ct (U j) n) w.heap.size wr hst.1 hst.2.1 hy (by have := tot_le U n j; have := ct_le (U j) n; omega)).mono fun e w' ⟨he, hw⟩ => ⟨he, by rw [hw]; exact hst.set _⟩)
      (fun j wr hj hst hno => by rw [show tot U n (j + 1) = tot U n j + ct (U j) n from rfl, ct_no hno]; exact hst)
    have HCD := hid hcd
    clear hcd h
    go_enter Try.func13, Try.ntmps13
    go_wp2_with fail
    refine (HCD.out _ hc0).mono ?_
    rintro e w1 ⟨rfl, hst⟩
    have c0 := hst.1
    have hfin := hst.2.2
    clear hst hc0
    go_wp2_with fail
    go_ret
    exact ⟨rfl, hfin⟩
  · rw [tot_no U hs]
    go_enter Try.func13, Try.ntmps13
    go_wp2_with fail
    refine (codes_no n hs _ _ _).mono ?_
    rintro e w1 ⟨rfl, rfl⟩
    have c0 := hc0.1
    have hfin := hc0.2.2
    clear hc0
    go_wp2_with fail
    go_ret
    exact ⟨rfl, hfin⟩

theorem cost_any (v n : Nat) (hv : v < 18446744073709551616) (w : World) :
    Calls Try.prog 19 #[.int .u64 (v : Int), .int .u64 (n : Int)] w fun e w' => e = .returned (.int .i64 (ct v n : Int)) ∧ Below w.heap.size w w' := by
  have hb : Below w.heap.size w (w.alloc (.cells #[.int .u64 (v : Int)] 23)) := (Below.refl _ _).alloc (Nat.le_refl _) _
  have HB := hid hb
  have HU := hid (us_new w v hv 23)
  have HE : Hid (tot (fun _ => v) n 1 = ct v n) := hid (by show 0 + ct v n = ct v n; omega)
  clear hb
  go_enter Try.func19, Try.ntmps19
  go_wp2_with fail
  refine (total_any _ _ 1 1 _ _ _ HU.out (by decide) n).mono ?_
  rintro e w1 ⟨rfl, hb1⟩
  have hfin := HB.out.trans (hb1.mono HB.out.size)
  rw [HE.out]
  clear hb1
  go_wp2_with fail
  go_ret
  exact ⟨rfl, hfin⟩

def allB (U : Nat → Nat) (n len : Nat) : Prop := ∀ i, i < len → U i < n
theorem notbelow (u n : Nat) (ad : Addr) (w : World) (hc : w.cell? ad = some (.int .u64 (n : Int))) : Calls Try.prog 33 #[.int .u64 (u : Int), .pointer (some ad)] w fun e w' => e = .returned (.bool (!decide (u < n))) ∧ w = w' := by
  by_cases h : u < n
  · have g : ¬ (n : Int) ≤ (u : Int) := by omega
    rw [decide_eq_true h]
    go_enter Try.func33, Try.ntmps33
    go_wp2_with fail
    go_ret
    exact ⟨by simp, rfl⟩
  · have g : (n : Int) ≤ (u : Int) := by omega
    rw [decide_eq_false h]
    go_enter Try.func33, Try.ntmps33
    go_wp2_with fail
    go_ret
    exact ⟨by simp, rfl⟩
theorem index_any (w : World) (a : Option Addr) (len cap b off n : Nat) (U : Nat → Nat) (h : Us w a len b off U) (ad : Addr) (hc : w.cell? ad = some (.int .u64 (n : Int))) :
    Calls Try.prog 46 #[.slice a len cap, .func (.func 33) #[] #[.pointer (some ad)]] w fun e w' => ∃ r : Int, e = .returned (.int .i64 r) ∧ w = w' ∧ ((r = -1 ∧ allB U n len) ∨ (0 ≤ r ∧ ¬ allB U n len)) := by
  have H := hid h
  have HC := hid hc
  have hl := h.hl
  clear h hc
  go_enter Try.func46, Try.ntmps46
  go_wp2_with fail
  go_loopg [8] len (fun g i wr => ∃ k : Nat, k ≤ len ∧ g = len - k ∧ i = .int .i64 k ∧ w = wr ∧ allB U n k)
  case atStart => exact ⟨0, Nat.zero_le _, rfl, rfl, rfl, fun j hj => absurd hj (Nat.not_lt_zero _)⟩
  case round =>
    obtain ⟨k, hk, hg, rfl, rfl, hall⟩ := hrel
    have HG := hid hg
    have HA := hid hall
    clear hg hall
    by_cases hlt : k < len
    · have hlt2 : (k : Int) < (len : Int) := by omega
      obtain rfl := H.out.addr (by omega)
      have ck := H.out.c k hlt
      go_wp2_with fail
      refine (notbelow (U k) n ad w HC.out).mono ?_
      rintro e w' ⟨rfl, rfl⟩
      by_cases hc : U k < n
      · rw [decide_eq_true hc]
        go_wp2_with fail
        go_roundg (len - (k + 1))
        case measure => rw [HG.out]; omega
        case rel => exact ⟨k + 1, by omega, rfl, by go_num, rfl, fun j hj => by
          by_cases e : j = k
          · rw [e]; exact hc
          · exact HA.out j (by omega)⟩
      · rw [decide_eq_false hc]
        go_wp2_with fail
        go_ret
        exact ⟨_, rfl, rfl, .inr ⟨by omega, fun h => hc (h k hlt)⟩⟩
    · have hge : ¬ (k : Int) < (len : Int) := by omega
      obtain rfl : k = len := by omega
      go_wp2_with fail
      go_ret
      exact ⟨_, rfl, rfl, .inl ⟨rfl, HA.out⟩⟩
theorem contains_any (w : World) (a : Option Addr) (len cap b off n : Nat) (U : Nat → Nat) (h : Us w a len b off U) (ad : Addr) (hc : w.cell? ad = some (.int .u64 (n : Int))) :
    Calls Try.prog 32 #[.slice a len cap, .func (.func 33) #[] #[.pointer (some ad)]] w fun e w' => ∃ x : Bool, e = .returned (.bool x) ∧ w = w' ∧ (x = true ↔ ¬ allB U n len) := by
  have HI := hid (index_any w a len cap b off n U h ad hc)
  clear h hc
  go_enter Try.func32, Try.ntmps32
  go_wp2_with fail
  refine HI.out.mono ?_
  rintro e w' ⟨r, rfl, rfl, hr⟩
  rcases hr with ⟨rfl, hr⟩ | ⟨h0, hr⟩
  · go_wp2_with fail
    go_ret
    exact ⟨_, rfl, rfl, by simp [hr]⟩
  · go_wp2_with fail
    go_ret
    exact ⟨_, rfl, rfl, by simp [hr]⟩

/-- The codes of the first numbers of a list, behind L bits N. -/
def cds (U : Nat → Nat) (n N L : Nat) : Nat → Nat × Nat
  | 0 => (N, L)
  | j + 1 => ((cds U n N L j).1 * 2 ^ ct (U j) n + cd (U j) n, (cds U n N L j).2 + ct (U j) n)
theorem cds_le (U : Nat → Nat) (n N L : Nat) : ∀ j, L ≤ (cds U n N L j).2 ∧ (cds U n N L j).2 ≤ L + 40 * j
  | 0 => ⟨Nat.le_refl _, Nat.le_refl _⟩
  | j + 1 => by
    have h := cds_le U n N L j
    have h1 := ct_le (U j) n
    show L ≤ _ + _ ∧ _ + _ ≤ _
    omega
theorem cds_no (U : Nat → Nat) (n N L j : Nat) (h : ¬ okv (U j) n) : cds U n N L (j + 1) = cds U n N L j := by
  show ((cds U n N L j).1 * 2 ^ ct (U j) n + cd (U j) n, (cds U n N L j).2 + ct (U j) n) = _
  rw [ct_no h, cd_no h, Nat.pow_zero, Nat.mul_one]; rfl
theorem cds_tot (U : Nat → Nat) (n : Nat) : ∀ j, (cds U n 0 0 j).2 = tot U n j
  | 0 => rfl
  | j + 1 => by show _ + _ = _ + _; rw [cds_tot U n j]

def PutAllOk (w : World) (B p o : Nat) (ao : Option Addr) (L : Nat) (r : Nat × Nat) (e : Ending) (w' : World) : Prop := e = .returned (.int .i64 0) ∧ Wrote w B p o ao L r.1 r.2 w'

theorem put1_any (B p o : Nat) (x y : Int) (v n : Nat) (hx : x = (v : Int)) (hy : y = (n : Int)) (ao : Option Addr) (cap N L : Nat) (w : World) (hw : WrN w B p o ao cap N L) (ad : Addr) (hc : w.cell? ad = some (.pointer (some ⟨p, o, none⟩)))
    (hv : v < 2 ^ n) (hn : n ≤ 64) (hL : L ≤ 7000000000000) :
    Calls Try.prog 35 #[.int .u64 x, .int .i64 y, .pointer (some ad)] w fun e w' => e = .returned (.tuple #[]) ∧ ∃ ao' cap', WrN w' B p o ao' cap' (N * 2 ^ n + v) (L + n) ∧ Pushed w w' p ao ao' (L / 8) := by
  subst hx hy
  go_enter Try.func35, Try.ntmps35
  go_wp2_with fail
  refine (put_ok B p o v n ao cap N L w hw hv hn hL).mono ?_
  rintro e w1 ⟨rfl, ao1, cap1, h1, h2⟩
  clear hw hc
  go_wp2_with fail
  go_end0
  exact ⟨rfl, ao1, cap1, h1, h2⟩

theorem putall_nil (v : Value) (n : Int) (w : World) : Calls Try.prog 10 #[.pointer none, v, .int .u64 n] w fun e w' => e = .returned (.int .i64 2) ∧ Below w.heap.size w w' := by
  have hb : Below w.heap.size w ((w.alloc (.cells #[.pointer none] 25)).alloc (.cells #[.int .u64 n] 23)) := ((Below.refl _ _).alloc (Nat.le_refl _) _).alloc (by simp) _
  have HB := hid hb
  clear hb
  go_enter Try.func10, Try.ntmps10
  go_wp2_with fail
  go_ret
  exact ⟨rfl, HB.out⟩
theorem putall_arg (p : Addr) (v : Value) (n : Nat) (hn : ¬ spn n) (w : World) : Calls Try.prog 10 #[.pointer (some p), v, .int .u64 (n : Int)] w fun e w' => e = .returned (.int .i64 1) ∧ Below w.heap.size w w' := by
  have hb : Below w.heap.size w ((w.alloc (.cells #[.pointer (some p)] 25)).alloc (.cells #[.int .u64 (n : Int)] 23)) := ((Below.refl _ _).alloc (Nat.le_refl _) _).alloc (by simp) _
  have HB := hid hb
  clear hb
  go_enter Try.func10, Try.ntmps10
  go_wp2_with fail
  refine (isspan n _).mono ?_
  rintro e w' ⟨rfl, rfl⟩
  rw [decide_eq_false hn]
  go_wp2_with fail
  go_ret
  exact ⟨rfl, HB.out⟩
theorem putall_range (p : Addr) (a : Option Addr) (len cap b off : Nat) (U : Nat → Nat) (n : Nat) (hn : spn n) (w : World) (h : Us w a len b off U) (hr : ¬ allB U n len) :
    Calls Try.prog 10 #[.pointer (some p), .slice a len cap, .int .u64 (n : Int)] w fun e w' => e = .returned (.int .i64 3) ∧ Below w.heap.size w w' := by
  have hb : Below w.heap.size w ((w.alloc (.cells #[.pointer (some p)] 25)).alloc (.cells #[.int .u64 (n : Int)] 23)) := ((Below.refl _ _).alloc (Nat.le_refl _) _).alloc (by simp) _
  have hz : (w.alloc (.cells #[.pointer (some p)] 25)).heap.size = w.heap.size + 1 := by simp
  have hcn : ((w.alloc (.cells #[.pointer (some p)] 25)).alloc (.cells #[.int .u64 (n : Int)] 23)).cell? ⟨w.heap.size + 1, 0, none⟩ = some (.int .u64 (n : Int)) := by rw [← hz]; simp
  have HCN := hid (contains_any _ a len cap b off n U (h.below hb h.lt) _ hcn)
  have HB := hid hb
  have HR := hid hr
  clear hb hr h hcn hz
  go_enter Try.func10, Try.ntmps10
  go_wp2_with fail
  refine (isspan n _).mono ?_
  rintro e w' ⟨rfl, rfl⟩
  rw [decide_eq_true hn]
  go_wp2_with fail
  refine HCN.out.mono ?_
  rintro e w' ⟨x, rfl, rfl, hx⟩
  obtain rfl : x = true := hx.2 HR.out
  go_wp2_with fail
  go_ret
  exact ⟨rfl, HB.out⟩

/-- What a writer's codes leave, with its box behind all that was there. -/
def Pst (W : World) (B p o : Nat) (ao : Option Addr) (L : Nat) (r : Nat × Nat) (wr : World) : Prop := ∃ ao' cap', WrN wr B p o ao' cap' r.1 r.2 ∧ Pushed W wr p ao ao' (L / 8)

set_option maxHeartbeats 800000 in
theorem putall_ok (B p o : Nat) (a : Option Addr) (len cap b off : Nat) (U : Nat → Nat) (n : Nat) (hn : spn n) (ao : Option Addr) (acap N L : Nat) (w : World) (hw : WrN w B p o ao acap N L)
    (h : Us w a len b off U) (hsep : 0 < len → b ≠ p ∧ blk ao ≠ some b) (hr : allB U n len) (hL : L ≤ 3000000000000) (hlen : len ≤ 1048576) :
    Calls Try.prog 10 #[.pointer (some ⟨p, o, none⟩), .slice a len cap, .int .u64 (n : Int)] w (PutAllOk w B p o ao L (cds U n N L len)) := by
  have hlt0 : ∀ g, blk ao = some g → g < w.heap.size ∧ g ≠ p := fun g hg => ⟨(hw.rlt g hg).2, fun e => hw.far (e ▸ hg)⟩
  have hpl : p < w.heap.size := hw.plt
  have hb : Below w.heap.size w ((w.alloc (.cells #[.pointer (some ⟨p, o, none⟩)] 25)).alloc (.cells #[.int .u64 (n : Int)] 23)) := ((Below.refl _ _).alloc (Nat.le_refl _) _).alloc (by simp) _
  have hz : (w.alloc (.cells #[.pointer (some ⟨p, o, none⟩)] 25)).heap.size = w.heap.size + 1 := by simp
  have hcn : ((w.alloc (.cells #[.pointer (some ⟨p, o, none⟩)] 25)).alloc (.cells #[.int .u64 (n : Int)] 23)).cell? ⟨w.heap.size + 1, 0, none⟩ = some (.int .u64 (n : Int)) := by rw [← hz]; simp
  have hcp : ((w.alloc (.cells #[.pointer (some ⟨p, o, none⟩)] 25)).alloc (.cells #[.int .u64 (n : Int)] 23)).cell? ⟨w.heap.size, 0, none⟩ = some (.pointer (some ⟨p, o, none⟩)) := by
    rw [World.cell?_of_block (RowKit.Below.heap_alloc _ _ _ (by simp))]; simp
  have hsz : ((w.alloc (.cells #[.pointer (some ⟨p, o, none⟩)] 25)).alloc (.cells #[.int .u64 (n : Int)] 23)).heap.size = w.heap.size + 2 := by simp
  have hw1 : WrN ((w.alloc (.cells #[.pointer (some ⟨p, o, none⟩)] 25)).alloc (.cells #[.int .u64 (n : Int)] 23)) B p o ao acap N L := Wr.alloc (Wr.alloc hw _) _
  have hp1 : Pushed w ((w.alloc (.cells #[.pointer (some ⟨p, o, none⟩)] 25)).alloc (.cells #[.int .u64 (n : Int)] 23)) p ao ao (L / 8) :=
    (Pushed.alloc p (fun g hg => (hlt0 g hg).1) (L / 8) _).trans (Pushed.alloc p (fun g hg => by have := (hlt0 g hg).1; rw [hz]; omega) (L / 8) _) (Nat.le_refl _) hlt0
  have h1 := h.below hb h.lt
  go_enter Try.func10, Try.ntmps10
  go_wp2_with fail
  generalize ((w.alloc (.cells #[.pointer (some ⟨p, o, none⟩)] 25)).alloc (.cells #[.int .u64 (n : Int)] 23)) = W at hb hcn hcp hsz hw1 hp1 h1 ⊢
  have HCN := hid (contains_any W a len cap b off n U h1 _ hcn)
  have hbox : ∀ wr ao', Pushed W wr p ao ao' (L / 8) → wr.cell? ⟨w.heap.size, 0, none⟩ = some (.pointer (some ⟨p, o, none⟩)) := fun wr ao' hp => by
    refine (hp.fr.cell (p := ⟨w.heap.size, 0, none⟩) (by show w.heap.size < _; omega) ?_).trans hcp
    rintro (e | e)
    · have : w.heap.size = p := e
      omega
    · have := (hlt0 _ e).1
      have : w.heap.size < w.heap.size := this
      omega
  have hcd := codes_any n hn 35 (.pointer (some ⟨w.heap.size, 0, none⟩)) (fun args w => Try.call35 args w) (fun j wr => Pst W B p o ao L (cds U n N L j) wr) W a len cap b off U
    (fun j wr ⟨ao', cap', hst, hp⟩ => h1.fr hp.fr (fun h0 e => e.elim (hsep h0).1 (hsep h0).2))
    (fun wr nq ⟨ao', cap', hst, hp⟩ => ⟨ao', cap', WrN.drewN hst nq, hp.trans (Pushed.drewN wr p ao' (L / 8) nq) (Nat.le_refl _) (fun g hg => ⟨by have := (hlt0 g hg).1; omega, (hlt0 g hg).2⟩)⟩)
    ⟨ao, acap, hw1, Pushed.refl _ _ _ _⟩ h.hl
    (fun j wr x y hj ⟨ao', cap', hst, hp⟩ ho hx hy => (put1_any B p o x y (cd (U j) n) (ct (U j) n) hx hy ao' cap' _ _ wr hst _
        (hbox wr ao' hp)
        (cd_lt _ _) (by have := ct_le (U j) n; omega) (by have := (cds_le U n N L j).2; omega)).mono fun e w' ⟨he, ao1, cap1, hw', hp'⟩ =>
          ⟨he, ao1, cap1, hw', hp.trans hp' (by have := (cds_le U n N L j).1; omega) (fun g hg => ⟨by have := (hlt0 g hg).1; omega, (hlt0 g hg).2⟩)⟩)
    (fun j wr hj hst hno => by rw [cds_no U n N L j hno]; exact hst)
  have HCD := hid hcd
  have HP1 := hid hp1
  have HLT := hid hlt0
  have HR := hid hr
  clear hcd h hlt0 hw hw1 h1 hb hcp hsz hp1 hr hsep hz
  refine (isspan n _).mono ?_
  rintro e w' ⟨rfl, rfl⟩
  rw [decide_eq_true hn]
  go_wp2_with fail
  refine HCN.out.mono ?_
  rintro e w' ⟨x, rfl, rfl, hx⟩
  obtain rfl : x = false := by
    cases x with
    | false => rfl
    | true => exact absurd HR.out (hx.1 rfl)
  clear hx
  go_wp2_with fail
  refine HCD.out.mono ?_
  rintro e w1 ⟨rfl, ao1, cap1, hw2, hp2⟩
  have hfin : Wrote w B p o ao L (cds U n N L len).1 (cds U n N L len).2 w1 := ⟨ao1, cap1, hw2, HP1.out.trans hp2 (Nat.le_refl _) HLT.out⟩
  clear hw2 hp2
  go_wp2_with fail
  go_ret
  exact ⟨rfl, hfin⟩
end Go.Proofs.Ytfpmdfbggifjiaa.Even
