/- slices.Grow of nothing, and slices.Concat of three lists, of slices of bytes. Conditions: fewer than 2^32 slices. -/
import Derived.Test.YthjjonbkfkpkmaaDoorY01
import Derived.Laws.OwnMore
import Derived.Deep.LoopGhost
import Derived.Laws.AppendOwnNone
import Derived.Shelf.Bytes.SlJoin
import Derived.Test.YthjjonbkfkpkmaaDoorY23
namespace Go.Proofs.YthjjonbkfkpkmaaDoor.Fil
open Go.RowKit Gen

set_option maxRecDepth 100000 in
theorem info32 : (Tryd.prog.info? 28).map (fun i => (i.zero, i.size, i.bytes)) = some (some (.slice none 0 0), 1, 24) := by kernel_rfl
set_option maxRecDepth 100000 in
theorem zeroCells_one (m : Nat) : Builtin.zeroCells #[.slice none 0 0] m = (List.replicate m (.slice none 0 0)).toArray := by
  unfold Builtin.zeroCells
  apply Array.ext
  · simp
  · intro i h1 h2
    simp [Nat.mod_one]

set_option maxRecDepth 100000 in
theorem run_append_zeros {P : Program} (w : World) (t u ty : TypeId)
    (base : Nat) (e : TypeId) (i : TypeInfo) (h1 : P.underlying t = some (.slice e)) (hu : P.underlying u = some (.int .i64)) (h2 : P.info? e = some i) (h3 : i.zero = some (.slice none 0 0))
    (h4 : i.size = 1) (h5 : i.bytes = 24)
    (ao : Option Addr) (n cap : Nat) (xs : List Value) (hown : w.ownsRow base e 1 (.slice ao n cap) n xs)
    (m : Nat) (b1 : n + m ≤ 1099511627776) (hbase : base ≤ w.heap.size) :
    ∃ ao' cap' w', (Builtin.append_ #[t, u] ty #[.slice ao n cap, .int .i64 (m : Int)]).run P w = .ok (.slice ao' (n + m) cap') w' ∧
      w'.ownsRow base e 1 (.slice ao' (n + m) cap') (n + m) (xs ++ List.replicate m (.slice none 0 0)) ∧ w.grownBy w' (blk ao) := by
  have hwr : IntKind.i64.wrap (m : Int) = (m : Int) := by rw [IntWalk.i64_in _ (by omega)]
  have hwr0 : IntKind.i64.wrap 0 = 0 := by decide
  have hm0 : ¬ (m : Int) < 0 := by omega
  have hm8 : ¬ (281474976710656 : Int) < (m : Int) * 24 := by omega
  have hlen : (xs ++ List.replicate m (Value.slice none 0 0)).length = (n + m) * 1 := by rw [List.length_append, hown.1, List.length_replicate, Nat.add_mul, Nat.mul_one m]
  have grown : ∀ (old : Nat), old < n + m → ∀ (row : Option Nat),
      (w.drew.alloc (.cells (xs.toArray ++ (List.replicate m (Value.slice none 0 0)).toArray ++ Builtin.zeroCells #[.slice none 0 0] (grownCap w (n + m) old e - (n + m))) e)).ownsRow base e 1
        (.slice (some ⟨w.heap.size, 0, none⟩) (n + m) (grownCap w (n + m) old e)) (n + m) (xs ++ List.replicate m (.slice none 0 0)) ∧
      w.grownBy (w.drew.alloc (.cells (xs.toArray ++ (List.replicate m (Value.slice none 0 0)).toArray ++ Builtin.zeroCells #[.slice none 0 0] (grownCap w (n + m) old e - (n + m))) e)) row := by
    intro old ho row
    have hge := grownCap_ge w (n + m) old e
    have hcm : grownCap w (n + m) old e ≤ maxLen := grownCap_le_maxLen w (n + m) old e (by unfold maxLen; omega)
    refine ⟨⟨hlen, .inr ⟨w.heap.size, _, _, rfl, hbase, heap_alloc_new w.drew _, hge, hcm, ?_, ?_⟩⟩, ⟨rfl, rfl, rfl, by simp, fun k hk _ => RowKit.Below.heap_alloc w.drew _ k hk⟩⟩
    · have h0 := hown.1
      simp only [Array.size_append, List.size_toArray, size_zeroCells, List.length_replicate, Nat.mul_one] at h0 ⊢
      simp only [h0, List.length_singleton]
      omega
    · simp only [Array.toList_append, List.append_assoc]
      rw [← List.append_assoc, ← hlen]
      exact List.take_left
  rcases hown.2 with ⟨hv, h0⟩ | ⟨g, c', cur, hv, hbg, hg, hnc, hcm, hcs, htake⟩
  · cases hv
    have hx : xs = [] := List.eq_nil_of_length_eq_zero (by simpa using hown.1)
    subst hx
    by_cases hm : m = 0
    · subst hm
      refine ⟨none, 0, w, ?_, World.ownsRow_nil w base e 1, World.grownBy.refl _ _⟩
      simp [Builtin.append_, run_underlying h1, run_underlying hu, sizeOf, typeInfo, h2, Builtin.lenOf, asInt, asIntOf, h5, hwr0]
    · have hgr := grown 0 (by omega) (blk none)
      have h48' : ¬ (281474976710656 < Builtin.nextslicecap m 0 * 24) := by rw [nextslicecap_zero (by omega)]; omega
      have h63' : ¬ (9223372036854775807 < (m : Int)) := by omega
      refine ⟨_, _, _, ?_, hgr.1, hgr.2⟩
      simp [Builtin.append_, run_underlying h1, run_underlying hu, sizeOf, typeInfo, zeroValue, h2, h3, h4, h5, Builtin.lenOf, asInt, asIntOf, hwr, hm, hm0, hm8, h63', h48', Question.forced, run_firstCells_none, newRow, grownCap, zeroCells_one, Value.cells]
  · cases hv
    by_cases hroom : n + m ≤ cap
    · have hfit : n + (List.replicate m (Value.slice none 0 0)).length ≤ cur.size := by rw [List.length_replicate]; omega
      have hst := run_storeCells_at P g n e (List.replicate m (Value.slice none 0 0)) 0 cur w hg (by simpa using hfit) (by simp [Value.oneCell'])
      simp only [Nat.add_zero] at hst
      refine ⟨some ⟨g, 0, none⟩, cap, w.setRow g (cur.toList.take n ++ List.replicate m (Value.slice none 0 0) ++ cur.toList.drop (n + (List.replicate m (Value.slice none 0 0)).length)).toArray, ?_, ⟨hlen, .inr ⟨g, cap, _, rfl, hbg, setRow_heap w g cur _ e _ hg, hroom, hcm, ?_, ?_⟩⟩, ⟨rfl, rfl, rfl, by simp, fun k _ hk => setRow_other w g k _ (fun e => hk (by simp [blk, e]))⟩⟩
      · by_cases hm : m = 0
        · subst hm
          have hst0 : Sem.run P (storeCells { block := g, off := n } []) w = Result.ok () (w.setRow g cur) := by simpa using hst
          simp [Builtin.append_, run_underlying h1, run_underlying hu, sizeOf, typeInfo, zeroValue, h2, h3, h4, h5, Builtin.lenOf, asInt, asIntOf, hwr0, hnc, Addr.add_lit, hst0]
        · simp [Builtin.append_, run_underlying h1, run_underlying hu, sizeOf, typeInfo, zeroValue, h2, h3, h4, h5, Builtin.lenOf, asInt, asIntOf, hwr, hm, hm0, hm8, hroom, Addr.add_lit, zeroCells_one, Value.cells, hst]
      · simp only [List.size_toArray, List.length_append, List.length_take, List.length_drop, Array.length_toList, List.length_replicate]
        omega
      · have e1 : List.take n cur.toList = xs := by simpa using htake
        rw [e1, ← hlen]
        exact List.take_left
    · have holds : ∀ j u, xs[j]? = some u → w.cell? ((⟨g, 0, none⟩ : Addr).add j) = some u := hown.cells (g := g) rfl
      have hgr := grown cap (by omega) (blk (some ⟨g, 0, none⟩))
      have h63' : ¬ (9223372036854775807 < (n : Int) + (m : Int)) := by omega
      have h48' : ¬ (281474976710656 < Builtin.nextslicecap (n + m) cap * 24) := by have := growslice_fits (need := n + m) (old := cap) (bytes := 24) (by omega) (by omega); omega
      have hfo := run_firstCells_some (P := P) w.drew 1 n ⟨g, 0, none⟩ n cap xs hown.1 (by simpa using holds)
      refine ⟨_, _, _, ?_, hgr.1, hgr.2⟩
      by_cases hm : m = 0
      · omega
      · simp [Builtin.append_, run_underlying h1, run_underlying hu, sizeOf, typeInfo, zeroValue, h2, h3, h4, h5, Builtin.lenOf, asInt, asIntOf, hwr, hm, hm0, hm8, hroom, h63', h48', Question.forced, hfo, newRow, grownCap, zeroCells_one, Value.cells]

set_option maxRecDepth 100000 in
theorem wpList_append_zeros {P : Program} {ops : Array Oper} {o : Oper} {a : Act} {Q : Exit → Act → World → Prop} (w : World) {rest : List Oper} (hgd : o.guard = none) (s x : Operand) (t u : TypeId)
    (hop : o.op = .call { callee := .builtin .append, args := #[s, x], argTypes := #[t, u] })
    (base : Nat) (e : TypeId) (i : TypeInfo) (h1 : P.underlying t = some (.slice e)) (hu : P.underlying u = some (.int .i64)) (h2 : P.info? e = some i) (h3 : i.zero = some (.slice none 0 0))
    (h4 : i.size = 1) (h5 : i.bytes = 24)
    (ao : Option Addr) (n cap : Nat) (xs : List Value) (hs : a.eval s = .slice ao n cap) (hown : w.ownsRow base e 1 (.slice ao n cap) n xs)
    (m : Nat) (hx : a.eval x = .int .i64 (m : Int)) (b1 : n + m ≤ 1099511627776) (hbase : base ≤ w.heap.size)
    (hK : ∀ ao' cap' w', w'.ownsRow base e 1 (.slice ao' (n + m) cap') (n + m) (xs ++ List.replicate m (.slice none 0 0)) → w.grownBy w' (blk ao) → wpList P ops Q rest (a.put o.dst (.slice ao' (n + m) cap')) w') :
    wpList P ops Q (o :: rest) a w := by
  obtain ⟨ao', cap', w', hrun, r1, r2⟩ := run_append_zeros (P := P) w t u o.type base e i h1 hu h2 h3 h4 h5 ao n cap xs hown m b1 hbase
  refine wpList_plain hgd fun K hK' => ?_
  unfold Oper.wp
  simp [execOp, hop, resolve, invoke, builtin, hs, hx, hrun, Result.andThen]
  exact hK' _ _ (hK ao' cap' w' r1 r2)

set_option maxRecDepth 100000 in
theorem wpList_append_src {P : Program} {ops : Array Oper} {o : Oper} {a : Act} {Q : Exit → Act → World → Prop} (w : World) {rest : List Oper} (hgd : o.guard = none) (s x : Operand) (t : TypeId)
    (hop : o.op = .call { callee := .builtin .append, args := #[s, x], argTypes := #[t, t] })
    (base : Nat) (e : TypeId) (i : TypeInfo) (z : Value) (bytes : Nat) (h1 : P.underlying t = some (.slice e)) (h2 : P.info? e = some i) (h3 : i.zero = some z)
    (h4 : i.size = 1) (h5 : i.bytes = bytes) (h6 : z.cells.size = 1)
    (ao : Option Addr) (n cap : Nat) (xs : List Value) (hs : a.eval s = .slice ao n cap) (hown : w.ownsRow base e 1 (.slice ao n cap) n xs)
    (bo : Option Addr) (m c : Nat) (news : List Value) (hx : a.eval x = .slice bo m c) (hl : news.length = m) (hnone : bo = none → m = 0) (hc : ∀ ad, bo = some ad → ∀ j u, news[j]? = some u → w.cell? (ad.add j) = some u) (hu : ∀ u ∈ news, u.oneCell' = true)
    (b1 : n + m ≤ maxLen) (b2 : (n + m) * bytes ≤ 140737488355328) (hbase : base ≤ w.heap.size)
    (hK : ∀ ao' cap' w', w'.ownsRow base e 1 (.slice ao' (n + m) cap') (n + m) (xs ++ news) → w.grownBy w' (blk ao) → (blk ao' = blk ao ∨ ∀ g, blk ao' = some g → w.heap.size ≤ g) → wpList P ops Q rest (a.put o.dst (.slice ao' (n + m) cap')) w') :
    wpList P ops Q (o :: rest) a w := by
  cases bo with
  | some ad => exact wpList_append_list w hgd s x t hop base e i z bytes h1 h2 h3 h4 h5 h6 ao n cap xs hs hown (some ad) m c news hx hl (fun h => by cases h) hc hu b1 b2 hbase hK
  | none =>
    obtain rfl := hnone rfl
    obtain rfl : news = [] := List.eq_nil_of_length_eq_zero hl
    have hrun : (Builtin.append_ #[t, t] o.type #[.slice ao n cap, .slice none 0 c]).run P w = .ok (.slice ao n cap) w := by
      have h0 := run_append_owned_none (P := P) w base t o.type e i 1 h1 h2 (.slice ao n cap) n xs hown
      exact h0
    refine wpList_plain hgd fun K hK' => ?_
    unfold Oper.wp
    simp [execOp, hop, resolve, invoke, builtin, hs, hx, hrun, Result.andThen]
    have := hK ao cap w (by simpa using hown) (World.grownBy.refl _ _) (.inl rfl)
    exact hK' _ _ (by simpa using this)

set_option maxRecDepth 100000 in
theorem own_cut {w : World} {B m cap : Nat} {g : Nat} {xs : List Value} (h : w.ownsRow B 28 1 (.slice (some ⟨g, 0, none⟩) m cap) m xs) : w.ownsRow B 28 1 (.slice (some ⟨g, 0, none⟩) 0 cap) 0 [] := by
  rcases h.2 with ⟨hv, _⟩ | ⟨g', c', cur, hv, h1, h2, h3, h4, h5, h6⟩
  · cases hv
  · cases hv
    exact ⟨rfl, .inr ⟨g, cap, cur, rfl, h1, h2, Nat.zero_le _, h4, h5, by simp⟩⟩

set_option maxHeartbeats 800000 in
set_option maxRecDepth 100000 in
theorem grow_any (w : World) (m : Nat) (hm : m ≤ 1099511627776) : Calls Tryd.prog 39 #[.slice none 0 0, .int .i64 (m : Int)] w fun e w' => ∃ lo lcap, e = .returned (.slice lo 0 lcap) ∧ w'.ownsRow w.heap.size 28 1 (.slice lo 0 lcap) 0 [] ∧ Below w.heap.size w w' := by
  obtain ⟨i0, hi, hz0, hz1, hz2⟩ := info_parts info32
  by_cases h0 : m = 0
  · subst h0
    go_enter Tryd.func39, Tryd.ntmps39
    go_wp2_with fail
    go_ret
    exact ⟨none, 0, rfl, World.ownsRow_nil _ _ _ _, Below.refl _ _⟩
  · have hp : (0 : Int) < (m : Int) := by omega
    go_enter Tryd.func39, Tryd.ntmps39
    go_wp2_with (at_builtin; go_must (refine wpList_append_zeros _ rfl (.tmp 20) (.tmp 21) 27 3 rfl w.heap.size 28 i0 Tryd.underlying27 Tryd.underlying3 hi hz0 hz1 hz2 none 0 0 [] rfl (World.ownsRow_nil _ _ _ _) m (by first | rfl | go_num) (by omega) (Nat.le_refl _) ?_))
    intro ao cap w2 hown hgr
    have hb : Below w.heap.size w w2 := ⟨hgr.os, hgr.tape, hgr.output, hgr.size, fun k hk => hgr.block k hk (by simp [blk])⟩
    rcases ownsRow_at hown with ⟨_, h1, _, _⟩ | ⟨g, rfl⟩
    · omega
    · have hcut := own_cut hown
      clear hown hgr
      go_wp2_with fail
      go_ret
      exact ⟨_, _, rfl, hcut, hb⟩

def csum (L : Nat → Nat) : Nat → Nat
  | 0 => 0
  | k + 1 => csum L k + L k
def ccat (V : Nat → List Value) : Nat → List Value
  | 0 => []
  | k + 1 => ccat V k ++ V k
set_option maxRecDepth 100000 in
theorem csum_mono (L : Nat → Nat) {k m : Nat} (h : k ≤ m) : csum L k ≤ csum L m := by
  induction m with
  | zero => have : k = 0 := by omega
            subst this; exact Nat.le_refl _
  | succ m ih =>
    by_cases e : k = m + 1
    · rw [e]; exact Nat.le_refl _
    · exact Nat.le_trans (ih (by omega)) (Nat.le_add_right _ _)

set_option maxHeartbeats 1600000 in
set_option maxRecDepth 100000 in
theorem concat_any (w : World) (g : Nat) (la : Nat → Option Addr) (L lc : Nat → Nat) (V : Nat → List Value) (hg : g < w.heap.size)
    (hc : ∀ i, i < 3 → w.cell? ⟨g, i, none⟩ = some (.slice (la i) (L i) (lc i))) (hl : ∀ i, i < 3 → (V i).length = L i) (hn : ∀ i, i < 3 → la i = none → L i = 0)
    (hv : ∀ i, i < 3 → ∀ w', Below w.heap.size w w' → ∀ ad, la i = some ad → ∀ j u, (V i)[j]? = some u → w'.cell? (ad.add j) = some u) (hone : ∀ i, i < 3 → ∀ u ∈ V i, u.oneCell' = true) (hL : csum L 3 ≤ 4294967296) (h0 : 0 < csum L 3) :
    Calls Tryd.prog 19 #[.slice (some ⟨g, 0, none⟩) 3 3] w fun e w' => ∃ lo lcap, e = .returned (.slice lo (csum L 3) lcap) ∧ w'.ownsRow w.heap.size 28 1 (.slice lo (csum L 3) lcap) (csum L 3) (ccat V 3) ∧ Below w.heap.size w w' := by
  obtain ⟨i0, hi0, hz0, hz1, hz2⟩ := info_parts info32
  have HC := hid hc
  have HV := hid hv
  have HLn := hid hl
  have HNo := hid hn
  have HO1 := hid hone
  have HS := hid fun k (hk : k ≤ 3) => (show csum L k ≤ 4294967296 from Nat.le_trans (csum_mono L hk) hL)
  have HP0 := hid h0
  clear hc hv hl hn hone hL h0
  go_enter Tryd.func19, Tryd.ntmps19
  go_wp2_with fail
  go_loopg [3, 11] 3 (fun gh v i wr => ∃ k : Nat, k ≤ 3 ∧ gh = 3 - k ∧ v = .int .i64 (csum L k : Int) ∧ i = .int .i64 k ∧ w = wr)
  case atStart => exact ⟨0, Nat.zero_le _, rfl, rfl, rfl, rfl⟩
  case round =>
    obtain ⟨k, hk, hgh, rfl, rfl, rfl⟩ := hrel
    have HG := hid hgh
    clear hgh
    by_cases hlt : k < 3
    · have hlt2 : (k : Int) < 3 := by omega
      have ck := HC.out k hlt
      have h2 := HS.out (k + 1) (by omega)
      have HE : Hid (csum L (k + 1) = csum L k + L k) := hid rfl
      have h3 : csum L k + L k ≤ 4294967296 := h2
      clear h2
      generalize csum L k = sk at *
      generalize L k = lk at *
      have g1 : ¬ (sk : Int) + (lk : Int) < 0 := by omega
      go_wp2_with fail
      go_roundg (3 - (k + 1))
      case measure => rw [HG.out]; omega
      case rel => exact ⟨k + 1, by omega, rfl, by rw [HE.out]; go_num, by go_num, rfl⟩
    · obtain rfl : k = 3 := by omega
      have h2 := HS.out 3 (Nat.le_refl _)
      have HGR := hid (grow_any w (csum L 3) (by omega))
      go_wp2_with fail
      refine HGR.out.mono ?_
      rintro e w1 ⟨ao1, cap1, rfl, hown1, hb1⟩
      clear HGR
      go_wp2_with fail
      go_loopg [6, 27] 3 (fun gh v i wr => ∃ (k : Nat) (ao : Option Addr) (cap : Nat), k ≤ 3 ∧ gh = 3 - k ∧ v = .slice ao (csum L k) cap ∧ i = .int .i64 k ∧ wr.ownsRow w.heap.size 28 1 (.slice ao (csum L k) cap) (csum L k) (ccat V k) ∧ Below w.heap.size w wr)
      case atStart => exact ⟨0, ao1, cap1, Nat.zero_le _, rfl, rfl, rfl, hown1, hb1⟩
      case round =>
        clear hown1 hb1
        obtain ⟨k, ao, cap, hk, hgh, rfl, rfl, hown, hb⟩ := hrel
        have HG2 := hid hgh
        clear hgh
        by_cases hlt : k < 3
        · have hlt2 : (k : Int) < 3 := by omega
          have ck : wr.cell? ⟨g, k, none⟩ = some (.slice (la k) (L k) (lc k)) := (hb.cell (p := ⟨g, k, none⟩) hg).trans (HC.out k hlt)
          have HVK := hid (HV.out k hlt wr hb)
          have HLK := hid (HLn.out k hlt)
          have HNK := hid (HNo.out k hlt)
          have HOK := hid (HO1.out k hlt)
          have h3 : csum L k + L k ≤ 4294967296 := HS.out (k + 1) (by omega)
          have HE : Hid (csum L (k + 1) = csum L k + L k ∧ ccat V (k + 1) = ccat V k ++ V k) := hid ⟨rfl, rfl⟩
          have hsz := hb.size
          generalize csum L k = sk at *
          generalize ccat V k = ck2 at *
          generalize L k = lk at *
          generalize V k = vk at *
          go_wp2_with (at_builtin; go_must (refine wpList_append_src _ rfl (.tmp 31) (.tmp 32) 27 rfl w.heap.size 28 i0 (.slice none 0 0) 24 Tryd.underlying27 hi0 hz0 hz1 hz2 rfl ao sk cap ck2 rfl hown (la k) lk (lc k) vk rfl HLK.out HNK.out HVK.out HOK.out (by unfold maxLen; omega) (by omega) hsz ?_))
          intro ao' cap' w3 hown3 hgr _
          have hb3 : Below w.heap.size w w3 := hb.grown hgr hsz (fun g' hg' => (World.ownsRow.lt hown g' (by rw [ownBlock_slice]; exact hg')).1)
          have HO3 : Hid (w3.ownsRow w.heap.size 28 1 (.slice ao' (csum L (k + 1)) cap') (csum L (k + 1)) (ccat V (k + 1))) := hid (by rw [HE.out.1, HE.out.2]; exact hown3)
          clear hown hown3 hgr hb ck
          go_wp2_with fail
          go_roundg (3 - (k + 1))
          case measure => rw [HG2.out]; omega
          case rel => exact ⟨k + 1, ao', cap', by omega, rfl, by rw [HE.out.1], by go_num, HO3.out, hb3⟩
        · obtain rfl : k = 3 := by omega
          generalize hs2 : csum L 3 = s2 at *
          have HS2 := hid hs2
          clear hs2
          go_wp2_with fail
          go_ret
          rw [HS2.out]
          exact ⟨_, _, rfl, hown, hb⟩
end Go.Proofs.YthjjonbkfkpkmaaDoor.Fil
namespace Go.Proofs.YthjjonbkfkpkmaaDoor.Fil
open Go.Shelf Go.RowKit Gen

def jren : Go.Shelf.Ren := ⟨fun | 14 => 20 | 15 => 40 | n => n, fun | 0 => 0 | 3 => 3 | 4 => 4 | 9 => 9 | 20 => 20 | 22 => 28 | 26 => 27 | 5 => 5 | n => n, fun n => n⟩
set_option maxRecDepth 100000 in
theorem jlay : SlLaysJ.n14 Tryd.prog jren := {
  mixed := by kernel_rfl
  f14 := Tryd.func20.trans (congrArg some (by kernel_rfl))
  f15 := Tryd.func40.trans (congrArg some (by kernel_rfl))
  t0 := Tryd.underlying0
  a0 := Tryd.isAgg0
  z0 := Tryd.sizeOf0
  v0 := Tryd.zeroValue0
  t3 := Tryd.underlying3
  a3 := Tryd.isAgg3
  z3 := Tryd.sizeOf3
  v3 := Tryd.zeroValue3
  t4 := Tryd.underlying4
  a4 := Tryd.isAgg4
  z4 := Tryd.sizeOf4
  v4 := Tryd.zeroValue4
  t9 := Tryd.underlying9
  a9 := Tryd.isAgg9
  z9 := Tryd.sizeOf9
  v9 := Tryd.zeroValue9
  t20 := Tryd.underlying20
  a20 := Tryd.isAgg20
  z20 := Tryd.sizeOf20
  v20 := Tryd.zeroValue20
  t22 := Tryd.underlying28
  a22 := Tryd.isAgg28
  z22 := Tryd.sizeOf28
  v22 := Tryd.zeroValue28
  t26 := Tryd.underlying27
  a26 := Tryd.isAgg27
  z26 := Tryd.sizeOf27
  v26 := Tryd.zeroValue27
  t5 := Tryd.underlying5
  z5 := Tryd.sizeOf5
  i5 := Tryd.info5 }

def u8l (l : List Nat) : List UInt8 := l.map UInt8.ofNat
set_option maxRecDepth 100000 in
theorem u8l_len (l : List Nat) : (u8l l).length = l.length := List.length_map _
set_option maxRecDepth 100000 in
theorem holds_byts {w : World} {a : Option Addr} {l : List Nat} {cap : Nat} (h : Byts w a l) : Lib.HoldsBytes w (.slice a l.length cap) (u8l l) := by
  refine ⟨a, cap, by rw [u8l_len], fun e => by rw [h.none_len e]; rfl, fun b hb i x hx => ?_⟩
  unfold u8l at hx
  rw [List.getElem?_map] at hx
  obtain ⟨y, hy, rfl⟩ := Option.map_eq_some_iff.1 hx
  obtain ⟨g, off, e, hc⟩ := h.at_ i y hy
  rw [hb] at e
  cases e
  have hlt := h.lt y (List.mem_of_getElem? hy)
  rw [Addr.add_lit, hc, UInt8.toNat_ofNat', Nat.mod_eq_of_lt (by omega)]
/-- Lists of bytes lie behind the slices of a row. -/
def Parts (w : World) (a : Addr) (vs : List Value) (ls : List (List Nat)) : Prop :=
  vs.length = ls.length ∧ (∀ (i : Nat) v, vs[i]? = some v → w.cell? (a.add i) = some v) ∧ ∀ (i : Nat) v l, vs[i]? = some v → ls[i]? = some l → ∃ p cap, v = .slice p l.length cap ∧ Byts w p l
set_option maxRecDepth 100000 in
theorem Parts.lib {w : World} {a : Addr} {vs : List Value} {ls : List (List Nat)} (h : Parts w a vs ls) : Lib.PartsAt w a vs (ls.map u8l) := by
  refine ⟨by rw [List.length_map]; exact h.1, h.2.1, fun i v l hv hl => ?_⟩
  rw [List.getElem?_map] at hl
  obtain ⟨m, hm, rfl⟩ := Option.map_eq_some_iff.1 hl
  obtain ⟨p, cap, rfl, hb⟩ := h.2.2 i v m hv hm
  exact holds_byts hb
set_option maxRecDepth 100000 in
theorem lens_u8 : ∀ ls : List (List Nat), Lib.lens (ls.map u8l) = ls.flatten.length
  | [] => rfl
  | l :: r => by
    have h := lens_u8 r
    simp only [Lib.lens, List.map_cons, List.sum_cons, List.flatten_cons, List.length_append, u8l_len] at h ⊢
    rw [h]
set_option maxRecDepth 100000 in
theorem join_u8 : ∀ ls : List (List Nat), Lib.join (ls.map u8l) [] = u8l ls.flatten
  | [] => rfl
  | l :: r => by
    rw [List.map_cons, Lib.join_cons]
    have h : ∀ s : List (List Nat), Lib.joinTail [] (s.map u8l) = u8l s.flatten := fun s => by
      induction s with
      | nil => rfl
      | cons x t ih =>
        unfold Lib.joinTail at ih ⊢
        simp only [List.map_cons, List.flatten_cons, List.nil_append] at ih ⊢
        rw [ih]
        unfold u8l
        rw [List.map_append]
    rw [h, List.flatten_cons]
    unfold u8l
    rw [List.map_append]
set_option maxRecDepth 100000 in
theorem fresh_byts {B : Nat} {w : World} {v : Value} {l : List Nat} (hl : ∀ b ∈ l, b < 256) (h : Lib.FreshBytes B w v (u8l l)) :
    ∃ g cap, v = .slice (some ⟨g, 0, none⟩) l.length cap ∧ B ≤ g ∧ l.length ≤ cap ∧ cap ≤ maxLen ∧ Byts w (some ⟨g, 0, none⟩) l := by
  obtain ⟨g, cap, zs, rfl, hg, hc, hm, hz, hzb, hbo, hcl, hfz⟩ := h
  rw [u8l_len] at hc hbo
  refine ⟨g, cap, by rw [u8l_len], hg, hc, hm, hl, fun j x hj => ⟨g, 0, rfl, ?_⟩⟩
  have hjl : j < l.length := (List.getElem?_eq_some_iff.1 hj).1
  rw [Nat.zero_add, hcl j (by omega)]
  have hx := hl x (List.mem_of_getElem? hj)
  have e : (Lib.bytesOf (zs.take l.length))[j]? = (u8l l)[j]? := by rw [hbo]
  unfold u8l at e
  rw [List.getElem?_map, hj] at e
  have hzj : j < zs.length := by omega
  have hzm := hzb _ (List.getElem_mem hzj)
  have hzt : (zs.take l.length)[j]? = some zs[j] := by rw [List.getElem?_take, if_pos hjl, List.getElem?_eq_getElem hzj]
  have hgd : zs.getD j 0 = zs[j] := by rw [List.getD_eq_getElem?_getD, List.getElem?_eq_getElem hzj]; rfl
  rw [hgd]
  unfold Lib.bytesOf at e
  rw [List.getElem?_map, hzt] at e
  simp only [Option.map_some, Option.some.injEq] at e
  have e2 := congrArg UInt8.toNat e
  rw [UInt8.toNat_ofNat', UInt8.toNat_ofNat', Nat.mod_eq_of_lt (by omega), Nat.mod_eq_of_lt (by omega)] at e2
  congr 2
  omega
set_option maxRecDepth 100000 in
theorem join_any {w : World} {b o n c : Nat} {vs : List Value} {ls : List (List Nat)} (hn : ls.length = n) (h2 : 2 ≤ n) (hP : Parts w ⟨b, o, none⟩ vs ls) (hc : n ≤ c) (hm : n ≤ 140737488355328) (hl : ls.flatten.length ≤ 140737488355328) :
    Calls Tryd.prog 20 #[.slice (some ⟨b, o, none⟩) n c, .slice none 0 0] w fun e w' => ∃ g cap, e = .returned (.slice (some ⟨g, 0, none⟩) ls.flatten.length cap) ∧ w.heap.size ≤ g ∧ ls.flatten.length ≤ cap ∧ Byts w' (some ⟨g, 0, none⟩) ls.flatten ∧ Below w.heap.size w w' := by
  have hlt : ∀ x ∈ ls.flatten, x < 256 := by
    intro x hx
    obtain ⟨l, hl, hxl⟩ := List.mem_flatten.1 hx
    obtain ⟨i, hi⟩ := List.mem_iff_getElem?.1 hl
    have hil : i < vs.length := by rw [hP.1]; exact (List.getElem?_eq_some_iff.1 hi).1
    obtain ⟨p, cap, _, hb⟩ := hP.2.2 i vs[i] l (List.getElem?_eq_getElem hil) hi
    exact hb.lt x hxl
  refine (Any.bytes_Join_many jlay b o n c vs (ls.map u8l) (.slice none 0 0) [] w (by rw [List.length_map]; exact hn) h2 hP.lib hc ⟨none, 0, rfl, fun _ => rfl, fun _ h => by cases h⟩ hm (by rw [lens_u8]; simpa using hl)).mono ?_
  rintro e w' ⟨v, rfl, hf, hb⟩
  rw [join_u8] at hf
  obtain ⟨g, cap, rfl, hg, hcap, _, hby⟩ := fresh_byts hlt hf
  exact ⟨g, cap, rfl, hg, hcap, hby, hb⟩
end Go.Proofs.YthjjonbkfkpkmaaDoor.Fil
namespace Go.Proofs.YthjjonbkfkpkmaaDoor.Fil
open Go.RowKit Gen
open Tl (il il_app rise TRt)
attribute [local go_sem] Oper.semAt_some

/-- Bytes in new memory, and an error. -/
def PutF (w : World) (x : Int) (l : List Nat) (e : Ending) (w' : World) : Prop :=
  ∃ ao cap, e = .returned (.tuple #[.slice ao l.length cap, .int .i64 x]) ∧ Byts w' ao l ∧ l.length ≤ cap ∧ (ao = none → l.length = 0 ∧ cap = 0) ∧ (∀ k, blk ao = some k → w.heap.size ≤ k) ∧ Below w.heap.size w w'
set_option maxRecDepth 100000 in
theorem own_le {w : World} {B : Nat} {e : TypeId} {ao : Option Addr} {n cap : Nat} {xs : List Value} (h : w.ownsRow B e 1 (.slice ao n cap) n xs) : n ≤ cap := by
  rcases h.2 with ⟨hv, _⟩ | ⟨g, c, cur, hv, h1, h2, h3, _⟩
  · cases hv; exact Nat.le_refl _
  · cases hv; exact h3
set_option maxRecDepth 100000 in
theorem own_in {w : World} {B : Nat} {e : TypeId} {ao : Option Addr} {n cap : Nat} {xs : List Value} (h : w.ownsRow B e 1 (.slice ao n cap) n xs) (k : Nat) (hk : blk ao = some k) : B ≤ k ∧ k < w.heap.size := h.lt k (by rw [ownBlock_slice]; exact hk)
set_option maxRecDepth 100000 in
theorem putf_none {w w' : World} (x : Int) (h : Below w.heap.size w w') : PutF w x [] (.returned (.tuple #[.slice none 0 0, .int .i64 x])) w' := ⟨none, 0, rfl, Byts.nil _ _, Nat.le_refl _, fun _ => ⟨rfl, rfl⟩, fun k hk => (by cases hk), h⟩
set_option maxRecDepth 100000 in
theorem iput_all {w : World} {t : Nat} (ht : Crc.Tab w t) (i : Inf.If) :
    Calls Tryd.prog 14 #[.pointer (some ⟨t, 0, none⟩), Inf.iv i] w (PutF w (if Inf.Rt i then 0 else 32) (if Inf.Rt i then Inf.iby i else [])) := by
  by_cases h : Inf.Rt i
  · rw [if_pos h, if_pos h]
    refine (Inf.put_ok ht i h).mono ?_
    rintro e w' ⟨ao, cap, rfl, hn⟩
    exact ⟨ao, cap, rfl, hn.byts, own_le hn.own, hn.nil, fun k hk => (own_in hn.own k hk).1, hn.bel⟩
  · rw [if_neg h, if_neg h]
    refine (Inf.put_bad i h).mono ?_
    rintro e w' ⟨ao, cap, rfl, hn⟩
    exact ⟨ao, cap, rfl, hn.byts, own_le hn.own, hn.nil, fun k hk => (own_in hn.own k hk).1, hn.bel⟩
set_option maxRecDepth 100000 in
theorem gput_all {w : World} {t : Nat} (ht : Crc.Tab w t) (hT : Tg.Tabs w) {a : Option Addr} {len b off : Nat} {T : Nat → Tg.Tag} (h : Tg.Tb w a len b off T) (hz : Tg.Sz T len) {cap : Nat} (hc : len ≤ cap) :
    Calls Tryd.prog 15 #[.pointer (some ⟨t, 0, none⟩), .slice a len cap] w (PutF w (Tg.chk T len).2 (if (Tg.chk T len).2 = 0 then Tg.pby (Tg.lst T len) else [])) := by
  refine (Tg.put_any ht hT h hz hc).mono ?_
  rintro e w' ⟨ao, cap, rfl, hn⟩
  exact ⟨ao, cap, rfl, hn.byts, own_le hn.own, hn.nil, fun k hk => (own_in hn.own k hk).1, hn.bel⟩
set_option maxRecDepth 100000 in
theorem nts_ints {w : World} {base n cap : Nat} {a : Option Addr} {P : List Int} (h : w.ownsRow base 3 1 (.slice a n cap) n (il P)) : Tl.Nts w a P := Tl.nts_own h
set_option maxRecDepth 100000 in
theorem tput_all {w : World} {t : Nat} (ht : Crc.Tab w t) {a : Option Addr} {P : List Int} {n cap s base : Nat} {c : Int} (hn : P.length = n) (hP : w.ownsRow base 3 1 (.slice a n cap) n (il P)) (hs : s < 4294967296) (hr : TRt c P) :
    Calls Tryd.prog 17 #[.pointer (some ⟨t, 0, none⟩), .agg #[.int .i64 c, .int .u32 (s : Int), .slice a n cap]] w (PutF w 0 (Tl.tby c s P)) := by
  refine (Tl.tput_ok ht hn (nts_ints hP) hs hr).mono ?_
  rintro e w' ⟨ao, cap, rfl, hn⟩
  exact ⟨ao, cap, rfl, hn.byts, own_le hn.own, hn.nil, fun k hk => (own_in hn.own k hk).1, hn.bel⟩
/-- Blocks of bytes lie behind the slices of a row. -/
structure Bb (w : World) (a : Option Addr) (n b off : Nat) (L : Nat → List Nat) : Prop where
  addr : 0 < n → a = some ⟨b, off, none⟩
  c : ∀ j, j < n → ∃ p cap, w.cell? ⟨b, off + j, none⟩ = some (.slice p (L j).length cap) ∧ Byts w p (L j) ∧ (L j).length ≤ cap
set_option maxRecDepth 100000 in
theorem Bb.keep {w w' : World} {a : Option Addr} {n b off : Nat} {L : Nat → List Nat} (h : Bb w a n b off L) (hb : Below w.heap.size w w') : Bb w' a n b off L :=
  ⟨h.addr, fun j hj => by
    obtain ⟨p, cap, h1, h2, h3⟩ := h.c j hj
    exact ⟨p, cap, (hb.cell (p := ⟨b, off + j, none⟩) (World.block_lt_of_cell? w _ h1)).trans h1, h2.keep hb, h3⟩⟩
/-- Few and short blocks. -/
def Fwb (L : Nat → List Nat) (n : Nat) : Prop := n ≤ 12 ∧ ∀ j, j < n → (L j).length ≤ 300
set_option maxRecDepth 100000 in
theorem fwb_flat {L : Nat → List Nat} {n k : Nat} (h : Fwb L n) (hk : k ≤ n) : (flat L k).length ≤ 3600 := by
  have := flat_le (m := 300) k fun j hj => h.2 j (by omega)
  have := h.1
  omega
end Go.Proofs.YthjjonbkfkpkmaaDoor.Fil
namespace Go.Proofs.YthjjonbkfkpkmaaDoor.Tg
open Go.RowKit Gen Fld
open Crc hiding hid

/-- Bytes begin as a block, as far as there are some. -/
def Bgn (l : List Nat) : Prop := l.take 2 = [84, 71].take l.length
instance (l : List Nat) : Decidable (Bgn l) := by unfold Bgn; exact inferInstance
set_option maxRecDepth 100000 in
theorem u8_beq {l m : List Nat} (hl : ∀ b ∈ l, b < 256) (hm : ∀ b ∈ m, b < 256) : (l.map UInt8.ofNat == m.map UInt8.ofNat) = decide (l = m) := by
  rw [← toList_tos, ← toList_tos]; exact tos_beq hl hm
set_option maxRecDepth 100000 in
theorem begins_zero {w : World} {a : Option Addr} {cap : Nat} : Calls Tryd.prog 46 #[.slice a 0 cap] w fun e w' => e = .returned (.bool true) ∧ w = w' := by
  have hcv := (Byts.nil w a).conv cap
  have hmin : min (0 : Int) 2 = 0 := by decide
  rw [show ([] : List Nat).length = 0 from rfl] at hcv
  have hl : (tos []).toList = [] := toList_tos []
  have hs : (tos []).size = 0 := tos_size []
  go_enter Tryd.func46, Tryd.ntmps46
  go_wp2_with fail
  go_ret
  exact ⟨rfl, rfl⟩
set_option maxRecDepth 100000 in
theorem begins_one {w : World} {a : Option Addr} {cap x : Nat} (hb : Byts w a [x]) (hc : 1 ≤ cap) : Calls Tryd.prog 46 #[.slice a 1 cap] w fun e w' => e = .returned (.bool (decide ([x] = [84]))) ∧ w = w' := by
  have hcv := hb.conv cap
  have hmin : min (1 : Int) 2 = 1 := by decide
  rw [show [x].length = 1 from rfl] at hcv
  have hs : (tos [x]).size = 1 := tos_size _
  have hl : (tos [x]).toList = [x].map UInt8.ofNat := toList_tos _
  have hm : (({ data := #[84, 71] } : ByteArray).extract 0 1).toList = [84].map UInt8.ofNat := by rw [ByteArray.toList_eq]; decide
  have HQ := hid (u8_beq (l := [x]) (m := [84]) hb.lt (by decide))
  have HM := hid hm
  clear hb hm
  generalize tos [x] = t at *
  generalize [x] = lx at *
  go_enter Tryd.func46, Tryd.ntmps46
  go_wp2_with fail
  go_ret
  refine ⟨?_, rfl⟩
  show Ending.returned (.bool (lx.map UInt8.ofNat == (({ data := #[84, 71] } : ByteArray).extract 0 1).toList)) = _
  rw [HM.out, HQ.out]
set_option maxRecDepth 100000 in
theorem begins_two {w : World} {a : Option Addr} {cap n : Nat} {l : List Nat} (hb : Byts w a l) (hl2 : l.length = n) (hn : 2 ≤ n) (hc : n ≤ cap) (hm : n ≤ 1099511627776) : Calls Tryd.prog 46 #[.slice a n cap] w fun e w' => e = .returned (.bool (decide (l.take 2 = [84, 71]))) ∧ w = w' := by
  have hlt : (l.take 2).length = 2 := by rw [List.length_take]; omega
  have hcv := (hb.take 2).conv cap
  rw [hlt] at hcv
  have hs : (tos (l.take 2)).size = 2 := by rw [tos_size, hlt]
  have hl : (tos (l.take 2)).toList = (l.take 2).map UInt8.ofNat := toList_tos _
  have hm : (({ data := #[84, 71] } : ByteArray).extract 0 2).toList = [84, 71].map UInt8.ofNat := by rw [ByteArray.toList_eq]; decide
  have HQ := hid (u8_beq (l := l.take 2) (m := [84, 71]) (hb.take 2).lt (by decide))
  have HM := hid hm
  have hc2 : 2 ≤ cap := by omega
  clear hb hm hl2 hlt
  generalize tos (l.take 2) = t at *
  generalize l.take 2 = lx at *
  by_cases h2 : n = 2
  · subst h2
    clear hn hc
    go_enter Tryd.func46, Tryd.ntmps46
    go_wp2_with fail
    go_ret
    refine ⟨?_, rfl⟩
    show Ending.returned (.bool (lx.map UInt8.ofNat == (({ data := #[84, 71] } : ByteArray).extract 0 2).toList)) = _
    rw [HM.out, HQ.out]
  · have hn1 : ¬ (n : Int) ≤ 2 := by omega
    have hn2 : ¬ (n : Int) < 2 := by omega
    have hmin : min (n : Int) 2 = 2 := by omega
    clear h2 hn
    go_enter Tryd.func46, Tryd.ntmps46
    go_wp2_with fail
    go_ret
    refine ⟨?_, rfl⟩
    show Ending.returned (.bool (lx.map UInt8.ofNat == (({ data := #[84, 71] } : ByteArray).extract 0 2).toList)) = _
    rw [HM.out, HQ.out]
set_option maxRecDepth 100000 in
theorem begins_any {w : World} {a : Option Addr} {cap : Nat} {l : List Nat} (hb : Byts w a l) (hc : l.length ≤ cap) (hm : l.length ≤ 1099511627776) : Calls Tryd.prog 46 #[.slice a l.length cap] w fun e w' => e = .returned (.bool (decide (Bgn l))) ∧ w = w' := by
  match l, hb, hc, hm with
  | [], _, _, _ => exact begins_zero
  | [x], hb, hc, _ =>
    rw [show decide (Bgn [x]) = decide ([x] = [84]) from decide_eq_decide.2 (by unfold Bgn; simp)]
    exact begins_one hb hc
  | x :: y :: t, hb, hc, hm =>
    rw [show decide (Bgn (x :: y :: t)) = decide ((x :: y :: t).take 2 = [84, 71]) from decide_eq_decide.2 (by unfold Bgn; simp)]
    exact begins_two hb rfl (by simp) hc hm
end Go.Proofs.YthjjonbkfkpkmaaDoor.Tg
