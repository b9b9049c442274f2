/- What is read from the bytes of tags: those tags. No program. Conditions: nothing is wrong with the tags. -/
import Derived.Test.YthjjonbkfkpkmaaGreatDoorZ32
import Derived.Test.YthjjonbkfkpkmaaGreatDoorZ05
namespace Go.Proofs.YthjjonbkfkpkmaaGreatDoor.Tg
open Go.RowKit Gen Fld
open Crc hiding hid

set_option maxRecDepth 100000 in
theorem fi_congr {p q : Nat → Bool} : ∀ {n : Nat}, (∀ i, i < n → p i = q i) → fi p n = fi q n
  | 0, _ => rfl
  | n + 1, h => by unfold fi; rw [fi_congr (fun i hi => h i (by omega)), h n (by omega)]
set_option maxRecDepth 100000 in
theorem kd_congr {T U : Nat → Tag} {i : Nat} (h : ∀ j, j ≤ i → T j = U j) : kd T i = kd U i := by
  unfold kd
  rw [h i (Nat.le_refl _), fx_congr (q := lk U (fold (U i).k)) (fun j hj => by unfold lk; rw [h j (by omega)])]
set_option maxRecDepth 100000 in
theorem chk_congr {T U : Nat → Tag} {n : Nat} (h : ∀ j, j < n → T j = U j) : chk T n = chk U n := by
  unfold chk
  by_cases h64 : 64 < n
  · rw [if_pos h64, if_pos h64]
  · rw [if_neg h64, if_neg h64, fi_congr (q := bad U) (fun i hi => by unfold bad; rw [kd_congr (fun j hj => h j (by omega))])]
    rcases fi_cases (bad U) n with ⟨h1, _⟩ | ⟨k, h1, hk, _⟩
    · rw [h1]
    · rw [h1]
      show (_, _) = (_, _)
      rw [kd_congr (fun j hj => h j (by omega))]
set_option maxRecDepth 100000 in
theorem nx_app (m r : List Nat) (p : Nat) (n : Nat) (f : Bool) (hm : m.length = n) (hf : f = true → 1 ≤ n ∧ n ≤ 8) : nx ⟨0, m ++ r, p⟩ (n : Int) f = (m, ⟨0, r, p + n⟩) := by
  rw [nx_ok (s := ⟨0, m ++ r, p⟩) rfl hf (by show n ≤ (m ++ r).length; rw [List.length_append]; omega)]
  show ((m ++ r).take n, TS.mk 0 ((m ++ r).drop n) (p + n)) = _
  rw [← hm, List.take_left, List.drop_left]
set_option maxRecDepth 100000 in
theorem lev_lev {v n k : Nat} (hk : 2 ^ (8 * n) = k) (h : v < k) : lev (le v n) = v := by rw [lev_le, hk, Nat.mod_eq_of_lt h]
set_option maxRecDepth 100000 in
theorem tx_app (s : ByteArray) (r : List Nat) (p n k : Nat) (hn : 1 ≤ n ∧ n ≤ 8) (hk : 2 ^ (8 * n) = k) (hs : s.size < k) : tx ⟨0, le s.size n ++ (sb s ++ r), p⟩ (n : Int) = (sb s, ⟨0, r, p + n + s.size⟩) := by
  have h1 := nx_app (le s.size n) (sb s ++ r) p n true (le_len _ _) (fun _ => hn)
  have h2 := nx_app (sb s) r (p + n) s.size false (sb_len s) (fun e => by cases e)
  unfold tx
  rw [h1, lev_lev hk hs, if_neg (by show ¬ (sb s ++ r).length < s.size; rw [List.length_append, sb_len]; omega)]
  exact h2
set_option maxRecDepth 100000 in
theorem tag_app (t : Tag) (ht : Ft t) (r : List Nat) (p : Nat) : tx ⟨0, tby t ++ r, p⟩ 1 = (sb t.k, ⟨0, le t.v.size 2 ++ (sb t.v ++ r), p + 1 + t.k.size⟩) ∧ tx ⟨0, le t.v.size 2 ++ (sb t.v ++ r), p + 1 + t.k.size⟩ 2 = (sb t.v, ⟨0, r, p + (tby t).length⟩) := by
  have e1 : tby t ++ r = le t.k.size 1 ++ (sb t.k ++ (le t.v.size 2 ++ (sb t.v ++ r))) := by unfold tby; simp only [List.append_assoc]
  rw [e1, tby_len, show p + (t.k.size + t.v.size + 3) = p + 1 + t.k.size + 2 + t.v.size from by omega]
  exact ⟨tx_app t.k _ p 1 256 (by decide) (by decide) ht.1, tx_app t.v r _ 2 65536 (by decide) (by decide) ht.2⟩
set_option maxRecDepth 100000 in
theorem st_app (L : List Tag) (hL : ∀ t ∈ L, Ft t) (r : List Nat) (p : Nat) : ∀ k, k ≤ L.length → st ⟨0, tbs L ++ r, p⟩ k = ⟨0, tbs (L.drop k) ++ r, p + (tbs (L.take k)).length⟩
  | 0, _ => rfl
  | k + 1, hk => by
    have ih := st_app L hL r p k (by omega)
    have hd : L.drop k = L[k] :: L.drop (k + 1) := List.drop_eq_getElem_cons (by omega)
    have hk2 : L.take (k + 1) = L.take k ++ [L[k]] := List.take_succ_eq_append_getElem (by omega)
    have ht := hL L[k] (List.getElem_mem (by omega))
    have h1 := tag_app L[k] ht (tbs (L.drop (k + 1)) ++ r) (p + (tbs (L.take k)).length)
    show (tx (tx (st ⟨0, tbs L ++ r, p⟩ k) 1).2 2).2 = _
    rw [ih, hd]
    show (tx (tx ⟨0, (tby L[k] ++ tbs (L.drop (k + 1))) ++ r, _⟩ 1).2 2).2 = _
    rw [List.append_assoc, h1.1]
    show (tx ⟨0, _, _⟩ 2).2 = _
    rw [h1.2, hk2, tbs_app, List.length_append]
    show TS.mk 0 _ (_ + _ + (tby L[k]).length) = TS.mk 0 _ (_ + (_ + (tby L[k] ++ []).length))
    rw [List.append_nil, Nat.add_assoc]
set_option maxRecDepth 100000 in
theorem tgx_app (L : List Tag) (hL : ∀ t ∈ L, Ft t) (r : List Nat) (p : Nat) (k : Nat) (hk : k < L.length) : tgx ⟨0, tbs L ++ r, p⟩ k = L[k] := by
  have ih := st_app L hL r p k (by omega)
  have hd : L.drop k = L[k] :: L.drop (k + 1) := List.drop_eq_getElem_cons (by omega)
  have ht := hL L[k] (List.getElem_mem (by omega))
  have h1 := tag_app L[k] ht (tbs (L.drop (k + 1)) ++ r) (p + (tbs (L.take k)).length)
  unfold tgx
  rw [ih, hd]
  show Tag.mk (tos (tx ⟨0, (tby L[k] ++ tbs (L.drop (k + 1))) ++ r, _⟩ 1).1) (tos (tx (tx ⟨0, (tby L[k] ++ tbs (L.drop (k + 1))) ++ r, _⟩ 1).2 2).1) = _
  rw [List.append_assoc, h1.1]
  show Tag.mk (tos (sb L[k].k)) (tos (tx ⟨0, _, _⟩ 2).1) = _
  rw [h1.2, tos_sb]
  show Tag.mk _ (tos (sb L[k].v)) = _
  rw [tos_sb]
set_option maxRecDepth 100000 in
/-- What is read from the bytes of right tags and more. -/
theorem get_pby {T : Nat → Tag} {n : Nat} (h : (chk T n).2 = 0) (more : List Nat) : gF (pby (lst T n) ++ more) = 0 ∧ gL (pby (lst T n) ++ more) = lst T n ∧ gP (pby (lst T n) ++ more) = (pby (lst T n)).length := by
  have hn := chk_few h
  have hF : ∀ t ∈ lst T n, Ft t := fun t ht => by
    obtain ⟨i, hi⟩ := List.mem_iff_getElem?.1 ht
    have hil := (List.getElem?_eq_some_iff.1 hi).1
    rw [lst_len] at hil
    rw [lst_at T n i hil] at hi
    cases hi
    exact bad_ft (chk_zero h i hil)
  have hll := lst_len T n
  obtain ⟨L, hL⟩ : ∃ L, L = lst T n := ⟨_, rfl⟩
  rw [← hL] at hF hll ⊢
  have hTL : ∀ i (hi : i < n), L[i]'(by omega) = T i := fun i hi => by
    have := lst_at T n i hi
    rw [← hL] at this
    exact (List.getElem?_eq_some_iff.1 this).2
  obtain ⟨B, hB⟩ : ∃ B, B = pby L ++ more := ⟨_, rfl⟩
  have e1 : B = [84, 71] ++ (le n 1 ++ (tbs L ++ (le (cs (bod L)) 4 ++ more))) := by rw [hB]; unfold pby bod; rw [hll]; simp only [List.append_assoc]
  have hb0 : Bgn B := by unfold Bgn; rw [e1]; rfl
  have hbl : (bod L).length = 3 + (tbs L).length := by unfold bod; simp only [List.length_append, le_len, List.length_cons, List.length_nil]
  have n1 := nx_app [84, 71] (le n 1 ++ (tbs L ++ (le (cs (bod L)) 4 ++ more))) 0 2 false rfl (fun e => by cases e)
  have n2 := nx_app (le n 1) (tbs L ++ (le (cs (bod L)) 4 ++ more)) 2 1 true (le_len _ _) (fun _ => by decide)
  rw [← e1] at n1
  have q0 : nx (nx ⟨0, B, 0⟩ 2 false).2 1 true = (le n 1, ⟨0, tbs L ++ (le (cs (bod L)) 4 ++ more), 3⟩) := by
    rw [show ((2 : Nat) : Int) = 2 from rfl] at n1
    rw [n1]; exact n2
  have c0 : gc B = n := by unfold gc; rw [q0]; exact lev_lev (k := 256) (by decide) (by omega)
  have s0 : g0 B = ⟨0, tbs L ++ (le (cs (bod L)) 4 ++ more), 3⟩ := by unfold g0; rw [q0]
  have E0 : gE B = ⟨0, le (cs (bod L)) 4 ++ more, (bod L).length⟩ := by
    unfold gE
    rw [s0, c0, st_app L hF _ 3 n (by omega), List.drop_of_length_le (by omega), List.take_of_length_le (by omega), hbl]
    rfl
  have X0 : gX B = (le (cs (bod L)) 4, ⟨0, more, (bod L).length + 4⟩) := by
    unfold gX
    rw [E0]
    exact nx_app (le (cs (bod L)) 4) more _ 4 true (le_len _ _) (fun _ => by decide)
  have T0 : ∀ i, i < n → gT B i = T i := fun i hi => by
    unfold gT
    rw [s0, tgx_app L hF _ 3 i (by omega), hTL i hi]
  have tk : B.take (bod L).length = bod L := by
    rw [hB]; unfold pby; rw [List.append_assoc, List.take_left]
  have F0 : gF B = 0 := by
    rw [gF_chk hb0 (by rw [X0]) (by rw [X0, E0, tk]; exact lev_lev (k := 4294967296) (by decide) (cs_lt (bod_lt L))), c0, chk_congr T0, h]
  rw [← hB]
  refine ⟨F0, ?_, ?_⟩
  · unfold gL
    rw [F0, if_pos rfl, c0, hL]
    apply List.ext_getElem?
    intro i
    by_cases hi : i < n
    · rw [lst_at _ _ _ hi, lst_at _ _ _ hi, T0 i hi]
    · rw [List.getElem?_eq_none (by rw [lst_len]; omega), List.getElem?_eq_none (by rw [lst_len]; omega)]
  · unfold gP
    rw [F0, if_pos rfl, X0]
    show (bod L).length + 4 = _
    unfold pby
    rw [List.length_append, le_len]
end Go.Proofs.YthjjonbkfkpkmaaGreatDoor.Tg
namespace Go.Proofs.YthjjonbkfkpkmaaGreatDoor.Fld
open Go.RowKit Gen

set_option maxRecDepth 20000 in
theorem le_congr (v u n : Nat) (h : v % 2 ^ (8 * n) = u % 2 ^ (8 * n)) : le v n = le u n := by
  induction n with
  | zero => rfl
  | succ n ih =>
    have e : 2 ^ (8 * (n + 1)) = 2 ^ (8 * n) * 256 := by rw [show 8 * (n + 1) = 8 * n + 8 from by omega, Nat.pow_add]
    rw [e] at h
    have h1 : v % 2 ^ (8 * n) = u % 2 ^ (8 * n) := by
      have := congrArg (· % 2 ^ (8 * n)) h
      simpa [Nat.mod_mul_right_mod] using this
    have h2 : v / 2 ^ (8 * n) % 256 = u / 2 ^ (8 * n) % 256 := by
      have := congrArg (· / 2 ^ (8 * n)) h
      simpa [Nat.mod_mul_right_div_self] using this
    rw [le, le, ih h1, h2]

set_option maxRecDepth 20000 in
theorem own_ret {w w' : World} {e : Nat} {m : List Nat} {n : Nat} (hn : m.length = n) (ho : w'.ownsRow w.heap.size 5 1 (.slice (some ⟨w.heap.size, 0, none⟩) n n) n (bl m)) (hb : Below w.heap.size w w') :
    RefP w e m (.returned (.tuple #[.slice (some ⟨w.heap.size, 0, none⟩) n n, .int .i64 (e : Int)])) w' := by
  subst hn
  exact ⟨_, _, rfl, ho, hb⟩

set_option maxRecDepth 20000 in
theorem neg_mod (v : Int) (k : Nat) (hk : 1 ≤ k) (hk8 : k ≤ 7) (h1 : -2 ^ (8 * k - 1) ≤ v) (h2 : v < 0) : (v + 2 ^ (8 * k)).toNat % 2 ^ (8 * k) = u64 v % 2 ^ (8 * k) := by
  unfold u64
  have hh : k = 1 ∨ k = 2 ∨ k = 3 ∨ k = 4 ∨ k = 5 ∨ k = 6 ∨ k = 7 := by omega
  rcases hh with rfl | rfl | rfl | rfl | rfl | rfl | rfl <;> simp only [Nat.reduceMul, Nat.reduceSub, Nat.reducePow, Int.reducePow] at h1 ⊢ <;> omega

end Go.Proofs.YthjjonbkfkpkmaaGreatDoor.Fld
namespace Go.Proofs.YthjjonbkfkpkmaaGreatDoor.Fld
open Go.RowKit Gen

set_option maxRecDepth 20000 in
theorem sb_at (s : ByteArray) (k : Nat) (hk : k < s.size) : (sb s)[k]? = some (s[k].toNat) := by
  have hk2 : k < s.data.size := hk
  simp only [sb, List.getElem?_map, Array.getElem?_toList]
  rw [Array.getElem?_eq_getElem hk2]
  rfl

set_option maxRecDepth 20000 in
set_option maxHeartbeats 1000000 in
theorem rtext_any (s : ByteArray) (n : Int) (hs : s.size ≤ 274877906944) (w : World) :
    Calls Tryz.prog 65 #[.string s, .int .i64 n] w (RefP w (uErr s.size n) (ifOk (uErr s.size n) (le s.size n.toNat ++ sb s))) := by
  by_cases he : uErr s.size n = 0
  · obtain ⟨i0, hi, hz0, hz1, hz2⟩ := info_parts Tryz.info5
    have hll := le_len s.size n.toNat
    have hsl := sb_len s
    have hn8 : n.toNat ≤ 8 := by
      unfold uErr at he
      split at he
      · omega
      · omega
    have HE := hid he
    have HS := hid hsl
    clear he hsl
    rw [HE.out]
    go_enter Tryz.func65, Tryz.ntmps65
    go_wp2_with fail
    refine (ru_any s.size n (by omega) _).mono ?_
    rintro e w1 ⟨ao, cap, rfl, hown, hb⟩
    rw [HE.out] at hown ⊢
    have hown2 : w1.ownsRow w.heap.size 5 1 (.slice ao n.toNat cap) n.toNat (bl (le s.size n.toNat)) := by
      have := hown
      unfold ifOk at this
      rw [if_pos rfl, hll] at this
      exact this
    have hlen : (ifOk 0 (le s.size n.toNat)).length = n.toNat := by unfold ifOk; rw [if_pos rfl, hll]
    rw [hlen]
    have HO := hid hown2
    have HB := hid hb
    have HL := hid hll
    clear hown hown2 hb hlen hll
    go_wp2_with fail
    go_loopw [6, 8] (fun v i wr => ∃ (k : Nat) (lo : Option Addr) (lcap : Nat), k ≤ s.size ∧ i = .int .i64 k ∧ v = .slice lo (n.toNat + k) lcap ∧ wr.ownsRow w.heap.size 5 1 (.slice lo (n.toNat + k) lcap) (n.toNat + k) (bl (le s.size n.toNat ++ (sb s).take k)) ∧ Below w.heap.size w wr) (fun _ i _ => s.size - (intOf i).toNat)
    case atStart => exact ⟨0, ao, cap, Nat.zero_le _, rfl, rfl, by rw [List.take_zero, List.append_nil]; exact HO.out, HB.out⟩
    case round =>
      obtain ⟨k, lo, lcap, hk, rfl, rfl, hown, hb⟩ := hrel
      have HO1 := hid hown
      have HB1 := hid hb
      clear hown hb HO HB
      by_cases hlt : k < s.size
      · have hx := sb_at s k hlt
        have HX := hid (show (sb s).take (k + 1) = (sb s).take k ++ [s[k].toNat] by
          have hk2 : k < (sb s).length := by rw [HS.out]; exact hlt
          rw [List.take_succ_eq_append_getElem hk2]
          rw [List.getElem?_eq_getElem hk2] at hx
          simp at hx
          rw [hx])
        clear hx
        go_wp2_with (at_builtin; (refine (wpList_append_one (by rfl) _ _ _ (by rfl) w.heap.size 5 i0 _ 1 Tryz.underlying32 hi hz0 hz1 hz2 rfl lo (n.toNat + k) lcap _ (by rfl) (HO1.out.alloc _) ⟨wr.heap.size, 0, none⟩ 1 (.int .u8 (s[k].toNat : Int)) (by rfl) (by simp) rfl (by unfold maxLen; omega) (by omega) (by have := HB1.out.size; simp; omega) ?_)))
        intro gg cap3 w2 hown2 hK
        have hb2 : Below w.heap.size w w2 := (HB1.out.alloc HB1.out.size _).trans ⟨hK.grown.os, hK.grown.tape, hK.grown.output, hK.grown.size, fun j hj => hK.grown.block j (by have := HB1.out.size; simp; omega) (fun e => by
          have := (HO1.out.lt j (by rw [ownBlock_slice]; exact e.symm)).1; omega)⟩
        have hown3 : w2.ownsRow w.heap.size 5 1 (.slice (some ⟨gg, 0, none⟩) (n.toNat + (k + 1)) cap3) (n.toNat + (k + 1)) (bl (le s.size n.toNat ++ (sb s).take (k + 1))) := by
          rw [HX.out, ← List.append_assoc, bl_app (le s.size n.toNat ++ (sb s).take k)]
          exact hown2
        have HC := hid (And.intro hown3 hb2)
        clear hown2 hK hb2 hown3 HO1 HB1 HX
        go_wp2_with fail
        go_roundw
        case rel => exact ⟨k + 1, some ⟨gg, 0, none⟩, cap3, by omega, by go_num, rfl, HC.out.1, HC.out.2⟩
        case measure => simp [intOf]; omega
      · obtain rfl : k = s.size := by omega
        have hm : (ifOk 0 (le s.size n.toNat ++ sb s)).length = n.toNat + s.size := by unfold ifOk; rw [if_pos rfl, List.length_append, HL.out, HS.out]
        have hm2 : (sb s).take s.size = sb s := List.take_of_length_le (by rw [HS.out]; exact Nat.le_refl _)
        have HM := hid hm
        have HM2 := hid hm2
        clear hm hm2
        go_wp2_with fail
        go_ret2
        refine ⟨lo, lcap, ?_, ?_, HB1.out⟩
        · rw [HM.out]; rfl
        · rw [HM.out]
          have := HO1.out
          rw [HM2.out] at this
          exact this
  · have HE := hid he
    clear he
    go_enter Tryz.func65, Tryz.ntmps65
    go_wp2_with fail
    refine (ru_any s.size n (by omega) _).mono ?_
    rintro e w1 ⟨ao, cap, rfl, hown, hb⟩
    have hne : ((uErr s.size n : Int) != 0) = true := by rw [bne_iff_ne]; have := HE.out; omega
    have HB := hid hb
    clear hown hb
    go_wp2_with fail
    go_ret2
    unfold ifOk
    rw [if_neg HE.out]
    exact ⟨none, 0, rfl, World.ownsRow_nil _ _ _ _, HB.out⟩

/-! ### Calls of a maker, in memory -/
/-- A slice of calls. -/
structure Acts (w : World) (a : Option Addr) (len : Nat) (K : Nat → Int) (V : Nat → Nat) (N : Nat → Int) (S : Nat → ByteArray) : Prop where
  at_ : ∀ j, j < len → ∃ b off, a = some ⟨b, off, none⟩ ∧ w.cell? ⟨b, off + j * 4, none⟩ = some (.int .i64 (K j)) ∧ w.cell? ⟨b, off + j * 4 + 1, none⟩ = some (.int .u64 (V j : Int)) ∧
    w.cell? ⟨b, off + j * 4 + 2, none⟩ = some (.int .i64 (N j)) ∧ w.cell? ⟨b, off + j * 4 + 3, none⟩ = some (.string (S j))
  vlt : ∀ j, V j < 18446744073709551616
set_option maxRecDepth 20000 in
theorem Acts.keep {w w' : World} {a : Option Addr} {len : Nat} {K : Nat → Int} {V : Nat → Nat} {N : Nat → Int} {S : Nat → ByteArray} (h : Acts w a len K V N S) (e : Below w.heap.size w w') : Acts w' a len K V N S :=
  ⟨fun j hj => by
    obtain ⟨b, off, ha, h0, h1, h2, h3⟩ := h.at_ j hj
    have hl := World.block_lt_of_cell? w _ h0
    exact ⟨b, off, ha, (e.cell (p := ⟨b, off + j * 4, none⟩) hl).trans h0, (e.cell (p := ⟨b, off + j * 4 + 1, none⟩) hl).trans h1, (e.cell (p := ⟨b, off + j * 4 + 2, none⟩) hl).trans h2, (e.cell (p := ⟨b, off + j * 4 + 3, none⟩) hl).trans h3⟩, h.vlt⟩

end Go.Proofs.YthjjonbkfkpkmaaGreatDoor.Fld
namespace Go.Proofs.YthjjonbkfkpkmaaGreatDoor.Tg
open Go.RowKit Gen Fld
open Crc hiding hid

set_option maxRecDepth 100000 in
theorem le_one (v : Nat) (h : v < 256) : le v 1 = [v] := by
  show [] ++ [v / 2 ^ (8 * 0) % 256] = [v]
  rw [Nat.mul_zero, Nat.pow_zero, Nat.div_one, Nat.mod_eq_of_lt h]; rfl
set_option maxRecDepth 100000 in
theorem u8_small (n : Nat) (h : n < 256) : IntKind.u8.wrap (n : Int) = n := by
  simp only [IntKind.wrap, IntKind.bits, IntKind.signed]; simp; omega
set_option maxRecDepth 100000 in
theorem NL.below {w wr w' : World} {ao : Option Addr} {cap : Nat} {l : List Nat} (h : NL w ao cap l wr) (hb : Below wr.heap.size wr w') : NL w ao cap l w' :=
  ⟨ownsRow_block h.own fun g hg => hb.block g ((h.own.lt g (by rw [ownBlock_slice]; exact hg)).2), h.bel.trans (hb.mono h.bel.size), h.lt⟩
set_option maxRecDepth 100000 in
theorem NL.app {w w5 w7 : World} {ao ao7 : Option Addr} {cap c7 : Nat} {l m : List Nat} (h : NL w ao cap l w5) (hm : ∀ b ∈ m, b < 256)
    (ho : w7.ownsRow w.heap.size 5 1 (.slice ao7 (l.length + m.length) c7) (l.length + m.length) (bl l ++ bl m)) (hg : w5.grownBy w7 (blk ao)) : NL w ao7 c7 (l ++ m) w7 := by
  rw [← bl_app, ← List.length_append] at ho
  exact ⟨ho, h.bel.trans ⟨hg.os, hg.tape, hg.output, hg.size, fun k hk => hg.block k (Nat.lt_of_lt_of_le hk h.bel.size) (fun e => by have := h.own.lt k (by rw [ownBlock_slice]; exact e.symm); omega)⟩, fun b hb => (List.mem_append.1 hb).elim (h.lt b) (hm b)⟩
set_option maxRecDepth 100000 in
theorem byts_grown {w5 w7 : World} {ao bo : Option Addr} {m : List Nat} (h : Byts w5 bo m) (hg : w5.grownBy w7 (blk ao)) (hx : ∀ b, blk ao = some b → blk bo ≠ some b) (hl : ∀ b, blk bo = some b → b < w5.heap.size) : Byts w7 bo m :=
  ⟨h.lt, fun j x hj => by
    obtain ⟨b, off, e, hc⟩ := h.at_ j x hj
    refine ⟨b, off, e, ?_⟩
    rw [World.cell?_of_block (a := ⟨b, off + j, none⟩) (hg.block b (hl b (by rw [e]; rfl)) (fun e2 => hx b e2.symm (by rw [e]; rfl)))]; exact hc⟩
def LP (w : World) (l : List Nat) (e : Ending) (w' : World) : Prop := ∃ ao cap, e = .returned (.slice ao l.length cap) ∧ NL w ao cap l w'
set_option maxRecDepth 100000 in
theorem rtx_key (t : Tag) (h : Ft t) (w : World) : Calls Tryz.prog 65 #[.string t.k, .int .i64 1] w (RefP w 0 (le t.k.size 1 ++ sb t.k)) := by
  have h1 := rtext_any t.k 1 (by have := h.1; omega) w
  rw [uerr_one _ h.1] at h1
  exact h1
set_option maxRecDepth 100000 in
theorem rtx_val (t : Tag) (h : Ft t) (w : World) : Calls Tryz.prog 65 #[.string t.v, .int .i64 2] w (RefP w 0 (le t.v.size 2 ++ sb t.v)) := by
  have h1 := rtext_any t.v 2 (by have := h.2; omega) w
  rw [uerr_two _ h.2] at h1
  exact h1
set_option maxRecDepth 100000 in
theorem bl_head (n : Nat) (h : n < 256) : bl ([84, 71] ++ le n 1) = [.int .u8 84, .int .u8 71, .int .u8 (n : Int)] := by rw [le_one n h]; rfl

set_option maxRecDepth 100000 in
set_option maxHeartbeats 4000000 in
theorem rput_any {w : World} {a : Option Addr} {len b off : Nat} {T : Nat → Tag} (h : Tb w a len b off T) (hk : (chk T len).2 = 0) {cap : Nat} :
    Calls Tryz.prog 30 #[.slice a len cap] w (LP w (pby (lst T len))) := by
  obtain ⟨i0, hi, hz0, hz1, hz2⟩ := info_parts Tryz.info5
  have hln := chk_few hk
  have HFT := hid fun i hi => bad_ft (chk_zero (T := T) (n := len) hk i hi)
  have HTL := hid (tbs_lst_le hk)
  have HLL := hid (lst_len T len)
  have H := hid h
  have HPB := hid (show ∀ e w', LP w (pby (lst T len)) e w' = ∃ ao cap, e = .returned (.slice ao (bod (lst T len) ++ le (cs (bod (lst T len))) 4).length cap) ∧ NL w ao cap (bod (lst T len) ++ le (cs (bod (lst T len))) 4) w' from fun _ _ => rfl)
  have HBO := hid (show [84, 71] ++ le len 1 ++ tbs (lst T len) = bod (lst T len) by unfold bod; rw [lst_len])
  have HN0 := hid (show NL w (some ⟨w.heap.size, 0, none⟩) 3 ([84, 71] ++ le len 1 ++ tbs (lst T 0)) (w.alloc (.cells #[.int .u8 84, .int .u8 71, .int .u8 (len : Int)] 5)) by
    show NL w _ 3 ([84, 71] ++ le len 1 ++ []) _
    rw [List.append_nil]
    refine ⟨?_, bel_new _ _, fun b hb => ?_⟩
    · have hl3 : ([84, 71] ++ le len 1).length = 3 := by rw [List.length_append, le_len]; rfl
      rw [hl3, bl_head len (by omega)]
      exact World.ownsRow_lit w _ 3 (Nat.le_refl _) (by unfold maxLen; omega) rfl
    · rcases List.mem_append.1 hb with hb | hb
      · simp at hb; omega
      · exact le_lt _ _ b hb)
  have HL0 := hid (show ([84, 71] ++ le len 1 ++ tbs (lst T 0)).length = 3 by show ([84, 71] ++ le len 1 ++ []).length = 3; rw [List.append_nil, List.length_append, le_len]; rfl)
  have HLK := hid (show ∀ k, k ≤ len → ([84, 71] ++ le len 1 ++ tbs (lst T k)).length ≤ 5000000 from fun k hk => by
    have := HTL.out k hk
    simp only [List.length_append, le_len, List.length_cons, List.length_nil]
    omega)
  have HSU := hid (show ∀ k, [84, 71] ++ le len 1 ++ tbs (lst T (k + 1)) = [84, 71] ++ le len 1 ++ tbs (lst T k) ++ (le (T k).k.size 1 ++ sb (T k).k) ++ (le (T k).v.size 2 ++ sb (T k).v) from fun k => by
    rw [lst_succ, tbs_app]
    show _ ++ (_ ++ (tby (T k) ++ [])) = _
    rw [List.append_nil]
    unfold tby
    simp only [List.append_assoc])
  have uk := u8_small len (by omega)
  clear h hk HTL
  generalize hLf : (fun k => [84, 71] ++ le len 1 ++ tbs (lst T k)) = L
  have HLf := hid (fun k => congrFun hLf k)
  go_enter Tryz.func30, Tryz.ntmps30
  go_wp2_with fail
  clear uk
  generalize w.alloc (.cells #[.int .u8 84, .int .u8 71, .int .u8 (len : Int)] 5) = W at *
  go_loopg [3, 4] len (fun gg v i wr => ∃ (k : Nat) (ao : Option Addr) (c : Nat), k ≤ len ∧ gg = len - k ∧ i = .int .i64 k ∧ v = .slice ao (L k).length c ∧ Hid (NL w ao c (L k) wr))
  case atStart => exact ⟨0, some ⟨w.heap.size, 0, none⟩, 3, Nat.zero_le _, rfl, rfl, by rw [← HLf.out 0, HL0.out], hid (by rw [← HLf.out 0]; exact HN0.out)⟩
  case round =>
    obtain ⟨k, ao, c, hk, hg, rfl, rfl, HN⟩ := hrel
    have HG := hid hg
    clear hg HN0 HL0
    have hlk := HLK.out k hk
    rw [show [84, 71] ++ le len 1 ++ tbs (lst T k) = L k from HLf.out k] at hlk
    by_cases hlt : k < len
    · have hlt2 : (k : Int) < (len : Int) := by omega
      obtain rfl := H.out.addr (by omega)
      have hT0 := H.out.keep HN.out.bel
      have hk0 := hT0.k k hlt
      have hv0 := hT0.v k hlt
      have HK1 := hid (rtx_key (T k) (HFT.out k hlt))
      have HV1 := hid (rtx_val (T k) (HFT.out k hlt))
      have HNX := hid (show L (k + 1) = L k ++ (le (T k).k.size 1 ++ sb (T k).k) ++ (le (T k).v.size 2 ++ sb (T k).v) by rw [← HLf.out k, ← HLf.out (k + 1)]; exact HSU.out k)
      have hft := HFT.out k hlt
      have hm1 : (le (T k).k.size 1 ++ sb (T k).k).length ≤ 300 := by rw [List.length_append, le_len, sb_len]; have := hft.1; omega
      have hm2 : (le (T k).v.size 2 ++ sb (T k).v).length ≤ 66000 := by rw [List.length_append, le_len, sb_len]; have := hft.2; omega
      have HM1 := hid (show ∀ b ∈ le (T k).k.size 1 ++ sb (T k).k, b < 256 from fun b hb => (List.mem_append.1 hb).elim (le_lt _ _ b) (sb_lt _ b))
      have HM2 := hid (show ∀ b ∈ le (T k).v.size 2 ++ sb (T k).v, b < 256 from fun b hb => (List.mem_append.1 hb).elim (le_lt _ _ b) (sb_lt _ b))
      obtain ⟨m1, em1⟩ : ∃ m1, m1 = le (T k).k.size 1 ++ sb (T k).k := ⟨_, rfl⟩
      obtain ⟨m2, em2⟩ : ∃ m2, m2 = le (T k).v.size 2 ++ sb (T k).v := ⟨_, rfl⟩
      rw [← em1] at HK1 HNX hm1 HM1
      rw [← em2] at HV1 HNX hm2 HM2
      clear em1 em2 hft
      obtain ⟨LK, eLK⟩ : ∃ LK, L k = LK := ⟨_, rfl⟩
      rw [eLK] at HN hlk HNX ⊢
      clear eLK
      go_wp2_with fail
      refine (HK1.out _).mono ?_
      rintro e w5 ⟨a5, c5, rfl, ho5, hb5⟩
      have HN5 := hid (HN.out.below hb5)
      have hv5 := (hT0.keep hb5).v k hlt
      have HO5 := hid (And.intro ho5 (Nat.le_refl wr.heap.size))
      have HS5 := hid hb5.size
      clear hk0 hv0 ho5 hT0 HK1
      go_wp2_with fail
      refine (HV1.out _).mono ?_
      rintro e w6 ⟨a6, c6, rfl, ho6, hb6⟩
      have HN6 := hid (HN5.out.below hb6)
      have ho56 := ownsRow_block HO5.out.1 fun g hg => hb6.block g ((HO5.out.1.lt g (by rw [ownBlock_slice]; exact hg)).2)
      have HB5 := hid (Byts.of_row HM1.out ho56)
      have HB6 := hid (Byts.of_row HM2.out ho6)
      have h5n : a5 = none → m1.length = 0 ∧ c5 = 0 := fun e => by
        rcases own_at ho56 with ⟨_, h1, h2⟩ | ⟨g9, e9, _⟩
        · exact ⟨h1, h2⟩
        · rw [e] at e9; cases e9
      have h6n : a6 = none → m2.length = 0 ∧ c6 = 0 := fun e => by
        rcases own_at ho6 with ⟨_, h1, h2⟩ | ⟨g9, e9, _⟩
        · exact ⟨h1, h2⟩
        · rw [e] at e9; cases e9
      have HX6 := hid (show (∀ b, blk ao = some b → blk a6 ≠ some b) ∧ ∀ b, blk a6 = some b → b < w6.heap.size from ⟨fun b e1 e2 => by
        have h1 := (HN5.out.own.lt b (by rw [ownBlock_slice]; exact e1)).2
        have h2 := (ho6.lt b (by rw [ownBlock_slice]; exact e2)).1
        omega, fun b e2 => (ho6.lt b (by rw [ownBlock_slice]; exact e2)).2⟩)
      clear ho6 ho56 hb6 hb5 hv5 HO5 HV1 HN5 HS5
      have hs6 := HN6.out.bel.size
      go_wp2_with (at_builtin; (refine (wpList_append_list w6 (by rfl) _ _ _ (by rfl) w.heap.size 5 i0 _ 1 Tryz.underlying32 hi hz0 hz1 hz2 rfl ao LK.length c (bl LK) (by rfl) HN6.out.own a5 m1.length c5 (bl m1) (by rfl) (bl_len _) h5n HB5.out.cells (bl_one _) (by unfold maxLen; omega) (by omega) hs6 ?_)))
      intro ao7 c7 w7 ho7 hg7 hat7
      have HN7 := hid (NL.app HN6.out HM1.out ho7 hg7)
      have HB7 := hid (byts_grown HB6.out hg7 HX6.out.1 HX6.out.2)
      have ho7b := HN7.out.own
      rw [List.length_append] at ho7b
      have HO7 := hid ho7b
      have hs7 := HN7.out.bel.size
      clear ho7 hg7 hat7 ho7b
      go_wp2_with (at_builtin; (refine (wpList_append_list w7 (by rfl) _ _ _ (by rfl) w.heap.size 5 i0 _ 1 Tryz.underlying32 hi hz0 hz1 hz2 rfl ao7 (LK.length + m1.length) c7 (bl (LK ++ m1)) (by rfl) HO7.out a6 m2.length c6 (bl m2) (by rfl) (bl_len _) h6n HB7.out.cells (bl_one _) (by unfold maxLen; omega) (by omega) hs7 ?_)))
      intro ao8 c8 w8 ho8 hg8 hat8
      rw [← List.length_append] at ho8
      have HN8 := hid (NL.app HN7.out HM2.out ho8 hg8)
      have hl8 : LK.length + m1.length + m2.length = (L (k + 1)).length := by rw [HNX.out, List.length_append, List.length_append]
      rw [← HNX.out] at HN8
      clear ho8 hg8 hat8
      rw [hl8]
      clear hl8
      go_wp2_with fail
      go_roundg (len - (k + 1))
      case measure => rw [HG.out]; omega
      case rel => exact ⟨k + 1, ao8, c8, by omega, rfl, by go_num, rfl, HN8⟩
    · have hge : ¬ (k : Int) < (len : Int) := by omega
      obtain rfl : k = len := by omega
      have HB := hid (show L k = bod (lst T k) by rw [← HLf.out k]; exact HBO.out)
      obtain ⟨BD, eBD⟩ : ∃ BD, BD = bod (lst T k) := ⟨_, rfl⟩
      rw [← eBD] at HB HPB
      rw [HB.out] at HN hlk ⊢
      have HLP := hid (show ∀ ao cap w', NL w ao cap (BD ++ le (cs BD) 4) w' → LP w (pby (lst T k)) (.returned (.slice ao (BD ++ le (cs BD) 4).length cap)) w' from fun ao cap w' h => by rw [HPB.out]; exact ⟨ao, cap, rfl, h⟩)
      have hbl := HN.out.lt
      have HBL := hid hbl
      have hcl := cs_lt hbl
      have hu4 := u64_small _ hcl
      have HCS := hid (rcsum_any (cap := c) HN.out.byts (by omega))
      clear HB HPB HBO hbl eBD
      generalize cs BD = SM at *
      go_wp2_with fail
      refine HCS.out.mono ?_
      rintro e w5 ⟨rfl, rfl⟩
      go_wp2_with fail
      refine (rbytes_any SM 4 (by omega) (by decide) _).mono ?_
      rintro e w5 ⟨rfl, ho5, hb5⟩
      have HN5 := hid (HN.out.below hb5)
      have HB5 := hid (Byts.of_row (le_lt SM 4) ho5)
      have hs5 := HN5.out.bel.size
      clear ho5 hb5
      go_wp2_with (at_builtin; (refine (wpList_append_list w5 (by rfl) _ _ _ (by rfl) w.heap.size 5 i0 _ 1 Tryz.underlying32 hi hz0 hz1 hz2 rfl ao BD.length c (bl BD) (by rfl) HN5.out.own _ 4 4 (bl (le SM 4)) (by rfl) ((bl_len _).trans (le_len _ _)) (fun e => by cases e) HB5.out.cells (bl_one _) (by unfold maxLen; omega) (by omega) hs5 ?_)))
      intro ao7 c7 w7 ho7 hg7 hat7
      have hn7 := NL.app (m := le SM 4) HN5.out (le_lt SM 4) (by rw [le_len]; exact ho7) hg7
      have hf := HLP.out _ _ _ hn7
      rw [List.length_append, le_len] at hf
      have HF := hid hf
      clear ho7 hg7 hat7 hn7 hf
      go_wp2_with fail
      go_ret
      exact HF.out
end Go.Proofs.YthjjonbkfkpkmaaGreatDoor.Tg
