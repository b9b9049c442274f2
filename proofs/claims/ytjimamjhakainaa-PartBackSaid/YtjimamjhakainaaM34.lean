/- The document's own lists of bits: Below, Put, Many, Align over them: what they answer, over the number that the bits are, and that nothing that was there has turned. Conditions: fewer than 2^40 bits; Many at most 2^20. -/
import Derived.Test.YtjimamjhakainaaM17
import Derived.Test.YtjimamjhakainaaM16
import Derived.Laws.AppendOwnNone
import Derived.Test.YtjimamjhakainaaM04
namespace Go.Proofs.Ytjimamjhakainaa.Bit
open Go.RowKit

/-- The L bits of N as ints. -/
def bitl (N L : Nat) : List Value := (List.range L).map fun i => .int .i64 (bitOf N L i : Int)
theorem bitl_len (N L : Nat) : (bitl N L).length = L := by simp [bitl]
theorem bitl_at (N L i : Nat) (h : i < L) : (bitl N L)[i]? = some (.int .i64 (bitOf N L i : Int)) := by simp [bitl, h]
theorem bitl_app (N L v n : Nat) (hv : v < 2 ^ n) : bitl (N * 2 ^ n + v) (L + n) = bitl N L ++ bitl v n := by
  apply List.ext_getElem?
  intro j
  by_cases h1 : j < L
  · rw [List.getElem?_append_left (by rw [bitl_len]; exact h1), bitl_at _ _ _ (by omega), bitl_at _ _ _ h1]
    unfold bitOf
    rw [show L + n - 1 - j = n + (L - 1 - j) from by omega, Nat.pow_add, ← Nat.div_div_eq_div_mul, Nat.mul_comm, Nat.mul_add_div (Nat.two_pow_pos n), Nat.div_eq_of_lt hv, Nat.add_zero]
  · rw [List.getElem?_append_right (by rw [bitl_len]; omega), bitl_len]
    by_cases h2 : j < L + n
    · rw [bitl_at _ _ _ h2, bitl_at _ _ _ (by omega)]
      unfold bitOf
      have e1 : n - 1 - (j - L) = L + n - 1 - j := by omega
      have e2 : 2 ^ n = 2 ^ (L + n - 1 - j) * (2 * 2 ^ (j - L)) := by
        rw [← Nat.pow_succ', ← Nat.pow_add]; congr 1; omega
      rw [e1, e2, ← Nat.mul_assoc N, Nat.mul_right_comm, Nat.mul_comm (N * _), Nat.mul_add_div (Nat.two_pow_pos _)]
      rw [show N * (2 * 2 ^ (j - L)) = 2 * (N * 2 ^ (j - L)) from by rw [Nat.mul_left_comm], Nat.mul_add_mod]
    · rw [List.getElem?_eq_none (by rw [bitl_len]; omega), List.getElem?_eq_none (by rw [bitl_len]; omega)]

/-- append(dst, src...) where dst is the call's own and src whatever slice of one-cell elements. -/
theorem wpList_append_list {P : Program} {ops : Array Oper} {o : Oper} {a : Act} {Q : Exit → Act → World → Prop} (w : World) {rest : List Oper} (hgd : o.guard = none) (s x : Operand) (t : TypeId)
    (hop : o.op = .call { callee := .builtin .append, args := #[s, x], argTypes := #[t, t] })
    (base : Nat) (e : TypeId) (i : TypeInfo) (z : Value) (bytes : Nat) (h1 : P.underlying t = some (.slice e)) (h2 : P.info? e = some i) (h3 : i.zero = some z)
    (h4 : i.size = 1) (h5 : i.bytes = bytes) (h6 : z.cells.size = 1)
    (ao : Option Addr) (n cap : Nat) (xs : List Value) (hs : a.eval s = .slice ao n cap) (hown : w.ownsRow base e 1 (.slice ao n cap) n xs)
    (bo : Option Addr) (m c : Nat) (news : List Value) (hx : a.eval x = .slice bo m c) (hl : news.length = m) (hnone : bo = none → m = 0 ∧ c = 0) (hc : ∀ ad, bo = some ad → ∀ j u, news[j]? = some u → w.cell? (ad.add j) = some u) (hu : ∀ u ∈ news, u.oneCell' = true)
    (b1 : n + m ≤ maxLen) (b2 : (n + m) * bytes ≤ 140737488355328) (hbase : base ≤ w.heap.size)
    (hK : ∀ ao' cap' w', w'.ownsRow base e 1 (.slice ao' (n + m) cap') (n + m) (xs ++ news) → w.grownBy w' (blk ao) → (blk ao' = blk ao ∨ ∀ g, blk ao' = some g → w.heap.size ≤ g) → wpList P ops Q rest (a.put o.dst (.slice ao' (n + m) cap')) w') :
    wpList P ops Q (o :: rest) a w := by
  cases bo with
  | none =>
    obtain ⟨rfl, rfl⟩ := hnone rfl
    obtain rfl : news = [] := List.eq_nil_of_length_eq_zero hl
    refine wpList_append_own_none hgd s x t hop base e i 1 h1 h2 (.slice ao n cap) n xs hs hown hx ?_
    have := hK ao cap w (by simpa using hown) (World.grownBy.refl _ _) (.inl rfl)
    simpa using this
  | some ad =>
    by_cases hm : m = 0
    · subst hm
      obtain rfl : news = [] := List.eq_nil_of_length_eq_zero hl
      rcases ownsRow_at hown with ⟨rfl, rfl, rfl, rfl⟩ | ⟨g, rfl⟩
      · refine wpList_plain hgd fun K hK' => ?_
        obtain ⟨v', w', hrun, r1, r2, r3⟩ := run_append_own (P := P) w base t o.type e i z 1 bytes h1 h2 h3 h4 h5 h6 (by decide) (.slice none 0 0) 0 [] (World.ownsRow_nil w _ e 1) ad 0 c [] rfl (by simp) (by simp) b1 b2 hbase
        obtain rfl : v' = .slice none 0 0 := r3.2 ⟨rfl, rfl⟩
        unfold Oper.wp
        simp [execOp, hop, resolve, invoke, builtin, hs, hx, hrun, Result.andThen]
        exact hK' _ _ (hK none 0 w' r1 r2 (.inl rfl))
      · have hnc : n ≤ cap := by
          obtain ⟨_, ho⟩ := hown
          rcases ho with ⟨hv, _⟩ | ⟨_, _, _, hv, _, _, h, _⟩
          · cases hv
          · cases hv; exact h
        exact wpList_append_fits w hgd s x t hop base e i 1 h1 h2 h4 g n cap xs hs hown ad 0 c [] hx rfl (by simp) (by simp) (by omega) fun w' r1 r2 => hK _ _ _ r1 r2 (.inl rfl)
    · refine wpList_append_lies w hgd s x t hop base e i z 1 bytes h1 h2 h3 h4 h5 h6 (by decide) (.slice ao n cap) n xs hs hown ad m c news hx (by omega) (hc ad rfl) hu (by omega) b1 b2 hbase w.heap.size rfl fun g cap' w' r1 r2 r3 _ => ?_
      rw [ownBlock_slice] at r2 r3
      refine hK _ _ _ r1 r2 ?_
      rcases r3 with r3 | rfl
      · exact .inl (by rw [r3]; rfl)
      · exact .inr fun g' hg' => by simp [blk] at hg'; omega

/-- A list of bits of the call's own, in memory. -/
def Lst (w : World) (B : Nat) (lo : Option Addr) (lcap N L : Nat) : Prop := w.ownsRow B 3 1 (.slice lo L lcap) L (bitl N L)
theorem Lst.none' {w : World} {B : Nat} {lo : Option Addr} {lcap N L : Nat} (h : Lst w B lo lcap N L) : lo = none → L = 0 ∧ lcap = 0 := by
  intro e
  rcases ownsRow_at h with ⟨_, h1, h2, _⟩ | ⟨g, h1⟩
  · exact ⟨h1, h2⟩
  · rw [e] at h1; cases h1
theorem Lst.cells {w : World} {B : Nat} {lo : Option Addr} {lcap N L : Nat} (h : Lst w B lo lcap N L) : ∀ ad, lo = some ad → ∀ j u, (bitl N L)[j]? = some u → w.cell? (ad.add j) = some u := by
  intro ad e j u hj
  rcases ownsRow_at h with ⟨h1, _⟩ | ⟨g, h1⟩
  · rw [e] at h1; cases h1
  · rw [e] at h1; cases h1
    rw [Addr.add_lit, Nat.zero_add]
    subst e
    exact ownsRow_cell h j u hj
theorem Lst.lt {w : World} {B : Nat} {lo : Option Addr} {lcap N L : Nat} (h : Lst w B lo lcap N L) : ∀ g, blk lo = some g → B ≤ g ∧ g < w.heap.size := fun g hg => World.ownsRow.lt h g (by rw [ownBlock_slice]; exact hg)
theorem Lst.upto {w w' : World} {B : Nat} {lo : Option Addr} {lcap N L : Nat} (h : Lst w B lo lcap N L) (hb : Below w.heap.size w w') : Lst w' B lo lcap N L := ownsRow_block h fun g hg => hb.block g (h.lt g hg).2
theorem bitl_one (N L : Nat) : ∀ u ∈ bitl N L, u.oneCell' = true := by
  intro u hu
  obtain ⟨i, _, rfl⟩ := List.mem_map.1 hu
  rfl

end Go.Proofs.Ytjimamjhakainaa.Bit
/- The document's own Put, Many and Align over a list of bits: what they answer, over the number that the bits are, and that nothing that was there has turned. Conditions: fewer than 2^40 bits; Many at most 2^20. -/
namespace Go.Proofs.Ytjimamjhakainaa.Bit
open Go.RowKit

/-- A list of bits in memory that a call has left: the one that was there, or a new one; nothing else has turned. -/
def Ls (w : World) (B : Nat) (lo : Option Addr) (N L : Nat) (v : Value) (w' : World) : Prop :=
  ∃ (lo' : Option Addr) (lcap' : Nat), v = .slice lo' L lcap' ∧ Lst w' B lo' lcap' N L ∧ Below w.heap.size w w' ∧ (blk lo' = blk lo ∨ ∀ g, blk lo' = some g → w.heap.size ≤ g)

theorem Lst.fr {w w' : World} {B : Nat} {lo : Option Addr} {lcap N L : Nat} (h : Lst w B lo lcap N L) {X : Nat → Prop} (hf : Fr X w w') (hx : ∀ g, blk lo = some g → ¬ X g) : Lst w' B lo lcap N L := ownsRow_block h fun g hg => hf.block g (h.lt g hg).2 (hx g hg)

theorem Lst.copied {w1 : World} {B : Nat} {lo : Option Addr} {lcap N L : Nat} (h : w1.ownsRow B 3 1 (.slice lo (0 + L) lcap) (0 + L) ([] ++ bitl N L)) : Lst w1 B lo lcap N L := by
  rw [Nat.zero_add, List.nil_append] at h; exact h

/-- A list that is new since w. -/
structure Nw (w : World) (B : Nat) (lo : Option Addr) (lcap N L : Nat) (w' : World) : Prop where
  lst : Lst w' B lo lcap N L
  below : Below w.heap.size w w'
  new : ∀ g, blk lo = some g → w.heap.size ≤ g

theorem Nw.start {w w1 : World} {B : Nat} {lo : Option Addr} {lcap N L : Nat} (h : w1.ownsRow B 3 1 (.slice lo L lcap) L (bitl N L)) (hg : (w.alloc (.cells #[] 3)).grownBy w1 (blk (some ⟨w.heap.size, 0, none⟩)))
    (hat : blk lo = blk (some ⟨w.heap.size, 0, none⟩) ∨ ∀ g, blk lo = some g → w.heap.size + 1 ≤ g) : Nw w B lo lcap N L w1 :=
  ⟨h, ((Below.refl _ _).alloc (Nat.le_refl _) _).grown hg (by simp) (fun k hk => by simp [blk] at hk; omega), fun g hg => by
    rcases hat with e | e
    · rw [e] at hg; simp [blk] at hg; omega
    · have := e g hg; omega⟩
theorem Nw.below' {w w1 w2 : World} {B : Nat} {lo : Option Addr} {lcap N L : Nat} (h : Nw w B lo lcap N L w1) (hb : Below w1.heap.size w1 w2) : Nw w B lo lcap N L w2 :=
  ⟨h.lst.upto hb, h.below.trans (hb.mono h.below.size), h.new⟩
theorem Nw.app {w w1 w2 w3 : World} {B : Nat} {lo lo' : Option Addr} {lcap lcap' N L v n : Nat} (h : Nw w B lo lcap N L w1) (hb : Below w1.heap.size w1 w2) (hv : v < 2 ^ n)
    (ho : w3.ownsRow B 3 1 (.slice lo' (L + n) lcap') (L + n) (bitl N L ++ bitl v n)) (hg : w2.grownBy w3 (blk lo)) (hat : blk lo' = blk lo ∨ ∀ g, blk lo' = some g → w2.heap.size ≤ g) : Nw w B lo' lcap' (N * 2 ^ n + v) (L + n) w3 := by
  have h2 := h.below' hb
  refine ⟨by unfold Lst; rw [bitl_app N L v n hv]; exact ho, h2.below.grown hg h2.below.size h2.new, fun g hg => ?_⟩
  rcases hat with e | e
  · exact h.new g (by rw [← e]; exact hg)
  · exact Nat.le_trans h2.below.size (e g hg)
theorem Nw.ls {w w' : World} {B : Nat} {lo lo' : Option Addr} {lcap N L : Nat} (h : Nw w B lo' lcap N L w') : Ls w B lo N L (.slice lo' L lcap) w' := ⟨lo', lcap, rfl, h.lst, h.below, .inr h.new⟩

/-- n bits that are like one bit, behind N. -/
def many (N b n : Nat) : Nat := N * 2 ^ n + b * (2 ^ n - 1)
theorem many_next (N b j : Nat) : many N b j * 2 ^ 1 + b = many N b (j + 1) := by
  unfold many
  have := Nat.two_pow_pos j
  obtain ⟨q, hq⟩ : ∃ q, 2 ^ j = q + 1 := ⟨2 ^ j - 1, by omega⟩
  rw [Nat.pow_succ 2 j, hq, show (q + 1) * 2 - 1 = q + q + 1 from by omega, show q + 1 - 1 = q from rfl]
  rw [show (2 : Nat) ^ 1 = 2 from rfl, Nat.mul_add b, Nat.mul_add b, Nat.mul_one, Nat.add_mul, Nat.mul_assoc]
  omega
theorem bitl1 (b : Nat) (hb : b < 2) : bitl b 1 = [.int .i64 (b : Int)] := by
  simp [bitl, bitOf, Nat.mod_eq_of_lt hb]

def manyS (N L b : Nat) (n : Int) : Nat × Nat × Int := if n < 0 then (N, L, 1) else if 1048576 < n then (N, L, 4) else (many N b n.toNat, L + n.toNat, 0)

theorem many_zero (N b : Nat) : many N b 0 = N := by simp [many]
theorem many_bit0 (N j : Nat) : many N 0 j = N * 2 ^ j := by simp [many]

set_option maxHeartbeats 800000 in
theorem ralign_list (w : World) (B : Nat) (lo : Option Addr) (lcap N L : Nat) (h : Lst w B lo lcap N L) (hB : B ≤ w.heap.size) (hL : L ≤ 1099511627776) :
    Calls Try.prog 53 #[.slice lo L lcap] w fun e w' => ∃ x, e = .returned x ∧ Ls w B lo (pad N L) (8 * ((L + 7) / 8)) x w' := by
  obtain ⟨i0, hi, hz0, hz1, hz2⟩ := info_parts Try.info3
  have hown0 : ∀ ob, ob = Obj.cells #[] 3 → (w.alloc ob).ownsRow B 3 1 (.slice (some ⟨w.heap.size, 0, none⟩) 0 0) 0 [] := by
    rintro _ rfl; exact World.ownsRow_made w #[] 0 hB (by decide) rfl
  have h1' := Lst.fr h ((Fr.refl (fun _ => False) w).alloc (.cells #[] 3)) (fun _ _ x => x)
  have HB := hid hB
  clear h
  go_enter Try.func53, Try.ntmps53
  go_wp2_with (at_builtin; go_must (refine wpList_append_list _ rfl (.tmp 5) (.tmp 6) 22 rfl B 3 i0 (.int .i64 0) 8 Try.underlying22 hi hz0 hz1 hz2 rfl (some ⟨w.heap.size, 0, none⟩) 0 0 [] rfl (hown0 _ rfl) lo L lcap (bitl N L) rfl (bitl_len N L) h1'.none' h1'.cells (bitl_one N L) (by unfold maxLen; omega) (by omega) (by simp; omega) ?_))
  intro lo1 lcap1 w1 hown1 hg1 hat1
  have hn1 := Nw.start hown1 hg1 hat1
  clear hown1 hg1 hat1 h1' hown0 hB
  go_wp2_with fail
  go_loopg [3, 4] 8 (fun g v i wr => ∃ (j : Nat) (lo1 : Option Addr) (lcap1 : Nat), (j = 0 ∨ (L % 8 ≠ 0 ∧ j ≤ 8 - L % 8)) ∧ g = 8 - j ∧ i = .int .i64 j ∧ v = .slice lo1 (L + j) lcap1 ∧ Nw w B lo1 lcap1 (many N 0 j) (L + j) wr)
  case atStart => exact ⟨0, lo1, lcap1, .inl rfl, rfl, rfl, rfl, by simpa [many] using hn1⟩
  case round =>
    obtain ⟨j, lo2, lcap2, hj, hg, rfl, rfl, hn2⟩ := hrel
    have HG := hid hg
    clear hg hn1
    by_cases h8 : (L + j) % 8 = 0
    · have hfin : Ls w B lo (pad N L) (8 * ((L + 7) / 8)) (.slice lo2 (L + j) lcap2) wr := by
        obtain rfl : j = 8 * ((L + 7) / 8) - L := by omega
        have := hn2.ls (lo := lo)
        rw [many_bit0, show L + (8 * ((L + 7) / 8) - L) = 8 * ((L + 7) / 8) from by omega] at this
        rw [show L + (8 * ((L + 7) / 8) - L) = 8 * ((L + 7) / 8) from by omega]
        exact this
      have h9 : (((L + j : Nat) : Int) % 8 != 0) = false := by rw [bne_eq_false_iff_eq]; omega
      have h10 : (((L : Int) + j) % 8 != 0) = false := by rw [bne_eq_false_iff_eq]; omega
      clear hn2 h8
      by_cases hj8 : j < 8
      · have hj9 : (j : Int) < 8 := by omega
        go_wp2_with fail
        go_ret
        exact ⟨_, rfl, hfin⟩
      · have hj9 : ¬ (j : Int) < 8 := by omega
        go_wp2_with fail
        go_ret
        exact ⟨_, rfl, hfin⟩
    · have hj9 : (j : Int) < 8 := by omega
      have h9 : (((L + j : Nat) : Int) % 8 != 0) = true := by rw [bne_iff_ne]; omega
      have h10 : (((L : Int) + j) % 8 != 0) = true := by rw [bne_iff_ne]; omega
      have hb2 : Below wr.heap.size wr (wr.alloc (.cells #[.int .i64 0] 3)) := (Below.refl _ _).alloc (Nat.le_refl _) _
      have hn3 := hn2.below' hb2
      have hsz : B ≤ (wr.alloc (.cells #[.int .i64 0] 3)).heap.size := Nat.le_trans HB.out hn3.below.size
      have hcell : (wr.alloc (.cells #[.int .i64 0] 3)).cell? ⟨wr.heap.size, 0, none⟩ = some (.int .i64 0) := by simp
      go_wp2_with (at_builtin; go_must (refine wpList_append_list _ rfl (.tmp 18) (.tmp 19) 22 rfl B 3 i0 (.int .i64 0) 8 Try.underlying22 hi hz0 hz1 hz2 rfl lo2 (L + j) lcap2 (bitl (many N 0 j) (L + j)) rfl hn3.lst (some ⟨wr.heap.size, 0, none⟩) 1 1 (bitl 0 1) rfl (bitl_len 0 1) (by simp) (fun ad had => by
        cases had
        rw [bitl1 0 (by decide)]; exact news_one hcell) (bitl_one 0 1) (by unfold maxLen; omega) (by omega) hsz ?_))
      intro lo4 lcap4 w4 hown4 hg4 hat4
      have hn4 := hn2.app hb2 (v := 0) (n := 1) (by decide) hown4 hg4 (by simpa using hat4)
      rw [many_next] at hn4
      clear hown4 hg4 hat4 hn2 hn3 hb2 hcell hsz
      go_wp2_with fail
      go_roundg (8 - (j + 1))
      case measure => rw [HG.out]; omega
      case rel => exact ⟨j + 1, lo4, lcap4, .inr (by omega), rfl, by go_num, rfl, hn4⟩
end Go.Proofs.Ytjimamjhakainaa.Bit
/- The document's own bytes of a list of bits: new bytes, eight bits a byte, bits 0 up to the last one's end; nothing that was there has turned. Conditions: fewer than 2^40 bits. -/
namespace Go.Proofs.Ytjimamjhakainaa.Bit
open Go.RowKit

theorem Ls.ex {w w' : World} {B : Nat} {lo : Option Addr} {N L : Nat} {x : Value} (h : Ls w B lo N L x w') : ∃ lo1 lcap1, x = .slice lo1 L lcap1 ∧ Lst w' B lo1 lcap1 N L ∧ Below w.heap.size w w' := by
  obtain ⟨lo1, lcap1, h1, h2, h3, _⟩ := h
  exact ⟨lo1, lcap1, h1, h2, h3⟩
theorem bitOf_seg (M T i : Nat) (h : i < T) : bitOf M T i = seg M T i 1 := by
  unfold bitOf seg
  rw [show T - 1 - i = T - i - 1 from by omega]
theorem Lst.bit {w : World} {B : Nat} {lo : Option Addr} {lcap N L : Nat} (h : Lst w B lo lcap N L) (i : Nat) (hi : i < L) : ∃ g, lo = some ⟨g, 0, none⟩ ∧ w.cell? ⟨g, i, none⟩ = some (.int .i64 (seg N L i 1 : Int)) := by
  rcases ownsRow_at h with ⟨_, h1, _, _⟩ | ⟨g, rfl⟩
  · omega
  · refine ⟨g, rfl, ?_⟩
    rw [← bitOf_seg N L i hi]
    exact ownsRow_cell h i _ (bitl_at N L i hi)
theorem seg_byte8 (M T k : Nat) (hk : k < T) : seg M (8 * T) (8 * k) 8 = byt M (8 * T) k := by
  unfold seg byt
  rw [show 8 * T - 8 * k - 8 = 8 * T - 8 * (k + 1) from by omega]

set_option maxHeartbeats 1600000 in
theorem rbytes_any (w : World) (B : Nat) (lo : Option Addr) (lcap N L : Nat) (h : Lst w B lo lcap N L) (hB : B ≤ w.heap.size) (hL : L ≤ 1000000000000) :
    Calls Try.prog 26 #[.slice lo L lcap] w fun e w' => ∃ g, e = .returned (.slice (some ⟨g, 0, none⟩) ((L + 7) / 8) ((L + 7) / 8)) ∧ Below w.heap.size w w' ∧ w'.rowIs g 5 ((L + 7) / 8) (fun i => .int .u8 (bts N L i : Int)) := by
  have hal := ralign_list w B lo lcap N L h hB (by omega)
  have hT : (L + 7) / 8 ≤ 1000000000000 := by omega
  unfold bts
  generalize (L + 7) / 8 = T at *
  generalize pad N L = M at *
  have hmk : ∀ w, (Instr.makeSlice 41 (.int .i64 (T : Int)) (.int .i64 (T : Int))).run Try.prog w = .ok (.slice (some ⟨w.heap.size, 0, none⟩) T T) (w.alloc (.cells (madeCells #[.int .u8 0] T) 5)) := fun w =>
    run_make_row' (P := Try.prog) 41 5 (.int .u8 0) 1 Try.underlying41 Try.info5 rfl .i64 .i64 T (by omega) (by omega) w
  go_enter Try.func26, Try.ntmps26
  go_wp2_with fail
  refine hal.mono ?_
  rintro e w1 ⟨x, rfl, hx⟩
  obtain ⟨lo1, lcap1, rfl, h1, hb1⟩ := hx.ex
  clear hx h hal hB hL
  go_wp2_with fail
  have hst : (w1.alloc (.cells (madeCells #[.int .u8 0] T) 5)).rowIs w1.heap.size 5 T (fun i => if i < 0 then .int .u8 (byt M (8 * T) i : Int) else .int .u8 0) :=
    (World.rowIs_made w1 (.int .u8 0) T 5).congr fun i hi => by rw [if_neg (by omega)]
  have hb2 : Below w.heap.size w (w1.alloc (.cells (madeCells #[.int .u8 0] T) 5)) := hb1.alloc hb1.size _
  have h2 := Lst.fr h1 ((Fr.refl (fun _ => False) w1).alloc (.cells (madeCells #[.int .u8 0] T) 5)) (fun _ _ x => x)
  have hfar : ∀ g, blk lo1 = some g → g ≠ w1.heap.size := fun g hg => by have := (h1.lt g hg).2; omega
  have hle : w.heap.size ≤ w1.heap.size := hb1.size
  have HFAR := hid hfar
  clear hmk h1 hb1 hfar
  go_loopg [4, 5, 6] T (fun g i n k wr => ∃ j : Nat, j ≤ T ∧ g = T - j ∧ i = .int .i64 j ∧ Lst wr B lo1 lcap1 M (8 * T) ∧ Below w.heap.size w wr ∧ wr.rowIs w1.heap.size 5 T (fun i => if i < j then .int .u8 (byt M (8 * T) i : Int) else .int .u8 0))
  case atStart => exact ⟨0, Nat.zero_le _, rfl, rfl, h2, hb2, hst⟩
  case round =>
    obtain ⟨j, hj, hg, rfl, hl, hb, hrow⟩ := hrel
    have HG := hid hg
    clear hg h2 hb2 hst
    by_cases hlt : j < T
    · have hlt2 : (j : Int) < (T : Int) := by omega
      go_wp2_with fail
      go_loopg [5, 6] 8 (fun g n k wi => ∃ m : Nat, m ≤ 8 ∧ g = 8 - m ∧ k = .int .i64 m ∧ n = .int .i64 (seg M (8 * T) (8 * j) m : Int) ∧ wr = wi)
      case atStart => exact ⟨0, by decide, rfl, rfl, by rw [seg_zero]; rfl, rfl⟩
      case round =>
        obtain ⟨m, hm, hg, rfl, rfl, rfl⟩ := hrel
        have HG2 := hid hg
        clear hg
        by_cases hm8 : m < 8
        · have hm9 : (m : Int) < 8 := by omega
          obtain ⟨g, rfl, hcell⟩ := hl.bit (8 * j + m) (by omega)
          have hsu := seg_succ M (8 * T) (8 * j) m (by omega)
          have hsl := seg_lt M (8 * T) (8 * j) (m + 1)
          have hpw : 2 ^ (m + 1) ≤ 2 ^ 8 := Nat.pow_le_pow_right (by decide) (by omega)
          have HSU := hid hsu; have HSL := hid (Nat.lt_of_lt_of_le hsl hpw)
          clear hsu hsl hpw
          have i1 : (0 : Int) ≤ 8 * (j : Int) + m := by omega
          have i2 : 8 * (j : Int) + m < ((8 * T : Nat) : Int) := by omega
          have i3 : 8 * (j : Int) + m < 8 * (T : Int) := by omega
          generalize seg M (8 * T) (8 * j) m = sj at *
          generalize seg M (8 * T) (8 * j + m) 1 = sb at *
          have sb1 : 2 * (sj : Int) + sb < 256 := by have := HSL.out; have := HSU.out; omega
          go_wp2_with fail
          have hval : 2 * (sj : Int) + (sb : Int) = ((seg M (8 * T) (8 * j) (m + 1) : Nat) : Int) := by rw [← HSU.out]; omega
          go_roundg (8 - (m + 1))
          case measure => rw [HG2.out]; omega
          case rel => exact ⟨m + 1, by omega, rfl, by go_num, by first | rw [hval] | go_num, rfl⟩
        · have hm9 : ¬ (m : Int) < 8 := by omega
          obtain rfl : m = 8 := by omega
          rw [seg_byte8 M T j hlt]
          have hbl := byt_lt M (8 * T) j
          have hc := hrow.cell (i := j) hlt
          have hf := hrow.frozen j
          have HR := hid hrow
          clear hrow hm9
          go_wp2_with fail
          have hset := HR.out.set j (.int .u8 ((byt M (8 * T) j : Nat) : Int))
          have hset2 : (wr.setCell ⟨w1.heap.size, j, none⟩ (.int .u8 ((byt M (8 * T) j : Nat) : Int))).rowIs w1.heap.size 5 T (fun i => if i < j + 1 then .int .u8 (byt M (8 * T) i : Int) else .int .u8 0) := by
            refine hset.congr fun k hk => ?_
            by_cases e : k = j
            · subst e; rw [if_pos rfl, if_pos (by omega)]
            · rw [if_neg e]
              by_cases e2 : k < j
              · rw [if_pos e2, if_pos (by omega)]
              · rw [if_neg e2, if_neg (by omega)]
          have hb3 := hb.setCell (p := ⟨w1.heap.size, j, none⟩) hle (.int .u8 ((byt M (8 * T) j : Nat) : Int))
          have hl3 := hl.fr ((Fr.refl (fun b => b = w1.heap.size) wr).setCell (p := ⟨w1.heap.size, j, none⟩) rfl (.int .u8 ((byt M (8 * T) j : Nat) : Int))) HFAR.out
          clear hset hc hf hl hb
          go_roundg (T - (j + 1))
          case measure => rw [HG.out]; omega
          case rel => exact ⟨j + 1, by omega, rfl, by go_num, hl3, hb3, hset2⟩
    · have hge : ¬ (j : Int) < (T : Int) := by omega
      obtain rfl : j = T := by omega
      go_wp2_with fail
      go_ret
      exact ⟨_, rfl, hb, hrow.congr fun i hi => by rw [if_pos hi]⟩
end Go.Proofs.Ytjimamjhakainaa.Bit
/- The document's Code: a list of bits of the call's own, the number's code. No condition. -/
namespace Go.Proofs.Ytjimamjhakainaa.Rice
open Go.RowKit Bit

/-- A number's code, or nothing. -/
def codI (u : Nat) (k : Int) : Nat := if okK k ∧ coded u then cod u k.toNat else 0
def CodePost (w : World) (N L : Nat) (e : Ending) (w' : World) : Prop := ∃ lo lcap, e = .returned (.slice lo L lcap) ∧ Nw w w.heap.size lo lcap N L w'
theorem nw_none (w : World) : Nw w w.heap.size none 0 0 0 w := ⟨World.ownsRow_nil _ _ _ _, Below.refl _ _, fun g hg => by simp [blk] at hg⟩

theorem bitl_mod (u k : Nat) : bitl u k = bitl (u % 2 ^ k) k := by
  unfold bitl
  refine List.map_congr_left fun i hi => ?_
  have hi := List.mem_range.1 hi
  have e : bitOf u k i = bitOf (u % 2 ^ k) k i := by
    unfold bitOf
    have e1 : 2 ^ k = 2 ^ (k - 1 - i) * (2 * 2 ^ i) := by rw [← Nat.pow_succ', ← Nat.pow_add]; congr 1; omega
    rw [e1, Nat.mod_mul_right_div_self, Nat.mod_mod_of_dvd _ (Nat.dvd_mul_right 2 _)]
  rw [e]
theorem ones_next (j : Nat) : (2 ^ j - 1) * 2 ^ 1 + 1 = 2 ^ (j + 1) - 1 := by
  have := Nat.two_pow_pos j
  rw [Nat.pow_succ]; omega

theorem join_code (x r k : Nat) : x * 2 ^ (k + 1) + r = (x * 2 ^ 1 + 0) * 2 ^ k + r := by
  have e : 2 ^ (k + 1) = 2 ^ 1 * 2 ^ k := by rw [← Nat.pow_add, Nat.add_comm]
  rw [e, ← Nat.mul_assoc]; rfl

theorem code_no (u : Nat) (k : Int) (w : World) (h : ¬ (okK k ∧ coded u)) :
    Calls Try.prog 70 #[.int .u64 (u : Int), .int .i64 k] w (CodePost w (codI u k) (cost u k)) := by
  rw [cost_no h, show codI u k = 0 from if_neg h]
  have hn := nw_none w
  by_cases h0 : okK k
  · have h1 : ¬ coded u := fun hc => h ⟨h0, hc⟩
    go_enter Try.func70, Try.ntmps70
    go_wp2_with fail
    refine (rparam _ _).mono ?_
    rintro e w' ⟨rfl, rfl⟩
    rw [decide_eq_true h0]
    go_wp2_with fail
    refine (rmay _ _).mono ?_
    rintro e w' ⟨rfl, rfl⟩
    rw [decide_eq_false h1]
    go_wp2_with fail
    go_ret
    exact ⟨none, 0, rfl, hn⟩
  · go_enter Try.func70, Try.ntmps70
    go_wp2_with fail
    refine (rparam _ _).mono ?_
    rintro e w' ⟨rfl, rfl⟩
    rw [decide_eq_false h0]
    go_wp2_with fail
    go_ret
    exact ⟨none, 0, rfl, hn⟩

set_option maxHeartbeats 1600000 in
theorem code_ok (u k : Nat) (hk : k ≤ 30) (hu : coded u) (w : World) :
    Calls Try.prog 70 #[.int .u64 (u : Int), .int .i64 (k : Int)] w (CodePost w (codI u k) (cost u k)) := by
  have h0 : okK (k : Int) := ⟨by omega, by omega⟩
  have hu2 : u < 1099511627776 := hu
  rw [show codI u k = cod u k from if_pos ⟨h0, hu⟩]
  obtain ⟨i0, hi, hz0, hz1, hz2⟩ := info_parts Try.info3
  have hn0 := nw_none w
  have HCO : Hid (u / 2 ^ k < 24 → cost u (k : Int) = u / 2 ^ k + 1 + k ∧ cod u k = (2 ^ (u / 2 ^ k) - 1) * 2 ^ (k + 1) + u % 2 ^ k) := hid fun h => ⟨cost_low hk hu h, if_pos h⟩
  have HCH : Hid (¬ u / 2 ^ k < 24 → cost u (k : Int) = 64 ∧ cod u k = (2 ^ 24 - 1) * 2 ^ 40 + u) := hid fun h => ⟨cost_high hk hu h, if_neg h⟩
  have hq := rquot u k hk
  have hqb : u / 2 ^ k < 18446744073709551616 := Nat.lt_of_le_of_lt (Nat.div_le_self _ _) (by omega)
  have hrb : u % 2 ^ k < 2 ^ k := Nat.mod_lt _ (Nat.two_pow_pos k)
  have HBM := hid (bitl_mod u k)
  generalize u / 2 ^ k = q at *
  generalize u % 2 ^ k = r at *
  go_enter Try.func70, Try.ntmps70
  go_wp2_with fail
  refine (rparam _ _).mono ?_
  rintro e w' ⟨rfl, rfl⟩
  rw [decide_eq_true h0]
  go_wp2_with fail
  refine (rmay _ _).mono ?_
  rintro e w' ⟨rfl, rfl⟩
  rw [decide_eq_true hu]
  go_wp2_with fail
  refine (hq _).mono ?_
  rintro e w' ⟨rfl, rfl⟩
  go_wp2_with fail
  go_loopg [6, 7] 24 (fun g v i wr => ∃ (j : Nat) (lo : Option Addr) (lcap : Nat), j ≤ 24 ∧ j ≤ q ∧ g = 24 - j ∧ i = .int .i64 j ∧ v = .slice lo j lcap ∧ Nw w w.heap.size lo lcap (2 ^ j - 1) j wr)
  case atStart => exact ⟨0, none, 0, by omega, by omega, rfl, rfl, rfl, hn0⟩
  case round =>
    obtain ⟨j, lo, lcap, hj, hjq, hg, rfl, rfl, hn⟩ := hrel
    have HG := hid hg
    clear hg hn0
    by_cases h24 : j < 24
    · have h24' : (j : Int) < 24 := by omega
      by_cases hjl : j < q
      · have hjl' : (j : Int) < (q : Int) := by omega
        have hb2 : Below wr.heap.size wr (wr.alloc (.cells #[.int .i64 1] 3)) := (Below.refl _ _).alloc (Nat.le_refl _) _
        have hn3 := hn.below' hb2
        have hsz : w.heap.size ≤ (wr.alloc (.cells #[.int .i64 1] 3)).heap.size := hn3.below.size
        have hcell : (wr.alloc (.cells #[.int .i64 1] 3)).cell? ⟨wr.heap.size, 0, none⟩ = some (.int .i64 1) := by simp
        go_wp2_with (at_builtin; go_must (refine wpList_append_list _ rfl (.tmp 29) (.tmp 30) 22 rfl w.heap.size 3 i0 (.int .i64 0) 8 Try.underlying22 hi hz0 hz1 hz2 rfl lo j lcap (bitl (2 ^ j - 1) j) rfl hn3.lst (some ⟨wr.heap.size, 0, none⟩) 1 1 (bitl 1 1) rfl (bitl_len 1 1) (by simp) (fun ad had => by
          cases had
          rw [bitl1 1 (by decide)]; exact news_one hcell) (bitl_one 1 1) (by unfold maxLen; omega) (by omega) hsz ?_))
        intro lo4 lcap4 w4 hown4 hg4 hat4
        have hn4 := hn.app hb2 (v := 1) (n := 1) (by decide) hown4 hg4 (by simpa using hat4)
        rw [ones_next] at hn4
        clear hown4 hg4 hat4 hn hn3 hb2 hcell hsz
        go_wp2_with fail
        go_roundg (24 - (j + 1))
        case measure => rw [HG.out]; omega
        case rel => exact ⟨j + 1, lo4, lcap4, by omega, by omega, rfl, by go_num, rfl, hn4⟩
      · obtain rfl : j = q := by omega
        obtain ⟨hco1, hco2⟩ := HCO.out h24
        have HC1 := hid hco1
        have HC2 := hid hco2
        have hjl' : ¬ (j : Int) < (j : Int) := by omega
        have hb2 : Below wr.heap.size wr (wr.alloc (.cells #[.int .i64 0] 3)) := (Below.refl _ _).alloc (Nat.le_refl _) _
        have hn3 := hn.below' hb2
        have hsz : w.heap.size ≤ (wr.alloc (.cells #[.int .i64 0] 3)).heap.size := hn3.below.size
        have hcell : (wr.alloc (.cells #[.int .i64 0] 3)).cell? ⟨wr.heap.size, 0, none⟩ = some (.int .i64 0) := by simp
        clear hco1 hco2
        go_wp2_with (at_builtin; go_must (refine wpList_append_list _ rfl (.tmp 34) (.tmp 35) 22 rfl w.heap.size 3 i0 (.int .i64 0) 8 Try.underlying22 hi hz0 hz1 hz2 rfl lo j lcap (bitl (2 ^ j - 1) j) rfl hn3.lst (some ⟨wr.heap.size, 0, none⟩) 1 1 (bitl 0 1) rfl (bitl_len 0 1) (by simp) (fun ad had => by
          cases had
          rw [bitl1 0 (by decide)]; exact news_one hcell) (bitl_one 0 1) (by unfold maxLen; omega) (by omega) hsz ?_))
        intro lo4 lcap4 w4 hown4 hg4 hat4
        have hn4 := hn.app hb2 (v := 0) (n := 1) (by decide) hown4 hg4 (by simpa using hat4)
        clear hown4 hg4 hat4 hn hn3 hb2 hcell hsz
        go_wp2_with fail
        refine (bits_any u k w4 (by omega) (by omega)).mono ?_
        rintro e w5 ⟨rfl, hb5, hrow⟩
        have hn5 := hn4.below' hb5
        have hsz5 : w.heap.size ≤ w5.heap.size := hn5.below.size
        go_wp2_with (at_builtin; go_must (refine wpList_append_list _ rfl (.tmp 36) (.tmp 39) 22 rfl w.heap.size 3 i0 (.int .i64 0) 8 Try.underlying22 hi hz0 hz1 hz2 rfl lo4 (j + 1) lcap4 (bitl ((2 ^ j - 1) * 2 ^ 1 + 0) (j + 1)) rfl hn5.lst (some ⟨w4.heap.size, 0, none⟩) k k (bitl r k) rfl (bitl_len r k) (by simp) (fun ad had i u' hj => by
          cases had
          have hjm : i < k := by have := (List.getElem?_eq_some_iff.1 hj).1; simpa [bitl] using this
          rw [← HBM.out] at hj
          rw [Addr.add_lit, Nat.zero_add, hrow.cell hjm, ← bitl_at u k i hjm]; exact hj) (bitl_one r k) (by unfold maxLen; omega) (by omega) hsz5 ?_))
        intro lo6 lcap6 w6 hown6 hg6 hat6
        have hn6 := hn4.app hb5 hrb hown6 hg6 hat6
        have hfin : CodePost w (cod u k) (cost u k) (.returned (.slice lo6 (j + 1 + k) lcap6)) w6 := by
          rw [HC1.out, HC2.out]
          refine ⟨lo6, lcap6, rfl, ?_⟩
          rw [join_code]
          exact hn6
        clear hown6 hg6 hat6 hn6 hn5 hrow hb5 hn4
        go_wp2_with fail
        go_ret
        exact hfin
    · have h24' : ¬ (j : Int) < 24 := by omega
      obtain rfl : j = 24 := by omega
      obtain ⟨hco1, hco2⟩ := HCH.out (by omega)
      have HC1 := hid hco1
      have HC2 := hid hco2
      have hq24 : ¬ (q : Int) < 24 := by omega
      clear hco1 hco2
      go_wp2_with fail
      refine (bits_any u 40 wr (by omega) (by omega)).mono ?_
      rintro e w5 ⟨rfl, hb5, hrow⟩
      have hn5 := hn.below' hb5
      have hsz5 : w.heap.size ≤ w5.heap.size := hn5.below.size
      go_wp2_with (at_builtin; go_must (refine wpList_append_list _ rfl (.tmp 41) (.tmp 43) 22 rfl w.heap.size 3 i0 (.int .i64 0) 8 Try.underlying22 hi hz0 hz1 hz2 rfl lo 24 lcap (bitl (2 ^ 24 - 1) 24) rfl hn5.lst (some ⟨wr.heap.size, 0, none⟩) 40 40 (bitl u 40) rfl (bitl_len u 40) (by simp) (fun ad had i u' hj => by
        cases had
        have hjm : i < 40 := by have := (List.getElem?_eq_some_iff.1 hj).1; simpa [bitl] using this
        rw [Addr.add_lit, Nat.zero_add, hrow.cell hjm, ← bitl_at u 40 i hjm]; exact hj) (bitl_one u 40) (by unfold maxLen; omega) (by omega) hsz5 ?_))
      intro lo6 lcap6 w6 hown6 hg6 hat6
      have hn6 := hn.app hb5 (show u < 2 ^ 40 from hu2) hown6 hg6 hat6
      have hfin : CodePost w (cod u k) (cost u k) (.returned (.slice lo6 64 lcap6)) w6 := by
        rw [HC1.out, HC2.out]
        exact ⟨lo6, lcap6, rfl, hn6⟩
      clear hown6 hg6 hat6 hn6 hn5 hrow hb5 hn
      go_wp2_with fail
      go_ret
      exact hfin

theorem code_any (u : Nat) (k : Int) (w : World) :
    Calls Try.prog 70 #[.int .u64 (u : Int), .int .i64 k] w (CodePost w (codI u k) (cost u k)) := by
  by_cases h : okK k ∧ coded u
  · obtain ⟨n, rfl⟩ := Int.eq_ofNat_of_zero_le h.1.1
    exact code_ok u n (by have := h.1.2; omega) h.2 w
  · exact code_no u k w h
end Go.Proofs.Ytjimamjhakainaa.Rice
