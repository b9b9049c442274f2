/- Bytes as a list of numbers below 256: as they lie behind a slice, as a row of the call's own, as a text; numbers as bytes, the lowest one first. Conditions: those that each lemma names. -/
import Derived.Test.YtgcnbeigchppfaaGen
import Derived.Test.YtgcnbeigchppfaaProg
import Derived.Laws.OwnMore
import Derived.Laws.BytesArg
import Derived.Lib.ConvBytes
import Derived.WalkSpells
namespace Go.Proofs.Ytgcnbeigchppfaa.Gen
open Go.RowKit

set_option maxRecDepth 100000 in
theorem Try.info5 : (Try.prog.info? 5).map (fun i => (i.zero, i.size, i.bytes)) = some (some (.int .u8 0), 1, 1) := by kernel_rfl

/-- Bytes as values. -/
def bl (l : List Nat) : List Value := l.map fun (b : Nat) => .int .u8 (b : Int)
set_option maxRecDepth 100000 in
theorem bl_len (l : List Nat) : (bl l).length = l.length := by simp [bl]
set_option maxRecDepth 100000 in
theorem bl_app (l m : List Nat) : bl (l ++ m) = bl l ++ bl m := by simp [bl]
set_option maxRecDepth 100000 in
theorem bl_at (l : List Nat) (j : Nat) : (bl l)[j]? = (l[j]?).map fun (b : Nat) => .int .u8 (b : Int) := by simp [bl]
set_option maxRecDepth 100000 in
theorem bl_one (l : List Nat) : ∀ u ∈ bl l, u.oneCell' = true := by
  intro u hu
  obtain ⟨i, _, rfl⟩ := List.mem_map.1 hu
  rfl

/-- The bytes l lie behind the slice at a. -/
structure Byts (w : World) (a : Option Addr) (l : List Nat) : Prop where
  lt : ∀ b ∈ l, b < 256
  at_ : ∀ (j x : Nat), l[j]? = some x → ∃ b off, a = some ⟨b, off, none⟩ ∧ w.cell? ⟨b, off + j, none⟩ = some (.int .u8 (x : Int))
set_option maxRecDepth 100000 in
theorem Byts.keep {w w' : World} {a : Option Addr} {l : List Nat} (h : Byts w a l) (e : Below w.heap.size w w') : Byts w' a l :=
  ⟨h.lt, fun j x hj => by
    obtain ⟨b, off, ha, hc⟩ := h.at_ j x hj
    exact ⟨b, off, ha, (e.cell (p := ⟨b, off + j, none⟩) (World.block_lt_of_cell? w _ hc)).trans hc⟩⟩
set_option maxRecDepth 100000 in
theorem Byts.stay {w w' : World} {a : Option Addr} {l : List Nat} (h : Byts w a l) {X : Nat → Prop} (e : Fr X w w') (hx : ∀ b off, a = some ⟨b, off, none⟩ → ¬ X b) : Byts w' a l :=
  ⟨h.lt, fun j x hj => by
    obtain ⟨b, off, ha, hc⟩ := h.at_ j x hj
    exact ⟨b, off, ha, (e.cell (p := ⟨b, off + j, none⟩) (World.block_lt_of_cell? w _ hc) (hx b off ha)).trans hc⟩⟩
set_option maxRecDepth 100000 in
theorem Byts.nil (w : World) (a : Option Addr) : Byts w a [] := ⟨(fun _ h => by cases h), (fun _ _ h => by simp at h)⟩
set_option maxRecDepth 100000 in
theorem Byts.none_len {w : World} {a : Option Addr} {l : List Nat} (h : Byts w a l) (e : a = none) : l = [] := by
  cases l with
  | nil => rfl
  | cons x l =>
    obtain ⟨b, off, e', _⟩ := h.at_ 0 x rfl
    rw [e] at e'; cases e'
set_option maxRecDepth 100000 in
theorem Byts.take {w : World} {a : Option Addr} {l : List Nat} (h : Byts w a l) (n : Nat) : Byts w a (l.take n) :=
  ⟨fun b hb => h.lt b (List.mem_of_mem_take hb), fun j x hj => h.at_ j x (by
    rw [List.getElem?_take] at hj
    split at hj
    · exact hj
    · cases hj)⟩
set_option maxRecDepth 100000 in
theorem Byts.drop {w : World} {b off : Nat} {l : List Nat} (h : Byts w (some ⟨b, off, none⟩) l) (n : Nat) : Byts w (some ⟨b, off + n, none⟩) (l.drop n) :=
  ⟨fun b hb => h.lt b (List.mem_of_mem_drop hb), fun j x hj => by
    rw [List.getElem?_drop] at hj
    obtain ⟨b', off', e, hc⟩ := h.at_ _ x hj
    cases e
    exact ⟨b, off + n, rfl, by rw [Nat.add_assoc]; exact hc⟩⟩
set_option maxRecDepth 100000 in
theorem Byts.cells {w : World} {a : Option Addr} {l : List Nat} (h : Byts w a l) : ∀ ad, a = some ad → ∀ j u, (bl l)[j]? = some u → w.cell? (ad.add j) = some u := by
  rintro ad rfl j u hj
  rw [bl_at] at hj
  cases hx : l[j]? with
  | none => rw [hx] at hj; cases hj
  | some x =>
    rw [hx] at hj; cases hj
    obtain ⟨b, off, e, hc⟩ := h.at_ j x hx
    cases e
    rw [Addr.add_lit]; exact hc
set_option maxRecDepth 100000 in
theorem Byts.of_row {w : World} {base : Nat} {ao : Option Addr} {n cap : Nat} {l : List Nat} (hf : ∀ b ∈ l, b < 256) (h : w.ownsRow base 5 1 (.slice ao n cap) n (bl l)) : Byts w ao l := by
  refine ⟨hf, fun j x hj => ?_⟩
  rcases ownsRow_at h with ⟨_, _, _, h1⟩ | ⟨g, rfl⟩
  · have : l = [] := by simpa [bl] using h1
    subst this; simp at hj
  · exact ⟨g, 0, rfl, by rw [Nat.zero_add]; exact ownsRow_cell h j _ (by rw [bl_at, hj]; rfl)⟩

/-- A list of bytes as a text. -/
def tos (l : List Nat) : ByteArray := ⟨(l.map UInt8.ofNat).toArray⟩
/-- A text's bytes. -/
def sb (s : ByteArray) : List Nat := s.data.toList.map UInt8.toNat
set_option maxRecDepth 100000 in
theorem sb_lt (s : ByteArray) : ∀ b ∈ sb s, b < 256 := by
  intro b hb
  obtain ⟨x, _, rfl⟩ := List.mem_map.1 hb
  exact x.toNat_lt
set_option maxRecDepth 100000 in
theorem sb_len (s : ByteArray) : (sb s).length = s.size := by
  unfold sb
  rw [List.length_map, Array.length_toList]; rfl
set_option maxRecDepth 100000 in
theorem sb_tos (l : List Nat) (h : ∀ b ∈ l, b < 256) : sb (tos l) = l := by
  simp only [sb, tos, List.map_map]
  conv => rhs; rw [← List.map_id l]
  refine List.map_congr_left fun b hb => ?_
  have := h b hb
  show (UInt8.ofNat b).toNat = b
  simp; omega
set_option maxRecDepth 100000 in
theorem tos_sb (s : ByteArray) : tos (sb s) = s := by
  cases s with
  | mk d =>
    simp only [sb, tos, List.map_map]
    congr 1
    have : List.map (UInt8.ofNat ∘ UInt8.toNat) d.toList = d.toList := by
      conv => rhs; rw [← List.map_id d.toList]
      refine List.map_congr_left fun x _ => ?_
      simp
    rw [this]
set_option maxRecDepth 100000 in
theorem tos_eq {l m : List Nat} (hl : ∀ b ∈ l, b < 256) (hm : ∀ b ∈ m, b < 256) : (tos l = tos m) ↔ l = m :=
  ⟨fun h => by rw [← sb_tos l hl, ← sb_tos m hm, h], fun h => by rw [h]⟩
set_option maxRecDepth 100000 in
theorem tos_size (l : List Nat) : (tos l).size = l.length := by simp [tos, ByteArray.size]
set_option maxRecDepth 100000 in
theorem Byts.conv {w : World} {a : Option Addr} {l : List Nat} (h : Byts w a l) (cap : Nat) : (convert 22 9 (.slice a l.length cap)).run Try.prog w = .ok (.string (tos l)) w := by
  cases a with
  | none =>
    rw [h.none_len rfl, run_convert_bytes_nil (P := Try.prog) w 22 5 Try.underlying22 Try.underlying5 _ _ 9 Try.underlying9]
    rfl
  | some ad =>
    cases hl : l with
    | nil =>
      rw [run_convert_bytes_string w 22 9 5 _ _ cap Try.underlying22 Try.underlying5 Try.underlying9]
      have := run_bytesToString (P := Try.prog) w ad 0 cap [] (by simp [loadCells, loadCellsFrom])
      rw [show ([] : List Nat).length = 0 from rfl, this]
      rfl
    | cons x m =>
      obtain ⟨b, off, e, _⟩ := h.at_ 0 x (by rw [hl]; rfl)
      cases e
      rw [← hl]
      have := run_convert_bytes_arg (P := Try.prog) w 22 5 Try.underlying22 Try.underlying5 b off l.length cap (l.map fun (b : Nat) => (b : Int)) (by simp) (fun i hi => by
        obtain ⟨b', off', e', hc⟩ := h.at_ i l[i] (List.getElem?_eq_getElem hi)
        cases e'
        rw [hc]; simp [List.getD, List.getElem?_eq_getElem hi]) 9 Try.underlying9
      rw [this]
      simp only [strOfNums, tos, List.map_map]
      congr 3
set_option maxRecDepth 100000 in
theorem byts_of_string (w : World) (s : ByteArray) : Byts (Lib.bytesWorld w 5 s) (some ⟨w.heap.size, 0, none⟩) (sb s) :=
  ⟨sb_lt s, fun j x hj => ⟨w.heap.size, 0, rfl, by
    have hjl : j < s.size := by rw [← sb_len]; exact (List.getElem?_eq_some_iff.1 hj).1
    rw [Nat.zero_add, Lib.bytesWorld_cell w 5 s j hjl]
    simp only [sb, List.getElem?_map] at hj
    cases hx : s.data.toList[j]? with
    | none => rw [hx] at hj; cases hj
    | some y =>
      rw [hx] at hj; cases hj
      simp [List.getD, hx]⟩⟩
set_option maxRecDepth 100000 in
theorem below_string (w : World) (s : ByteArray) : Below w.heap.size w (Lib.bytesWorld w 5 s) :=
  ⟨rfl, rfl, rfl, by rw [Lib.bytesWorld_size]; omega, fun k hk => Lib.bytesWorld_at_old w 5 s k hk⟩
set_option maxRecDepth 100000 in
theorem conv_string (w : World) (s : ByteArray) : (convert 9 22 (.string s)).run Try.prog w = .ok (.slice (some ⟨w.heap.size, 0, none⟩) s.size (grownCap w s.size 0 5)) (Lib.bytesWorld w 5 s) :=
  Lib.run_convert_string_bytes w 9 22 5 s Try.underlying9 Try.underlying22 Try.underlying5

set_option maxRecDepth 100000 in
theorem eql_nil (w : World) (a : Option Addr) (n c : Nat) : (binOp .eql 22 (.slice a n c) (.slice none 0 0)).run Try.prog w = .ok (.bool a.isNone) w :=
  Lib.run_eql_slice_nil w 22 5 a n c 0 0 Try.underlying22

set_option maxRecDepth 100000 in
theorem toList_tos (l : List Nat) : (tos l).toList = l.map UInt8.ofNat := ByteArray.toList_eq _
set_option maxRecDepth 100000 in
theorem tos_beq {l m : List Nat} (hl : ∀ b ∈ l, b < 256) (hm : ∀ b ∈ m, b < 256) : ((tos l).toList == (tos m).toList) = decide (l = m) := by
  by_cases h : l = m
  · subst h; simp
  · rw [decide_eq_false h, beq_eq_false_iff_ne, toList_tos, toList_tos]
    intro e
    exact h ((tos_eq hl hm).1 (by unfold tos; rw [e]))
set_option maxRecDepth 100000 in
theorem tos_bne {l m : List Nat} (hl : ∀ b ∈ l, b < 256) (hm : ∀ b ∈ m, b < 256) : ((tos l).toList != (tos m).toList) = !decide (l = m) := by
  rw [bne, tos_beq hl hm]

/-! ### Numbers as bytes, the lowest one first -/
def le (v : Nat) : Nat → List Nat
  | 0 => []
  | n + 1 => le v n ++ [v / 2 ^ (8 * n) % 256]
set_option maxRecDepth 100000 in
theorem le_len (v n : Nat) : (le v n).length = n := by
  induction n with
  | zero => rfl
  | succ n ih => simp [le, ih]
set_option maxRecDepth 100000 in
theorem le_lt (v n : Nat) : ∀ b ∈ le v n, b < 256 := by
  induction n with
  | zero => intro b h; cases h
  | succ n ih =>
    intro b h
    rcases List.mem_append.1 h with h | h
    · exact ih b h
    · rw [List.mem_singleton.1 h]; exact Nat.mod_lt _ (by decide)
/-- The number that bytes are. -/
def lev : List Nat → Nat
  | [] => 0
  | b :: l => b + 256 * lev l
set_option maxRecDepth 100000 in
theorem lev_app (l m : List Nat) : lev (l ++ m) = lev l + 2 ^ (8 * l.length) * lev m := by
  induction l with
  | nil => simp [lev]
  | cons b l ih =>
    simp only [List.cons_append, lev, ih, List.length_cons]
    rw [show 8 * (l.length + 1) = 8 + 8 * l.length from by omega, Nat.pow_add, show (2 : Nat) ^ 8 = 256 from rfl, Nat.mul_add, Nat.mul_assoc]
    omega
set_option maxRecDepth 100000 in
theorem lev_le (v n : Nat) : lev (le v n) = v % 2 ^ (8 * n) := by
  induction n with
  | zero => simp [le, lev, Nat.mod_one]
  | succ n ih =>
    rw [le, lev_app, ih, le_len]
    simp only [lev, Nat.mul_zero, Nat.add_zero]
    rw [show 8 * (n + 1) = 8 * n + 8 from by omega, Nat.pow_add, Nat.mod_mul]
set_option maxRecDepth 100000 in
theorem lev_lt (l : List Nat) (h : ∀ b ∈ l, b < 256) : lev l < 2 ^ (8 * l.length) := by
  induction l with
  | nil => simp [lev]
  | cons b l ih =>
    have h1 := ih fun x hx => h x (List.mem_cons_of_mem _ hx)
    have h2 := h b (List.mem_cons_self ..)
    simp only [lev, List.length_cons]
    rw [show 8 * (l.length + 1) = 8 + 8 * l.length from by omega, Nat.pow_add, show (2 : Nat) ^ 8 = 256 from rfl]
    omega
end Go.Proofs.Ytgcnbeigchppfaa.Gen
