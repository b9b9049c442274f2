/- A head's bytes, of the program. Conditions: a table in memory. -/
import Derived.Test.YthjjonbkfkpkmaaDoorY13
import Derived.Lib.SlBytesConst
import Derived.Deep.LoopGhost
namespace Go.Proofs.YthjjonbkfkpkmaaDoor.Head
open Go.RowKit Gen Fld
open Crc hiding hid

/-- The fields of a head. -/
def fd (h : Hh) : Nat → Nat
  | 0 => h.ix.toNat
  | 1 => h.ln.toNat
  | 2 => h.st.toNat
  | 3 => h.bd.toNat
  | 4 => h.lk
  | 5 => h.sz.toNat
  | _ => 0
def lb (b : Bool) : Nat := if b then 1 else 0
/-- The first bytes, and so many fields behind them. -/
def pre (h : Hh) : Nat → List Nat
  | 0 => [222, 92] ++ le h.k.toNat 1 ++ le (lb h.la) 1
  | j + 1 => pre h j ++ le (fd h j) 4
set_option maxRecDepth 100000 in
theorem pre_len (h : Hh) : ∀ j, (pre h j).length = 4 + 4 * j
  | 0 => rfl
  | j + 1 => by show (pre h j ++ le (fd h j) 4).length = _; rw [List.length_append, pre_len h j, le_len]; omega
set_option maxRecDepth 100000 in
theorem pre_lt (h : Hh) : ∀ j, ∀ b ∈ pre h j, b < 256
  | 0 => by
    intro b hb
    rcases List.mem_append.1 hb with hb | hb
    · rcases List.mem_append.1 hb with hb | hb
      · have : b = 222 ∨ b = 92 := by simpa using hb
        omega
      · exact le_lt _ _ b hb
    · exact le_lt _ _ b hb
  | j + 1 => by
    intro b hb
    rcases List.mem_append.1 hb with hb | hb
    · exact pre_lt h j b hb
    · exact le_lt _ _ b hb
/-- A head's bytes. -/
def hby (h : Hh) : List Nat := smd (pre h 6)
set_option maxRecDepth 100000 in
theorem hby_len (h : Hh) : (hby h).length = 32 := by unfold hby; rw [smd_len, pre_len]
set_option maxRecDepth 100000 in
theorem hby_lt (h : Hh) : ∀ b ∈ hby h, b < 256 := smd_lt (pre_lt h 6)
set_option maxRecDepth 100000 in
theorem fd_lt (h : Hh) (hi : Inn h) (hk : h.lk < 4294967296) (j : Nat) : fd h j < 4294967296 := by
  obtain ⟨h0, h1, h2, h3, h4, h5, h6, h7, h8, h9⟩ := hi
  rcases j with _ | _ | _ | _ | _ | _ | j
  · show h.ix.toNat < _; omega
  · show h.ln.toNat < _; omega
  · show h.st.toNat < _; omega
  · show h.bd.toNat < _; omega
  · exact hk
  · show h.sz.toNat < _; omega
  · show 0 < _; omega
set_option maxRecDepth 100000 in
theorem own_mono {w : World} {B B' : Nat} {v : Value} {n : Nat} {xs : List Value} (h : w.ownsRow B 5 1 v n xs) (hB : B' ≤ B) : w.ownsRow B' 5 1 v n xs :=
  ⟨h.1, h.2.imp id fun ⟨g, cap, cur, h1, h2, h3⟩ => ⟨g, cap, cur, h1, Nat.le_trans hB h2, h3⟩⟩
/-- A list of a call's own. -/
structure NL (w : World) (ao : Option Addr) (cap : Nat) (l : List Nat) (w' : World) : Prop where
  own : w'.ownsRow w.heap.size 5 1 (.slice ao l.length cap) l.length (bl l)
  bel : Below w.heap.size w w'
  lt : ∀ b ∈ l, b < 256
set_option maxRecDepth 100000 in
theorem NL.byts {w w' : World} {ao : Option Addr} {cap : Nat} {l : List Nat} (h : NL w ao cap l w') : Byts w' ao l := Byts.of_row h.lt h.own
set_option maxRecDepth 100000 in
theorem NL.nil {w w' : World} {ao : Option Addr} {cap : Nat} {l : List Nat} (h : NL w ao cap l w') : ao = none → l.length = 0 ∧ cap = 0 := own_nil h.own rfl
def PutP (w : World) (x : Int) (l : List Nat) (e : Ending) (w' : World) : Prop := ∃ ao cap, e = .returned (.tuple #[.slice ao l.length cap, .int .i64 x]) ∧ NL w ao cap l w'
set_option maxRecDepth 100000 in
theorem putp_none {w w' : World} (x : Int) (h : Below w.heap.size w w') : PutP w x [] (.returned (.tuple #[.slice none 0 0, .int .i64 x])) w' := ⟨none, 0, rfl, World.ownsRow_nil _ _ _ _, h, fun _ h => by cases h⟩
set_option maxRecDepth 100000 in
theorem byts_two (w : World) : Byts (w.alloc (.cells #[.int .u8 222, .int .u8 92] 5 (2, 3))) (some ⟨w.heap.size, 0, none⟩) [222, 92] :=
  ⟨fun b hb => by have : b = 222 ∨ b = 92 := by simpa using hb
                  omega,
   fun j x hj => by
    refine ⟨w.heap.size, 0, rfl, ?_⟩
    rcases j with _ | _ | j
    · simp at hj; subst hj; unfold World.cell?; rw [heap_alloc_new]; rfl
    · simp at hj; subst hj; unfold World.cell?; rw [heap_alloc_new]; rfl
    · simp at hj⟩
set_option maxRecDepth 100000 in
theorem uerr_one (v : Nat) (h : v < 256) : uErr v 1 = 0 := by
  unfold uErr
  rw [if_neg (by omega), if_neg]
  have : (2 : Nat) ^ (8 * (1 : Int).toNat) = 256 := by decide
  omega
set_option maxRecDepth 100000 in
theorem put_z (l m : List Nat) : put (0, l) 0 m = (0, l ++ m) := put_zero 0 l m rfl
/-- The maker, behind so many fields. -/
def St (w1 : World) (l : List Nat) (wr : World) : Prop := MkN w1 (0, l) wr
set_option maxRecDepth 100000 in
theorem St.u {w1 wr : World} {l : List Nat} (h : St w1 l wr) (v n : Nat) (hv : v < 18446744073709551616) (he : uErr v n = 0) (hl : l.length ≤ 1000) :
    Calls Tryd.prog 29 #[.pointer (some ⟨w1.heap.size, 0, none⟩), .int .u64 (v : Int), .int .i64 (n : Int)] wr fun e w' => e = .returned (.tuple #[]) ∧ St w1 (l ++ le v n) w' := by
  obtain ⟨ao, cap, hm, hb⟩ := h
  refine (u_any hm hb.size v n hv (by show l.length ≤ _; omega)).mono ?_
  rintro e w' ⟨rfl, hA⟩
  refine ⟨rfl, ?_⟩
  rw [he, put_z] at hA
  exact MkN.next (s := (0, l)) hm hb hA
set_option maxRecDepth 100000 in
theorem St.raw {w1 wr : World} {l : List Nat} (h : St w1 l wr) {a : Option Addr} {m : List Nat} {c n : Nat} (hn : m.length = n) (hb : Byts wr a m) (ha : a = none → m.length = 0 ∧ c = 0) (hl : l.length + m.length ≤ 1000) :
    Calls Tryd.prog 28 #[.pointer (some ⟨w1.heap.size, 0, none⟩), .slice a n c] wr fun e w' => e = .returned (.tuple #[]) ∧ St w1 (l ++ m) w' := by
  subst hn
  obtain ⟨ao, cap, hm, hB⟩ := h
  refine (raw_any hm hb ha hB.size (by show l.length + m.length ≤ _; omega)).mono ?_
  rintro e w' ⟨rfl, hA⟩
  refine ⟨rfl, ?_⟩
  rw [put_z] at hA
  exact MkN.next (s := (0, l)) hm hB hA
set_option maxRecDepth 100000 in
theorem St.bytes {w1 wr : World} {l : List Nat} (h : St w1 l wr) (hl : l.length ≤ 1000) :
    Calls Tryd.prog 30 #[.pointer (some ⟨w1.heap.size, 0, none⟩)] wr fun e w' => ∃ ao cap, e = .returned (.tuple #[.slice ao l.length cap, .int .i64 0]) ∧ NL w1 ao cap l w' := by
  obtain ⟨ao, cap, hm, hB⟩ := h
  have hlt := hm.lt
  refine (mbytes_ok hm (by show l.length ≤ _; omega)).mono ?_
  rintro e w' ⟨ao1, cap1, rfl, ho, hb⟩
  exact ⟨ao1, cap1, rfl, own_mono ho hB.size, hB.trans (hb.mono hB.size), hlt⟩
set_option maxRecDepth 100000 in
theorem St.below {w1 wr w' : World} {l : List Nat} (h : St w1 l wr) (hb : Below wr.heap.size wr w') : St w1 l w' := by
  obtain ⟨ao, cap, hm, hB⟩ := h
  exact ⟨ao, cap, hm.below hb, hB.trans (hb.mono hB.size)⟩
end Go.Proofs.YthjjonbkfkpkmaaDoor.Head
namespace Go.Proofs.YthjjonbkfkpkmaaDoor.Head
open Go.RowKit Gen Fld
open Crc hiding hid

set_option maxRecDepth 100000 in
theorem u64_small (n : Nat) (h : n < 4294967296) : IntKind.u64.wrap (n : Int) = n := by rw [u64_wrap]; unfold u64; omega
set_option maxRecDepth 100000 in
theorem conv_self (w : World) : (convert 28 28 (.slice (some ⟨w.heap.size, 0, none⟩) 2 2)).run Tryd.prog (w.alloc (.cells #[.int .u8 222, .int .u8 92] 5)) = .ok (.slice (some ⟨w.heap.size, 0, none⟩) 2 2) (w.alloc (.cells #[.int .u8 222, .int .u8 92] 5 (2, 3))) :=
  Lib.run_convert_bytes_const (P := Tryd.prog) w 28 5 #[.int .u8 222, .int .u8 92] 2 2 Tryd.underlying28 Tryd.underlying5
end Go.Proofs.YthjjonbkfkpkmaaDoor.Head
namespace Go.Proofs.YthjjonbkfkpkmaaDoor.Head
open Go.RowKit Gen Fld
open Crc hiding hid

/-- A head with another size. -/
def szd (h : Hh) (n : Nat) : Hh := ⟨h.k, h.ix, h.ln, h.st, h.bd, h.la, h.lk, (n : Int)⟩
/-- A block without its sum. -/
def blo (h : Hh) (p : List Nat) : List Nat := hby (szd h p.length) ++ p
def SealP (w : World) (s : Nat) (x : Int) (l : List Nat) (e : Ending) (w' : World) : Prop :=
  ∃ ao cap, e = .returned (.tuple #[.slice ao l.length cap, .int .u32 (s : Int), .int .i64 x]) ∧ NL w ao cap l w'
set_option maxRecDepth 100000 in
theorem sealp_none {w w' : World} (x : Int) (h : Below w.heap.size w w') : SealP w 0 x [] (.returned (.tuple #[.slice none 0 0, .int .u32 0, .int .i64 x])) w' := ⟨none, 0, rfl, World.ownsRow_nil _ _ _ _, h, fun _ h => by cases h⟩
end Go.Proofs.YthjjonbkfkpkmaaDoor.Head
namespace Go.Proofs.YthjjonbkfkpkmaaDoor.Head
open Go.RowKit Gen Fld
open Crc hiding hid

/-- Bytes begin as a block, as far as there are some. -/
def Bgn (l : List Nat) : Prop := l.take 2 = [222, 92].take l.length
instance (l : List Nat) : Decidable (Bgn l) := by unfold Bgn; exact inferInstance
set_option maxRecDepth 100000 in
theorem u8_beq {l m : List Nat} (hl : ∀ b ∈ l, b < 256) (hm : ∀ b ∈ m, b < 256) : (l.map UInt8.ofNat == m.map UInt8.ofNat) = decide (l = m) := by
  rw [← toList_tos, ← toList_tos]; exact tos_beq hl hm
set_option maxRecDepth 100000 in
theorem begins_zero {w : World} {a : Option Addr} {cap : Nat} : Calls Tryd.prog 88 #[.slice a 0 cap] w fun e w' => e = .returned (.bool true) ∧ w = w' := by
  have hcv := (Byts.nil w a).conv cap
  rw [show ([] : List Nat).length = 0 from rfl] at hcv
  have hl : (tos []).toList = [] := toList_tos []
  have hs : (tos []).size = 0 := tos_size []
  go_enter Tryd.func88, Tryd.ntmps88
  go_wp2_with fail
  go_ret
  exact ⟨rfl, rfl⟩
set_option maxRecDepth 100000 in
theorem begins_one {w : World} {a : Option Addr} {cap x : Nat} (hb : Byts w a [x]) (hc : 1 ≤ cap) : Calls Tryd.prog 88 #[.slice a 1 cap] w fun e w' => e = .returned (.bool (decide ([x] = [222]))) ∧ w = w' := by
  have hcv := hb.conv cap
  rw [show [x].length = 1 from rfl] at hcv
  have hs : (tos [x]).size = 1 := tos_size _
  have hl : (tos [x]).toList = [x].map UInt8.ofNat := toList_tos _
  have hm : (({ data := #[222, 92] } : ByteArray).extract 0 1).toList = [222].map UInt8.ofNat := by rw [ByteArray.toList_eq]; decide
  have HQ := hid (u8_beq (l := [x]) (m := [222]) hb.lt (by decide))
  have HM := hid hm
  clear hb hm
  generalize tos [x] = t at *
  generalize [x] = lx at *
  go_enter Tryd.func88, Tryd.ntmps88
  go_wp2_with fail
  go_ret
  refine ⟨?_, rfl⟩
  show Ending.returned (.bool (lx.map UInt8.ofNat == (({ data := #[222, 92] } : ByteArray).extract 0 1).toList)) = _
  rw [HM.out, HQ.out]
set_option maxRecDepth 100000 in
theorem begins_two {w : World} {a : Option Addr} {cap n : Nat} {l : List Nat} (hb : Byts w a l) (hl2 : l.length = n) (hn : 2 ≤ n) (hc : n ≤ cap) (hm : n ≤ 1099511627776) : Calls Tryd.prog 88 #[.slice a n cap] w fun e w' => e = .returned (.bool (decide (l.take 2 = [222, 92]))) ∧ w = w' := by
  have hlt : (l.take 2).length = 2 := by rw [List.length_take]; omega
  have hcv := (hb.take 2).conv cap
  rw [hlt] at hcv
  have hs : (tos (l.take 2)).size = 2 := by rw [tos_size, hlt]
  have hl : (tos (l.take 2)).toList = (l.take 2).map UInt8.ofNat := toList_tos _
  have hm : (({ data := #[222, 92] } : ByteArray).extract 0 2).toList = [222, 92].map UInt8.ofNat := by rw [ByteArray.toList_eq]; decide
  have HQ := hid (u8_beq (l := l.take 2) (m := [222, 92]) (hb.take 2).lt (by decide))
  have HM := hid hm
  have hc2 : 2 ≤ cap := by omega
  clear hb hm hl2 hlt
  generalize tos (l.take 2) = t at *
  generalize l.take 2 = lx at *
  by_cases h2 : n = 2
  · subst h2
    clear hn hc
    go_enter Tryd.func88, Tryd.ntmps88
    go_wp2_with fail
    go_ret
    refine ⟨?_, rfl⟩
    show Ending.returned (.bool (lx.map UInt8.ofNat == (({ data := #[222, 92] } : ByteArray).extract 0 2).toList)) = _
    rw [HM.out, HQ.out]
  · have hn1 : ¬ (n : Int) ≤ 2 := by omega
    have hn2 : ¬ (n : Int) < 2 := by omega
    clear h2 hn
    go_enter Tryd.func88, Tryd.ntmps88
    go_wp2_with fail
    go_ret
    refine ⟨?_, rfl⟩
    show Ending.returned (.bool (lx.map UInt8.ofNat == (({ data := #[222, 92] } : ByteArray).extract 0 2).toList)) = _
    rw [HM.out, HQ.out]
set_option maxRecDepth 100000 in
theorem begins_any {w : World} {a : Option Addr} {cap : Nat} {l : List Nat} (hb : Byts w a l) (hc : l.length ≤ cap) (hm : l.length ≤ 1099511627776) : Calls Tryd.prog 88 #[.slice a l.length cap] w fun e w' => e = .returned (.bool (decide (Bgn l))) ∧ w = w' := by
  match l, hb, hc, hm with
  | [], _, _, _ => exact begins_zero
  | [x], hb, hc, _ =>
    rw [show decide (Bgn [x]) = decide ([x] = [222]) from decide_eq_decide.2 (by unfold Bgn; simp)]
    exact begins_one hb hc
  | x :: y :: t, hb, hc, hm =>
    rw [show decide (Bgn (x :: y :: t)) = decide ((x :: y :: t).take 2 = [222, 92]) from decide_eq_decide.2 (by unfold Bgn; simp)]
    exact begins_two hb rfl (by simp) hc hm
end Go.Proofs.YthjjonbkfkpkmaaDoor.Head
