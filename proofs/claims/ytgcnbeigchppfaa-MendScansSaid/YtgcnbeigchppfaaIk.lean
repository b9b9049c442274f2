/- The sum at the end of bytes, of the program. Conditions: a table, bytes in memory. -/
import Derived.Test.YtgcnbeigchppfaaIi
namespace Go.Proofs.Ytgcnbeigchppfaa.Head
open Go.RowKit Gen Fld
open Crc hiding hid

set_option maxRecDepth 100000 in
theorem take4_any {w : World} {a : Option Addr} {l : List Nat} {n c : Nat} (hn : l.length = n) (hb : Byts w a l) (hz : a = none → l.length = 0 ∧ c = 0) (hlen : n ≤ 549755813888) :
    Calls Try.prog 74 #[.slice a n c] w fun e w' => ∃ q, e = .returned (.pointer (some ⟨q, 0, none⟩)) ∧ w.heap.size ≤ q ∧ TkS w' q ⟨0, l, 0⟩ ∧ Below w.heap.size w w' := by
  subst hn; exact take_any hb hz hlen
set_option maxRecDepth 100000 in
theorem tku_ok {w : World} {q : Nat} {l : List Nat} {p : Nat} (h : TkS w q ⟨0, l, p⟩) (n : Nat) (h1 : 1 ≤ n) (h8 : n ≤ 8) (hl : n ≤ l.length) :
    Calls Try.prog 75 #[.pointer (some ⟨q, 0, none⟩), .int .i64 (n : Int)] w (Took w q ⟨0, l.drop n, p + n⟩ (.int .u64 (lev (l.take n) : Int))) := by
  have e := nx_ok (s := ⟨0, l, p⟩) (k := n) (f := true) rfl (fun _ => ⟨h1, h8⟩) hl
  have := tku_any h (n : Int)
  rw [e] at this
  exact this
set_option maxRecDepth 100000 in
theorem took_below {w w' W : World} {q : Nat} {s : TS} {v : Value} {e : Ending} (h : Took w q s v e w') (hw : Below W.heap.size W w) (hq : W.heap.size ≤ q) : Below W.heap.size W w' :=
  hw.trans ⟨h.2.2.os, h.2.2.tape, h.2.2.output, h.2.2.size, fun k hk => h.2.2.block k (Nat.lt_of_lt_of_le hk hw.size) (by omega)⟩
set_option maxRecDepth 100000 in
theorem lev4 {l : List Nat} (h : ∀ b ∈ l, b < 256) (hl : l.length = 4) : lev l < 4294967296 := by
  have := lev_lt l h
  rw [hl] at this
  exact this
set_option maxRecDepth 100000 in
theorem byts_at {w : World} {a : Option Addr} {l : List Nat} (h : Byts w a l) (hl : 0 < l.length) : ∃ b off, a = some ⟨b, off, none⟩ := by
  obtain ⟨b, off, e, _⟩ := h.at_ 0 l[0] (List.getElem?_eq_getElem hl)
  exact ⟨b, off, e⟩
set_option maxRecDepth 100000 in
theorem sumof_any {w : World} {g : Nat} (ht : Tab w g) {b off cap m : Nat} {l : List Nat} (hb : Byts w (some ⟨b, off, none⟩) l) (hm : l.length = m + 4) (hc : m + 4 ≤ cap) (hlen : m + 4 ≤ 549755813888) :
    Calls Try.prog 61 #[.pointer (some ⟨g, 0, none⟩), .slice (some ⟨b, off, none⟩) (m + 4) cap] w fun e w' => e = .returned (.tuple #[.int .u32 (cs (l.take m) : Int), .bool (decide (lev (l.drop m) = cs (l.take m)))]) ∧ Below w.heap.size w w' := by
  have hlt : (l.take m).length = m := by rw [List.length_take]; omega
  have hld : (l.drop m).length = 4 := by rw [List.length_drop]; omega
  have HS := hid (fun c => tsum_any (cap := c) ht (hb.take m) (by omega))
  rw [hlt] at HS
  have HTK := hid (fun c => take4_any (c := c) hld (hb.drop m) (fun e => by cases e) (by decide))
  have h4 := lev4 (l := l.drop m) (fun x hx => hb.lt x (List.mem_of_mem_drop hx)) hld
  have h5 := cs_lt (l := l.take m) (fun x hx => hb.lt x (List.mem_of_mem_take hx))
  have htake : (l.drop m).take 4 = l.drop m := List.take_of_length_le (by omega)
  have HTA := hid htake
  have HLD := hid hld
  clear hb hlt hld htake hm ht
  have u5 : IntKind.u64.wrap (cs (l.take m) : Int) = cs (l.take m) := u64_small _ h5
  have hdec : decide (lev (l.drop m) = cs (l.take m)) = (((lev (l.drop m) : Nat) : Int) == ((cs (l.take m) : Nat) : Int)) := by
    rw [Bool.eq_iff_iff]; simp
    omega
  have HD := hid hdec
  clear hdec
  generalize cs (l.take m) = v at *
  generalize l.drop m = r at *
  have hm1 : (m : Int) + 4 - 4 = m := by omega
  have hm2 : ((m + 4 : Nat) : Int) - 4 = m := by omega
  go_enter Try.func61, Try.ntmps61
  go_wp2_with fail
  refine (HS.out _).mono ?_
  rintro e w' ⟨rfl, rfl⟩
  have hcm : ¬ cap = m := by omega
  have hcm2 : m ≤ cap := by omega
  go_wp2_with fail
  refine (HTK.out _).mono ?_
  rintro e w1 ⟨q, rfl, hq, hs, hb1⟩
  have HU := hid (tku_ok hs 4 (by decide) (by decide) (by rw [HLD.out]; decide))
  rw [HTA.out] at HU
  have HB1 := hid hb1
  clear hs hb1
  go_wp2_with fail
  refine HU.out.mono ?_
  rintro e w2 hk
  have hb2 := took_below hk HB1.out hq
  obtain ⟨rfl, -, -⟩ := hk
  have HB2 := hid hb2
  clear hb2
  go_wp2_with fail
  go_ret2
  rw [HD.out]
  exact ⟨rfl, HB2.out⟩
end Go.Proofs.Ytgcnbeigchppfaa.Head
