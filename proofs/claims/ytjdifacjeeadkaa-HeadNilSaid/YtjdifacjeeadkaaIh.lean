/- Seal of the program. Conditions: a table in memory, a payload in memory. -/
import Derived.Test.YtjdifacjeeadkaaIg
namespace Go.Proofs.Ytjdifacjeeadkaa.Head
open Go.RowKit Gen Fld
open Crc hiding hid

/-- A head with another size. -/
def szd (h : Hh) (n : Nat) : Hh := ⟨h.k, h.ix, h.ln, h.st, h.bd, h.la, h.lk, (n : Int)⟩
/-- A block without its sum. -/
def blo (h : Hh) (p : List Nat) : List Nat := hby (szd h p.length) ++ p
def SealP (w : World) (s : Nat) (x : Int) (l : List Nat) (e : Ending) (w' : World) : Prop :=
  ∃ ao cap, e = .returned (.tuple #[.slice ao l.length cap, .int .u32 (s : Int), .int .i64 x]) ∧ NL w ao cap l w'
theorem sealp_none {w w' : World} (x : Int) (h : Below w.heap.size w w') : SealP w 0 x [] (.returned (.tuple #[.slice none 0 0, .int .u32 0, .int .i64 x])) w' := ⟨none, 0, rfl, World.ownsRow_nil _ _ _ _, h, fun _ h => by cases h⟩
theorem seal_nil (h : Hh) (v : Value) (w : World) : Calls Try.prog 20 #[.pointer none, hv h, v] w (SealP w 0 2 []) := by
  have hf : ∀ w', Below w.heap.size w w' → SealP w 0 2 [] (.returned (.tuple #[.slice none 0 0, .int .u32 0, .int .i64 2])) w' := fun _ h => sealp_none 2 h
  have HF := hid hf
  clear hf
  obtain ⟨k, ix, ln, st, bd, la, lk, sz⟩ := h
  change Calls Try.prog 20 #[.pointer none, .agg #[.int .i64 k, .int .i64 ix, .int .i64 ln, .int .i64 st, .int .i64 bd, .bool la, .int .u32 (lk : Int), .int .i64 sz], v] w _
  go_enter Try.func20, Try.ntmps20
  go_wp2_with fail
  go_ret3
  exact HF.out _ (below_new _ _)
theorem seal_long {w : World} {g : Nat} (h : Hh) (a : Option Addr) (n cap : Nat) (hn : 16777216 < n) : Calls Try.prog 20 #[.pointer (some ⟨g, 0, none⟩), hv h, .slice a n cap] w (SealP w 0 34 []) := by
  have hf : ∀ w', Below w.heap.size w w' → SealP w 0 34 [] (.returned (.tuple #[.slice none 0 0, .int .u32 0, .int .i64 34])) w' := fun _ h => sealp_none 34 h
  have HF := hid hf
  clear hf
  have hn' : (16777216 : Int) < (n : Int) := by omega
  obtain ⟨k, ix, ln, st, bd, la, lk, sz⟩ := h
  change Calls Try.prog 20 #[.pointer (some ⟨g, 0, none⟩), .agg #[.int .i64 k, .int .i64 ix, .int .i64 ln, .int .i64 st, .int .i64 bd, .bool la, .int .u32 (lk : Int), .int .i64 sz], .slice a n cap] w _
  go_enter Try.func20, Try.ntmps20
  go_wp2_with fail
  go_ret3
  exact HF.out _ (below_new _ _)
theorem seal_bad {w : World} {g : Nat} (h : Hh) (a : Option Addr) (n cap : Nat) (hn : n ≤ 16777216) (hr : ¬ Rt (szd h n)) : Calls Try.prog 20 #[.pointer (some ⟨g, 0, none⟩), hv h, .slice a n cap] w (SealP w 0 32 []) := by
  have hf : ∀ w', Below w.heap.size w w' → SealP w 0 32 [] (.returned (.tuple #[.slice none 0 0, .int .u32 0, .int .i64 32])) w' := fun _ h => sealp_none 32 h
  have HF := hid hf
  have HP := hid fun w => put_bad (w := w) (g := g) (szd h n) hr
  clear hf hr
  have hn' : ¬ (16777216 : Int) < (n : Int) := by omega
  obtain ⟨k, ix, ln, st, bd, la, lk, sz⟩ := h
  change Calls Try.prog 20 #[.pointer (some ⟨g, 0, none⟩), .agg #[.int .i64 k, .int .i64 ix, .int .i64 ln, .int .i64 st, .int .i64 bd, .bool la, .int .u32 (lk : Int), .int .i64 sz], .slice a n cap] w _
  go_enter Try.func20, Try.ntmps20
  go_wp2_with fail
  refine (HP.out _).mono ?_
  rintro e w1 ⟨ao, c, rfl, hl⟩
  have hb := (below_new w _).trans (hl.bel.mono (below_new w _).size)
  clear hl
  go_wp2_with fail
  go_ret3
  exact HF.out _ hb
set_option maxHeartbeats 1000000 in
theorem seal_ok {w : World} {g : Nat} (ht : Tab w g) (h : Hh) {a : Option Addr} {p : List Nat} {cap : Nat} (hp : Byts w a p) (hnil : a = none → p.length = 0 ∧ cap = 0) (hn : p.length ≤ 16777216) (hr : Rt (szd h p.length)) (hk : h.lk < 4294967296) :
    Calls Try.prog 20 #[.pointer (some ⟨g, 0, none⟩), hv h, .slice a p.length cap] w (SealP w (cs (blo h p)) 0 (smd (blo h p))) := by
  have hlen : (hby (szd h p.length)).length = 32 := hby_len _
  have hblt : ∀ b ∈ blo h p, b < 256 := by
    intro b hb
    rcases List.mem_append.1 hb with hb | hb
    · exact hby_lt _ b hb
    · exact hp.lt b hb
  have hbl : (blo h p).length = 32 + p.length := by unfold blo; rw [List.length_append, hby_len]
  have hbv : bl (blo h p) = bl (hby (szd h p.length)) ++ bl p := bl_app _ _
  have HS := hid (fun (w' : World) (ht' : Tab w' g) (B : Nat) (ao : Option Addr) (c : Nat) (ho : w'.ownsRow B 5 1 (.slice ao (blo h p).length c) (blo h p).length (bl (blo h p))) (hB : B ≤ w'.heap.size) => summed_any ht' ho hblt hB (by rw [hbl]; omega))
  have HSD := hid (smd_lt hblt)
  have HPT := hid fun (w' : World) (ht' : Tab w' g) => put_ok (w := w') ht' (szd h p.length) hr hk
  have HT := hid ht
  have HB := hid hp
  have HN := hid hnil
  have HBL := hid hbl
  have HBV := hid hbv
  have HLEN := hid hlen
  obtain ⟨i0, hi, hz0, hz1, hz2⟩ := info_parts Try.info5
  have hq : ∀ e w', SealP w (cs (blo h p)) 0 (smd (blo h p)) e w' = ∃ ao cap, e = .returned (.tuple #[.slice ao (smd (blo h p)).length cap, .int .u32 (cs (blo h p) : Int), .int .i64 0]) ∧ NL w ao cap (smd (blo h p)) w' := fun _ _ => rfl
  have HQ := hid hq
  clear hq hbl hbv hlen hblt ht hp hnil hr
  have hn' : ¬ (16777216 : Int) < (p.length : Int) := by omega
  generalize blo h p = m at *
  generalize hby (szd h p.length) = q at *
  obtain ⟨k, ix, ln, st, bd, la, lk, sz⟩ := h
  change Calls Try.prog 20 #[.pointer (some ⟨g, 0, none⟩), .agg #[.int .i64 k, .int .i64 ix, .int .i64 ln, .int .i64 st, .int .i64 bd, .bool la, .int .u32 (lk : Int), .int .i64 sz], .slice a p.length cap] w _
  go_enter Try.func20, Try.ntmps20
  go_wp2_with fail
  refine (HPT.out _ (HT.out.keep ((below_new w _).block g HT.out.lt))).mono ?_
  rintro e w1 ⟨ao, c, rfl, hl⟩
  have hb1 := (below_new w _).trans (hl.bel.mono (below_new w _).size)
  have ho1 := own_mono hl.own (below_new w _).size
  rw [HLEN.out] at ho1
  rw [HLEN.out]
  have HO1 := hid ho1
  have HB1 := hid hb1
  have HBY1 := hid (HB.out.keep hb1)
  have hs1 := hb1.size
  clear hl hb1 ho1
  go_wp2_with (at_builtin; (refine (wpList_append_list w1 (by rfl) _ _ _ (by rfl) w.heap.size 5 i0 _ 1 Try.underlying25 hi hz0 hz1 hz2 rfl ao 32 c (bl q) (by rfl) HO1.out a p.length cap (bl p) (by rfl) (bl_len _) HN.out HBY1.out.cells (bl_one _) (by unfold maxLen; omega) (by omega) hs1 ?_)))
  intro ao2 cap2 w2 ho2 hg2 hat2
  rw [← HBV.out] at ho2
  have hb2 : Below w.heap.size w w2 := HB1.out.trans ⟨hg2.os, hg2.tape, hg2.output, hg2.size, fun k hk => hg2.block k (Nat.lt_of_lt_of_le hk hs1) (fun e => by have := HO1.out.lt k (by rw [ownBlock_slice]; exact e.symm); omega)⟩
  have HB2 := hid hb2
  have HO2 := hid ho2
  have HT2 := hid (HT.out.keep (hb2.block g HT.out.lt))
  have HS2 := hid (HS.out w2 HT2.out w.heap.size ao2 cap2 (by rw [HBL.out]; exact HO2.out) hb2.size)
  rw [HBL.out] at HS2
  clear hg2 hat2 hb2 ho2
  go_wp2_with fail
  refine HS2.out.mono ?_
  rintro e w3 ⟨ao3, cap3, rfl, ho3, hfr, hat⟩
  have hb3 : Below w.heap.size w w3 := HB2.out.trans ⟨hfr.os, hfr.tape, hfr.output, hfr.size, fun k hk => hfr.block k (Nat.lt_of_lt_of_le hk HB2.out.size) (fun e => by have := HO2.out.lt k (by rw [ownBlock_slice]; exact e); omega)⟩
  have HF := hid (And.intro ho3 hb3)
  clear ho3 hfr hat hb3
  go_wp2_with fail
  go_ret3
  rw [HQ.out]
  exact ⟨ao3, cap3, rfl, HF.out.1, HF.out.2, HSD.out⟩
end Go.Proofs.Ytjdifacjeeadkaa.Head
