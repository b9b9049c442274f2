/- Bytes of a call's own, and their sum behind them, of the program. Conditions: a table in memory, fewer than 2^39 bytes. -/
import Derived.Test.YtjdifacjeeadkaaId
namespace Go.Proofs.Ytjdifacjeeadkaa.Head
open Go.RowKit Gen Fld
open Crc hiding hid

/-- Bytes and their sum. -/
def smd (l : List Nat) : List Nat := l ++ le (cs l) 4
theorem smd_len (l : List Nat) : (smd l).length = l.length + 4 := by unfold smd; rw [List.length_append, le_len]
theorem smd_lt {l : List Nat} (h : ∀ b ∈ l, b < 256) : ∀ b ∈ smd l, b < 256 := by
  intro b hb
  rcases List.mem_append.1 hb with hb | hb
  · exact h b hb
  · exact le_lt _ _ b hb
theorem uerr_zero (v : Nat) (h : v < 4294967296) : uErr v 4 = 0 := by
  unfold uErr
  rw [if_neg (by omega), if_neg]
  have : (2 : Nat) ^ (8 * (4 : Int).toNat) = 4294967296 := by decide
  omega
def SmdP (w : World) (B : Nat) (ao : Option Addr) (l : List Nat) (e : Ending) (w' : World) : Prop :=
  ∃ ao' cap', e = .returned (.tuple #[.slice ao' (smd l).length cap', .int .u32 (cs l : Int)]) ∧ w'.ownsRow B 5 1 (.slice ao' (smd l).length cap') (smd l).length (bl (smd l)) ∧
    Fr (fun k => blk ao = some k) w w' ∧ (blk ao' = blk ao ∨ ∀ g, blk ao' = some g → w.heap.size ≤ g)
theorem own_byts {w : World} {B : Nat} {ao : Option Addr} {n cap : Nat} {l : List Nat} (h : w.ownsRow B 5 1 (.slice ao n cap) n (bl l)) (hl : ∀ b ∈ l, b < 256) : Byts w ao l := Byts.of_row hl h
theorem own_nil {w : World} {B : Nat} {ao : Option Addr} {n cap : Nat} {l : List Nat} (h : w.ownsRow B 5 1 (.slice ao n cap) n (bl l)) (hn : l.length = n) : ao = none → l.length = 0 ∧ cap = 0 := fun e => by
  rcases ownsRow_at h with ⟨_, h1, h2, _⟩ | ⟨g, h1⟩
  · exact ⟨hn.trans h1, h2⟩
  · rw [e] at h1; cases h1
set_option maxHeartbeats 800000 in
theorem summed_any {w : World} {g : Nat} (h : Tab w g) {B : Nat} {ao : Option Addr} {cap : Nat} {l : List Nat} (ho : w.ownsRow B 5 1 (.slice ao l.length cap) l.length (bl l)) (hl : ∀ b ∈ l, b < 256) (hB : B ≤ w.heap.size) (hlen : l.length ≤ 549755813888) :
    Calls Try.prog 29 #[.pointer (some ⟨g, 0, none⟩), .slice ao l.length cap] w (SmdP w B ao l) := by
  have HT := hid (tsum_any (cap := cap) h (own_byts ho hl) (by omega))
  have hlt := cs_lt hl
  have HU := hid (uerr_zero _ hlt)
  have HO := hid ho
  have HL := hid hl
  obtain ⟨i0, hi, hz0, hz1, hz2⟩ := info_parts Try.info5
  have hp : ∀ e w', (∃ ao' cap', e = .returned (.tuple #[.slice ao' (l.length + 4) cap', .int .u32 (cs l : Int)]) ∧ w'.ownsRow B 5 1 (.slice ao' (l.length + 4) cap') (l.length + 4) (bl l ++ bl (le (cs l) 4)) ∧
      Fr (fun k => blk ao = some k) w w' ∧ (blk ao' = blk ao ∨ ∀ g, blk ao' = some g → w.heap.size ≤ g)) → SmdP w B ao l e w' := by
    rintro e w' ⟨ao', cap', h1, h2, h3, h4⟩
    refine ⟨ao', cap', ?_, ?_, h3, h4⟩
    · rw [smd_len]; exact h1
    · rw [smd_len]; unfold smd; rw [bl_app]; exact h2
  have HP := hid hp
  clear hp hl ho h
  suffices hsuf : Calls Try.prog 29 #[.pointer (some ⟨g, 0, none⟩), .slice ao l.length cap] w fun e w' => ∃ ao' cap', e = .returned (.tuple #[.slice ao' (l.length + 4) cap', .int .u32 (cs l : Int)]) ∧ w'.ownsRow B 5 1 (.slice ao' (l.length + 4) cap') (l.length + 4) (bl l ++ bl (le (cs l) 4)) ∧
      Fr (fun k => blk ao = some k) w w' ∧ (blk ao' = blk ao ∨ ∀ g, blk ao' = some g → w.heap.size ≤ g) from hsuf.mono HP.out
  clear HP
  generalize cs l = v at *
  have u0 : IntKind.u64.wrap (v : Int) = v := by rw [u64_wrap]; unfold u64; omega
  have hw : (w.alloc (.cells #[.int .i64 0, .slice none 0 0] 52)).heap.size = w.heap.size + 1 := Deep.nblk_alloc _ _
  have HM := hid (new_maker w)
  have HBN := hid (below_new w (.cells #[.int .i64 0, .slice none 0 0] 52))
  go_enter Try.func29, Try.ntmps29
  go_wp2_with fail
  refine HT.out.mono ?_
  rintro e w' ⟨rfl, rfl⟩
  go_wp2_with fail
  refine (u_any HM.out (by omega) v 4 (by omega) (by decide)).mono ?_
  rintro e w1 ⟨rfl, hA⟩
  rw [HU.out] at hA
  obtain ⟨ao1, cap1, hm1, hP1⟩ := hA
  have hm1 : MkA w1 w.heap.size w.heap.size ao1 cap1 0 (le v 4) := hm1
  have hb1 : Below w.heap.size w w1 := HBN.out.trans (hP1.below (Nat.le_refl _) (fun _ hg => by simp [blk] at hg) HBN.out.size)
  have HM1 := hid hm1
  have HB1 := hid hb1
  clear hP1 hm1 hb1 hw
  go_wp2_with fail
  refine (mbytes_ok HM1.out (by rw [le_len]; decide)).mono ?_
  rintro e w2 ⟨ao2, cap2, rfl, ho2, hb2⟩
  have ho2' : w2.ownsRow w1.heap.size 5 1 (.slice ao2 4 cap2) 4 (bl (le v 4)) := by rw [le_len] at ho2; exact ho2
  rw [le_len]
  have hb3 : Below w.heap.size w w2 := HB1.out.trans (hb2.mono HB1.out.size)
  have hs2 : B ≤ w2.heap.size := Nat.le_trans hB hb3.size
  have HO2 := hid ho2'
  have ho3 : w2.ownsRow B 5 1 (.slice ao l.length cap) l.length (bl l) := ownsRow_block HO.out fun g hg => hb3.block g ((HO.out.lt g (by rw [ownBlock_slice]; exact hg)).2)
  have HO3 := hid ho3
  have HBY := hid (own_byts ho2' (le_lt v 4))
  have HN := hid (own_nil ho2' (le_len v 4))
  have HB3 := hid hb3
  rw [le_len] at HN
  clear ho2 ho2' hb2 ho3 hb3
  go_wp2_with (at_builtin; (refine (wpList_append_list w2 (by rfl) _ _ _ (by rfl) B 5 i0 _ 1 Try.underlying25 hi hz0 hz1 hz2 rfl ao l.length cap (bl l) (by rfl) HO3.out ao2 4 cap2 (bl (le v 4)) (by rfl) ((bl_len _).trans (le_len _ _)) HN.out HBY.out.cells (bl_one _) (by unfold maxLen; omega) (by omega) hs2 ?_)))
  intro ao3 cap3 w3 ho3 hg hat
  have hfr : Fr (fun k => blk ao = some k) w w3 := (Fr.mono (X := fun _ => False) ⟨HB3.out.os, HB3.out.tape, HB3.out.output, HB3.out.size, fun k hk _ => HB3.out.block k hk⟩ (fun _ _ x => x.elim)).grown hg (fun k hk _ => hk)
  have hat' : blk ao3 = blk ao ∨ ∀ g, blk ao3 = some g → w.heap.size ≤ g := hat.imp id (fun h g hg => Nat.le_trans HB3.out.size (h g hg))
  have HF := hid (And.intro ho3 (And.intro hfr hat'))
  clear ho3 hg hat hfr hat'
  go_wp2_with fail
  go_ret2
  exact ⟨ao3, cap3, rfl, HF.out.1, HF.out.2.1, HF.out.2.2⟩
end Go.Proofs.Ytjdifacjeeadkaa.Head
