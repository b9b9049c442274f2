/- A head's bytes; the fields of a right head; a sum behind bytes, of the program. Conditions: those that each lemma names. -/
import Derived.Test.YtgcnbeigchppfaaIb
namespace Go.Proofs.Ytgcnbeigchppfaa.Head
open Go.RowKit Gen Fld Crc

/-- The sum of bytes. -/
def cs (l : List Nat) : Nat := sm (fun i => l.getD i 0) l.length 0
set_option maxRecDepth 100000 in
theorem getD_lt {l : List Nat} (h : ∀ b ∈ l, b < 256) (i : Nat) : l.getD i 0 < 256 := by
  by_cases hi : i < l.length
  · rw [List.getD_eq_getElem?_getD, List.getElem?_eq_getElem hi]; exact h _ (List.getElem_mem hi)
  · rw [List.getD_eq_getElem?_getD, List.getElem?_eq_none (by omega)]; decide
set_option maxRecDepth 100000 in
theorem cs_lt {l : List Nat} (h : ∀ b ∈ l, b < 256) : cs l < 4294967296 := sm_lt (getD_lt h) _ _ (by decide)
set_option maxRecDepth 100000 in
theorem byts_f {w : World} {a : Option Addr} {l : List Nat} (h : Byts w a l) : Bytf w a l.length (fun i => l.getD i 0) :=
  ⟨getD_lt h.lt, fun j hj => by
    obtain ⟨b, off, e, hc⟩ := h.at_ j (l[j]) (List.getElem?_eq_getElem hj)
    refine ⟨b, off, e, ?_⟩
    rw [hc, List.getD_eq_getElem?_getD, List.getElem?_eq_getElem hj]; rfl⟩
set_option maxRecDepth 100000 in
theorem tsum_any {w : World} {g : Nat} (h : Tab w g) {a : Option Addr} {l : List Nat} {cap : Nat} (hb : Byts w a l) (hl : l.length ≤ 1099511627776) :
    Calls Try.prog 73 #[.pointer (some ⟨g, 0, none⟩), .slice a l.length cap] w fun e w' => e = .returned (.int .u32 (cs l : Int)) ∧ w = w' := sum_any h (byts_f hb) hl
set_option maxRecDepth 100000 in
theorem rcsum_any {w : World} {a : Option Addr} {l : List Nat} {cap : Nat} (hb : Byts w a l) (hl : l.length ≤ 1099511627776) :
    Calls Try.prog 38 #[.slice a l.length cap] w fun e w' => e = .returned (.int .u32 (cs l : Int)) ∧ w = w' := rsum_any (byts_f hb) hl

/-- The six fields of a right head. -/
def fds (h : Hh) : List Nat := [h.ix.toNat, h.ln.toNat, h.st.toNat, h.bd.toNat, h.lk, h.sz.toNat]
def fdl (h : Hh) : Array Value := #[.int .u64 (h.ix.toNat : Int), .int .u64 (h.ln.toNat : Int), .int .u64 (h.st.toNat : Int), .int .u64 (h.bd.toNat : Int), .int .u64 (h.lk : Int), .int .u64 (h.sz.toNat : Int)]
set_option maxRecDepth 100000 in
theorem alloc2_at (w : World) (o1 o2 : Obj) : ((w.alloc o1).alloc o2).heap[w.heap.size + 1]? = some o2 := by
  rw [← Deep.nblk_alloc w o1]
  exact heap_alloc_new _ _
set_option maxRecDepth 100000 in
theorem Try.size58 : (Try.prog.info? 144).map (·.size) = some 6 := by kernel_rfl
end Go.Proofs.Ytgcnbeigchppfaa.Head
