/- A head's bytes; the fields of a right head; a sum behind bytes, of the program. Conditions: those that each lemma names. -/
import Derived.Test.YtjdifacjeeadkaaIb
namespace Go.Proofs.Ytjdifacjeeadkaa.Head
open Go.RowKit Gen Fld Crc

/-- The sum of bytes. -/
def cs (l : List Nat) : Nat := sm (fun i => l.getD i 0) l.length 0
theorem getD_lt {l : List Nat} (h : ∀ b ∈ l, b < 256) (i : Nat) : l.getD i 0 < 256 := by
  by_cases hi : i < l.length
  · rw [List.getD_eq_getElem?_getD, List.getElem?_eq_getElem hi]; exact h _ (List.getElem_mem hi)
  · rw [List.getD_eq_getElem?_getD, List.getElem?_eq_none (by omega)]; decide
theorem cs_lt {l : List Nat} (h : ∀ b ∈ l, b < 256) : cs l < 4294967296 := sm_lt (getD_lt h) _ _ (by decide)
theorem byts_f {w : World} {a : Option Addr} {l : List Nat} (h : Byts w a l) : Bytf w a l.length (fun i => l.getD i 0) :=
  ⟨getD_lt h.lt, fun j hj => by
    obtain ⟨b, off, e, hc⟩ := h.at_ j (l[j]) (List.getElem?_eq_getElem hj)
    refine ⟨b, off, e, ?_⟩
    rw [hc, List.getD_eq_getElem?_getD, List.getElem?_eq_getElem hj]; rfl⟩
theorem tsum_any {w : World} {g : Nat} (h : Tab w g) {a : Option Addr} {l : List Nat} {cap : Nat} (hb : Byts w a l) (hl : l.length ≤ 1099511627776) :
    Calls Try.prog 43 #[.pointer (some ⟨g, 0, none⟩), .slice a l.length cap] w fun e w' => e = .returned (.int .u32 (cs l : Int)) ∧ w = w' := sum_any h (byts_f hb) hl
theorem rcsum_any {w : World} {a : Option Addr} {l : List Nat} {cap : Nat} (hb : Byts w a l) (hl : l.length ≤ 1099511627776) :
    Calls Try.prog 33 #[.slice a l.length cap] w fun e w' => e = .returned (.int .u32 (cs l : Int)) ∧ w = w' := rsum_any (byts_f hb) hl

/-- The six fields of a right head. -/
def fds (h : Hh) : List Nat := [h.ix.toNat, h.ln.toNat, h.st.toNat, h.bd.toNat, h.lk, h.sz.toNat]
def fdl (h : Hh) : Array Value := #[.int .u64 (h.ix.toNat : Int), .int .u64 (h.ln.toNat : Int), .int .u64 (h.st.toNat : Int), .int .u64 (h.bd.toNat : Int), .int .u64 (h.lk : Int), .int .u64 (h.sz.toNat : Int)]
theorem alloc2_at (w : World) (o1 o2 : Obj) : ((w.alloc o1).alloc o2).heap[w.heap.size + 1]? = some o2 := by
  rw [← Deep.nblk_alloc w o1]
  exact heap_alloc_new _ _
theorem Try.size58 : (Try.prog.info? 58).map (·.size) = some 6 := by kernel_rfl
theorem fields_any (h : Hh) (hi : Inn h) (hk : h.lk < 4294967296) (w : World) : Calls Try.prog 27 #[hv h] w fun e w' => e = .returned (.agg (fdl h)) ∧ Below w.heap.size w w' := by
  obtain ⟨k, ix, ln, st, bd, la, lk, sz⟩ := h
  obtain ⟨h0, h1, h2, h3, h4, h5, h6, h7, h8, h9⟩ := hi
  simp only [] at h0 h1 h2 h3 h4 h5 h6 h7 h8 h9 hk
  have h10 : bd ≤ 2147483648 := by omega
  obtain ⟨ixn, rfl⟩ := Int.eq_ofNat_of_zero_le h0
  obtain ⟨lnn, rfl⟩ := Int.eq_ofNat_of_zero_le (show 0 ≤ ln by omega)
  obtain ⟨stn, rfl⟩ := Int.eq_ofNat_of_zero_le (show 0 ≤ st by omega)
  obtain ⟨bdn, rfl⟩ := Int.eq_ofNat_of_zero_le h6
  obtain ⟨szn, rfl⟩ := Int.eq_ofNat_of_zero_le h8
  change Calls Try.prog 27 #[.agg #[.int .i64 k, .int .i64 ixn, .int .i64 lnn, .int .i64 stn, .int .i64 bdn, .bool la, .int .u32 (lk : Int), .int .i64 szn]] w fun e w' => e = .returned (.agg #[.int .u64 (ixn : Int), .int .u64 (lnn : Int), .int .u64 (stn : Int), .int .u64 (bdn : Int), .int .u64 (lk : Int), .int .u64 (szn : Int)]) ∧ Below w.heap.size w w'
  have u0 : IntKind.u64.wrap (ixn : Int) = ixn := by rw [u64_wrap]; unfold u64; omega
  have u1 : IntKind.u64.wrap (lnn : Int) = lnn := by rw [u64_wrap]; unfold u64; omega
  have u2 : IntKind.u64.wrap (stn : Int) = stn := by rw [u64_wrap]; unfold u64; omega
  have u3 : IntKind.u64.wrap (bdn : Int) = bdn := by rw [u64_wrap]; unfold u64; omega
  have u4 : IntKind.u64.wrap (lk : Int) = lk := by rw [u64_wrap]; unfold u64; omega
  have u5 : IntKind.u64.wrap (szn : Int) = szn := by rw [u64_wrap]; unfold u64; omega
  clear h7
  go_enter Try.func27, Try.ntmps27
  go_wp2_with fail
  refine bodyPost_ret (results_cell_row (p := 2) (ty := 58) (by kernel_rfl) _ _ (w.heap.size + 1) 58 _ (0, 0) _ rfl (alloc2_at _ _ _) Try.underlying58 rfl Try.size58) rfl ?_
  exact ⟨rfl, (below_new w _).alloc (below_new w _).size _⟩
end Go.Proofs.Ytjdifacjeeadkaa.Head
