/- One question, whatever it is, asked of both takers. Conditions: fewer than 2^40 bytes, texts of at most 300. -/
import Derived.Test.YtmjjpmmbhlibmaaAns1
import Derived.Test.YtmjjpmmbhlibmaaAns2
import Derived.Test.YtmjjpmmbhlibmaaAns3
namespace Go.Proofs.Ytmjjpmmbhlibmaa.Fld
open Go.RowKit Gen

set_option maxRecDepth 100000 in
theorem ans_x {w0 w : World} {q r cap : Nat} {a : Option Addr} {L : List Nat} {s : TS} (ht : TkS w q s) (hr : RtS w r a cap L s) (hb : Below w0.heap.size w0 w) (hq : w0.heap.size ≤ q) (hqr : q < r) (K N : Int) (S : ByteArray)
    (h0 : ¬ K = 0) (h1 : ¬ K = 1) (h2 : ¬ K = 2) (h3 : ¬ K = 3) (h4 : ¬ K = 4) :
    Calls Try.prog 14 #[.pointer (some ⟨q, 0, none⟩), .pointer (some ⟨r, 0, none⟩), .agg #[.int .i64 K, .int .i64 N, .string S]] w (AnsP w0 q r a cap L (ask s K N S)) := by
  have hx : ask s K N S = s := by unfold ask; rw [if_neg h0, if_neg h1, if_neg h2, if_neg h3, if_neg h4]
  rw [hx]
  have hd := duo_box ht hr hb hq hqr K N S
  have d0 : (w.alloc (.cells #[.int .i64 K, .int .i64 N, .string S] 46)).cell? ⟨w.heap.size, 0, none⟩ = some (.int .i64 K) := by rw [World.cell?_alloc_at _ _ _ _ rfl]; rfl
  have t0 : (K == 0) = false := by rw [beq_eq_false_iff_ne]; exact h0
  have t1 : (K == 1) = false := by rw [beq_eq_false_iff_ne]; exact h1
  have t2 : (K == 2) = false := by rw [beq_eq_false_iff_ne]; exact h2
  have t3 : (K == 3) = false := by rw [beq_eq_false_iff_ne]; exact h3
  have t4 : (K == 4) = false := by rw [beq_eq_false_iff_ne]; exact h4
  have HD := hid hd
  clear ht hr hb hq hqr hd h0 h1 h2 h3 h4 hx
  go_enter Try.func14, Try.ntmps14
  go_wp2_with fail
  generalize w.alloc (.cells #[.int .i64 K, .int .i64 N, .string S] 46) = W at *
  generalize w.heap.size = p at *
  go_wp2_with fail
  go_ret
  exact HD.out.ansP
end Go.Proofs.Ytmjjpmmbhlibmaa.Fld
