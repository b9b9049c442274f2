/- One question, asked of both takers: they answer alike. Conditions: fewer than 2^40 bytes, texts of at most 300. -/
import Derived.Test.YtmjjpmmbhlibmaaAns
import Derived.Deep.RegionWith
namespace Go.Proofs.Ytmjjpmmbhlibmaa.Fld
open Go.RowKit Gen

set_option maxRecDepth 100000 in
set_option maxHeartbeats 1000000 in
theorem ans_1 {w0 w : World} {q r cap : Nat} {a : Option Addr} {L : List Nat} {s : TS} (hS : Src w0 a cap L) (ht : TkS w q s) (hr : RtS w r a cap L s) (hb : Below w0.heap.size w0 w) (hq : w0.heap.size ≤ q) (hqr : q < r) (N : Int) (S : ByteArray) :
    Calls Try.prog 14 #[.pointer (some ⟨q, 0, none⟩), .pointer (some ⟨r, 0, none⟩), .agg #[.int .i64 1, .int .i64 N, .string S]] w (AnsP w0 q r a cap L (ask s 1 N S)) := by
  rw [ask_1]
  have hd := duo_box ht hr hb hq hqr 1 N S
  have HS := hid hS
  have HL8 := hid (nx_len8 s N)
  have d0 : (w.alloc (.cells #[.int .i64 1, .int .i64 N, .string S] 46)).cell? ⟨w.heap.size, 0, none⟩ = some (.int .i64 1) := by rw [World.cell?_alloc_at _ _ _ _ rfl]; rfl
  have HD := hid hd
  clear hS ht hr hb hq hqr hd
  go_enter Try.func14, Try.ntmps14
  go_wp2_with fail
  generalize w.alloc (.cells #[.int .i64 1, .int .i64 N, .string S] 46) = W at *
  generalize w.heap.size = p at *
  have hd := HD.out.drew
  have d1 := hd.d1
  clear HD d0
  go_region_with (first
    | (go_at_call 20; (with_reducible refine (d_i ‹Duo w0 _ q r p a cap L N S _ _› N).mono ?_); rintro e w9 ⟨rfl, hd9⟩; have e9 := hd9.d1)
    | (go_at_call 33; (with_reducible refine (r_next ‹Duo w0 _ q r p a cap L N S _ _› HS.out N true).mono ?_); rintro e w8 ⟨ao, c, rfl, hby, hd8⟩; have hby8 := hby.keep hd8.bel; have e8 := hd8.d1)
    | (go_at_call 34; (with_reducible refine (rsigned_any hby8 HL8.out).mono ?_); rintro e w7 ⟨rfl, rfl⟩))
  all_goals
    go_wp2_with fail
    go_ret
    exact hd8.ansP
end Go.Proofs.Ytmjjpmmbhlibmaa.Fld
