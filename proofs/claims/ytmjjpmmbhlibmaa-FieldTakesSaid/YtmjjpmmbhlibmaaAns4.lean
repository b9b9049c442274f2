/- One question, asked of both takers: they answer alike. Conditions: fewer than 2^40 bytes, texts of at most 300. -/
import Derived.Test.YtmjjpmmbhlibmaaAns
import Derived.Deep.RegionWith
namespace Go.Proofs.Ytmjjpmmbhlibmaa.Fld
open Go.RowKit Gen

set_option maxRecDepth 100000 in
set_option maxHeartbeats 16000000 in
theorem ans_4 {w0 w : World} {q r cap : Nat} {a : Option Addr} {L : List Nat} {s : TS} (hS : Src w0 a cap L) (ht : TkS w q s) (hr : RtS w r a cap L s) (hb : Below w0.heap.size w0 w) (hq : w0.heap.size ≤ q) (hqr : q < r) (N : Int) (S : ByteArray) (hT : S.size ≤ 300) :
    Calls Try.prog 14 #[.pointer (some ⟨q, 0, none⟩), .pointer (some ⟨r, 0, none⟩), .agg #[.int .i64 4, .int .i64 N, .string S]] w (AnsP w0 q r a cap L (ask s 4 N S)) := by
  rw [ask_4]
  have hd := duo_box ht hr hb hq hqr 4 N S
  have HS := hid hS
  have d0 : (w.alloc (.cells #[.int .i64 4, .int .i64 N, .string S] 46)).cell? ⟨w.heap.size, 0, none⟩ = some (.int .i64 4) := by rw [World.cell?_alloc_at _ _ _ _ rfl]; rfl
  have HD := hid hd
  clear hS ht hr hb hq hqr hd
  go_enter Try.func14, Try.ntmps14
  go_wp2_with fail
  generalize w.alloc (.cells #[.int .i64 4, .int .i64 N, .string S] 46) = W at *
  generalize w.heap.size = p at *
  have hd := HD.out.drew
  have d2 := hd.d2
  have hcv := fun W => conv_string W S
  have D1 : Duo w0 (Lib.bytesWorld W.drew 5 S) q r p a cap L N S s s := hd.new (below_string _ S)
  have D2 : Duo w0 (Lib.bytesWorld (Lib.bytesWorld W.drew 5 S) 5 S) q r p a cap L N S s s := D1.new (below_string _ S)
  have f0 : Free (Lib.bytesWorld W.drew 5 S) q r (some ⟨W.heap.size, 0, none⟩) (sb S) := free_string hd S
  have f1 : Free (Lib.bytesWorld (Lib.bytesWorld W.drew 5 S) 5 S) q r (some ⟨W.heap.size, 0, none⟩) (sb S) := f0.new (below_string _ S)
  have f2 : Free (Lib.bytesWorld (Lib.bytesWorld W.drew 5 S) 5 S) q r (some ⟨(Lib.bytesWorld W.drew 5 S).heap.size, 0, none⟩) (sb S) := free_string D1 S
  have f3 : Free (Lib.bytesWorld (Lib.bytesWorld W.drew 5 S) 5 S) q r (some ⟨W.heap.size + 1, 0, none⟩) (sb S) := by
    rw [show W.heap.size + 1 = (Lib.bytesWorld W.drew 5 S).heap.size from by rw [Lib.bytesWorld_size]; rfl]
    exact f2
  have d3 := D1.d2
  have HD1 := hid D1
  have HD2 := hid D2
  have H0 := hid f0
  have H1 := hid f1
  have H2 := hid f2
  have H3 := hid f3
  clear hd D1 D2 f0 f1 f2 f3
  go_region_with (first
    | (go_at_call 21; first
      | ((with_reducible refine (d_is (T := S) HD1.out H0.out).mono ?_); rintro e w9 ⟨rfl, hd9, hk9⟩; have e9 := hd9.d2; clear H1 H2 H3 HD2)
      | ((with_reducible refine (d_is (T := S) HD2.out H1.out).mono ?_); rintro e w9 ⟨rfl, hd9, hk9⟩; have f1 := hk9 H1.out; have f2 := hk9 H2.out; have f3 := hk9 H3.out)
      | ((with_reducible refine (d_is (T := S) HD2.out H2.out).mono ?_); rintro e w9 ⟨rfl, hd9, hk9⟩; have f1 := hk9 H1.out; have f2 := hk9 H2.out; have f3 := hk9 H3.out)
      | ((with_reducible refine (d_is (T := S) HD2.out H3.out).mono ?_); rintro e w9 ⟨rfl, hd9, hk9⟩; have f1 := hk9 H1.out; have f2 := hk9 H2.out; have f3 := hk9 H3.out))
    | (go_at_call 36; first
      | ((with_reducible refine (r_is (T := S) hd9 HS.out hT f1).mono ?_); rintro e w8 ⟨rfl, hd8⟩)
      | ((with_reducible refine (r_is (T := S) hd9 HS.out hT f2).mono ?_); rintro e w8 ⟨rfl, hd8⟩)
      | ((with_reducible refine (r_is (T := S) hd9 HS.out hT f3).mono ?_); rintro e w8 ⟨rfl, hd8⟩)
      | ((with_reducible refine (r_is (T := S) (hd9.new (below_string _ S)) HS.out hT (free_string hd9 S)).mono ?_); rintro e w8 ⟨rfl, hd8⟩)))
  all_goals
    go_wp2_with fail
    go_ret
    exact hd8.ansP
end Go.Proofs.Ytmjjpmmbhlibmaa.Fld
