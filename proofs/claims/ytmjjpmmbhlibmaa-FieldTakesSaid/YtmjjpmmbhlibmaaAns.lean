/- One question, asked of both takers: they answer alike. Conditions: fewer than 2^40 bytes, texts of at most 300. -/
import Derived.Test.YtmjjpmmbhlibmaaDuo
import Derived.Deep.RegionWith
namespace Go.Proofs.Ytmjjpmmbhlibmaa.Fld
open Go.RowKit Gen

/-- What a question leaves. -/
def AnsP (w0 : World) (q r : Nat) (a : Option Addr) (cap : Nat) (L : List Nat) (s' : TS) (e : Ending) (w' : World) : Prop :=
  e = .returned (.bool true) ∧ TkS w' q s' ∧ RtS w' r a cap L s' ∧ Below w0.heap.size w0 w'
theorem Duo.ansP {w0 w : World} {q r p cap : Nat} {a : Option Addr} {L : List Nat} {N : Int} {S : ByteArray} {s' : TS} (h : Duo w0 w q r p a cap L N S s' s') : AnsP w0 q r a cap L s' (.returned (.bool true)) w := ⟨rfl, h.tk, h.rt, h.bel⟩

/-- The question in its box. -/
theorem duo_box {w0 w : World} {q r cap : Nat} {a : Option Addr} {L : List Nat} {s : TS} (ht : TkS w q s) (hr : RtS w r a cap L s) (hb : Below w0.heap.size w0 w) (hq : w0.heap.size ≤ q) (hqr : q < r) (K N : Int) (S : ByteArray) :
    Duo w0 (w.alloc (.cells #[.int .i64 K, .int .i64 N, .string S] 46)) q r w.heap.size a cap L N S s s := by
  have hz := hr.1.lt
  have hb1 := bel_alloc w (.cells #[.int .i64 K, .int .i64 N, .string S] 46)
  refine ⟨ht.below hb1, ⟨hr.1.keep (X := fun _ => False) ⟨hb1.os, hb1.tape, hb1.output, hb1.size, fun k hk _ => hb1.block k hk⟩ (fun e => e), hr.2⟩, hb.trans (hb1.mono hb.size), hq, hqr, hz, by simp, ?_, ?_⟩
  · rw [World.cell?_alloc_at _ _ _ _ rfl]; rfl
  · rw [World.cell?_alloc_at _ _ _ _ rfl]; rfl

set_option maxRecDepth 100000 in
set_option maxHeartbeats 1000000 in
theorem ans_0 {w0 w : World} {q r cap : Nat} {a : Option Addr} {L : List Nat} {s : TS} (hS : Src w0 a cap L) (ht : TkS w q s) (hr : RtS w r a cap L s) (hb : Below w0.heap.size w0 w) (hq : w0.heap.size ≤ q) (hqr : q < r) (N : Int) (S : ByteArray) :
    Calls Try.prog 14 #[.pointer (some ⟨q, 0, none⟩), .pointer (some ⟨r, 0, none⟩), .agg #[.int .i64 0, .int .i64 N, .string S]] w (AnsP w0 q r a cap L (ask s 0 N S)) := by
  rw [ask_0]
  have hd := duo_box ht hr hb hq hqr 0 N S
  have HS := hid hS
  have HL8 := hid (nx_len8 s N)
  have d0 : (w.alloc (.cells #[.int .i64 0, .int .i64 N, .string S] 46)).cell? ⟨w.heap.size, 0, none⟩ = some (.int .i64 0) := by rw [World.cell?_alloc_at _ _ _ _ rfl]; rfl
  have HD := hid hd
  clear hS ht hr hb hq hqr hd
  go_enter Try.func14, Try.ntmps14
  go_wp2_with fail
  generalize w.alloc (.cells #[.int .i64 0, .int .i64 N, .string S] 46) = W at *
  generalize w.heap.size = p at *
  have hd := HD.out.drew
  have d1 := hd.d1
  clear HD d0
  go_region_with (first
    | (go_at_call 19; (with_reducible refine (d_u ‹Duo w0 _ q r p a cap L N S _ _› N).mono ?_); rintro e w9 ⟨rfl, hd9⟩; have e9 := hd9.d1)
    | (go_at_call 33; (with_reducible refine (r_next ‹Duo w0 _ q r p a cap L N S _ _› HS.out N true).mono ?_); rintro e w8 ⟨ao, c, rfl, hby, hd8⟩; have hby8 := hby.keep hd8.bel; have e8 := hd8.d1)
    | (go_at_call 32; (with_reducible refine (rvalue_any hby8 HL8.out).mono ?_); rintro e w7 ⟨rfl, rfl⟩))
  all_goals
    go_wp2_with fail
    go_ret
    exact hd8.ansP
end Go.Proofs.Ytmjjpmmbhlibmaa.Fld
