/- One call of a maker, and what the document says of it. Conditions: texts of at most 2^30 bytes. -/
import Derived.Test.YtmjjpmmbhlibmaaRef3
namespace Go.Proofs.Ytmjjpmmbhlibmaa.Fld
open Go.RowKit Gen

/-- The error that a call has, and the bytes that it lays. -/
def actE (K : Int) (V : Nat) (N : Int) (S : ByteArray) : Nat := if K = 0 then uErr V N else if K = 1 then iErr (wrap64 V) N else if K = 2 then 0 else if K = 3 then uErr S.size N else 0
def actM (K : Int) (V : Nat) (N : Int) (S : ByteArray) : List Nat := if K = 0 then le V N.toNat else if K = 1 then le (u64 (wrap64 V)) N.toNat else if K = 2 then sb S else if K = 3 then le S.size N.toNat ++ sb S else []

theorem act_0 (V : Nat) (N : Int) (S : ByteArray) : actE 0 V N S = uErr V N ∧ actM 0 V N S = le V N.toNat := by
  exact ⟨by simp [actE], by simp [actM]⟩
theorem act_1 (V : Nat) (N : Int) (S : ByteArray) : actE 1 V N S = iErr (wrap64 V) N ∧ actM 1 V N S = le (u64 (wrap64 V)) N.toNat := by
  exact ⟨by simp [actE], by simp [actM]⟩
theorem act_2 (V : Nat) (N : Int) (S : ByteArray) : actE 2 V N S = 0 ∧ actM 2 V N S = sb S := by
  exact ⟨by simp [actE], by simp [actM]⟩
theorem act_3 (V : Nat) (N : Int) (S : ByteArray) : actE 3 V N S = uErr S.size N ∧ actM 3 V N S = le S.size N.toNat ++ sb S := by
  exact ⟨by simp [actE], by simp [actM]⟩

/-- What a call leaves. -/
def DoP (w : World) (B p : Nat) (ao : Option Addr) (s : Nat × List Nat) (e : Nat) (m : List Nat) (x : Ending) (w' : World) : Prop :=
  ∃ xo xc, x = .returned (.tuple #[.slice xo (ifOk e m).length xc, .int .i64 (e : Int)]) ∧ Byts w' xo (ifOk e m) ∧ (xo = none → (ifOk e m).length = 0 ∧ xc = 0) ∧ Aft w B p ao (put s e m) w'

theorem own_none {w : World} {base : Nat} {ao : Option Addr} {n cap : Nat} {xs : List Value} (h : w.ownsRow base 5 1 (.slice ao n cap) n xs) : ao = none → n = 0 ∧ cap = 0 := fun e => by
  rcases ownsRow_at h with ⟨_, h1, h2, _⟩ | ⟨g, h1⟩
  · exact ⟨h1, h2⟩
  · rw [e] at h1; cases h1
theorem Aft.more {w w1 w2 : World} {B p : Nat} {ao : Option Addr} {s : Nat × List Nat} (h : Aft w B p ao s w1) (hb : Below w1.heap.size w1 w2) : Aft w B p ao s w2 := by
  obtain ⟨ao1, cap1, hm, hP⟩ := h
  exact ⟨ao1, cap1, hm.below hb, hP.trans (Psh.new hb p ao1)⟩
theorem ifOk_lt {e : Nat} {m : List Nat} (h : ∀ b ∈ m, b < 256) : ∀ b ∈ ifOk e m, b < 256 := by
  unfold ifOk
  split
  · exact h
  · intro b hb; cases hb
theorem dop_of {w w1 w2 : World} {B p : Nat} {ao : Option Addr} {s : Nat × List Nat} {e : Nat} {m : List Nat} {x : Ending} (hlt : ∀ b ∈ m, b < 256) (ha : Aft w B p ao (put s e m) w1) (hr : RefP w1 e (ifOk e m) x w2) : DoP w B p ao s e m x w2 := by
  obtain ⟨xo, xc, rfl, hown, hb⟩ := hr
  exact ⟨xo, xc, rfl, Byts.of_row (ifOk_lt hlt) hown, own_none hown, ha.more hb⟩
theorem wrap64_in (V : Nat) : -9223372036854775808 ≤ wrap64 V ∧ wrap64 V ≤ 9223372036854775807 := by unfold wrap64; omega

set_option maxHeartbeats 400000 in
theorem do_0 {w : World} {B p cap F : Nat} {ao : Option Addr} {l : List Nat} (h : MkA w B p ao cap F l) (hB : B ≤ w.heap.size) (V : Nat) (N : Int) (S : ByteArray) (hV : V < 18446744073709551616) (hl : l.length ≤ 274877906944) :
    Calls Try.prog 10 #[.pointer (some ⟨p, 0, none⟩), .agg #[.int .i64 0, .int .u64 (V : Int), .int .i64 N, .string S]] w (DoP w B p ao (F, l) (actE 0 V N S) (actM 0 V N S)) := by
  rw [(act_0 V N S).1, (act_0 V N S).2]
  have hb0 := bel_alloc w (.cells #[.int .i64 0, .int .u64 (V : Int), .int .i64 N, .string S] 36)
  have h0 := h.below hb0
  have H := hid h0
  have HB := hid hb0
  have hBz := Nat.le_trans hB hb0.size
  have HC := hid (show ∀ i (hi : i < 4), (w.alloc (.cells #[.int .i64 0, .int .u64 (V : Int), .int .i64 N, .string S] 36)).cell? ⟨w.heap.size, i, none⟩ = #[.int .i64 0, .int .u64 (V : Int), .int .i64 N, .string S][i]? from fun i _ => by rw [World.cell?_alloc_at _ _ _ _ rfl])
  have d0 := HC.out 0 (by decide)
  have d1 := HC.out 1 (by decide)
  have d2 := HC.out 2 (by decide)
  have d3 := HC.out 3 (by decide)
  simp only [List.getElem?_toArray, List.getElem?_cons_zero, List.getElem?_cons_succ] at d0 d1 d2 d3
  have hws : w.heap.size < (w.alloc (.cells #[.int .i64 0, .int .u64 (V : Int), .int .i64 N, .string S] 36)).heap.size := by simp
  have hplt := h.plt
  have hrlt := h.rlt
  have HK : RowKit.Hid (∀ w1 ao1, Psh (w.alloc (.cells #[.int .i64 0, .int .u64 (V : Int), .int .i64 N, .string S] 36)) w1 p ao ao1 → ∀ i, w1.cell? ⟨w.heap.size, i, none⟩ = (w.alloc (.cells #[.int .i64 0, .int .u64 (V : Int), .int .i64 N, .string S] 36)).cell? ⟨w.heap.size, i, none⟩) := hid fun w1 ao1 hP i =>
    hP.fr.cell (p := ⟨w.heap.size, i, none⟩) hws (by
      rintro (e | e)
      · have e' : w.heap.size = p := e
        omega
      · have := (hrlt _ e).2
        have e' : w.heap.size < w.heap.size := this
        omega)
  clear h h0 hb0 HC hB hplt hrlt
  go_enter Try.func10, Try.ntmps10
  go_wp2_with fail
  generalize w.alloc (.cells #[.int .i64 0, .int .u64 (V : Int), .int .i64 N, .string S] 36) = W at *
  refine (u_any H.out hBz V N hV (by omega)).mono ?_
  rintro e w1 ⟨rfl, ha⟩
  have hk : ∀ i, w1.cell? ⟨w.heap.size, i, none⟩ = W.cell? ⟨w.heap.size, i, none⟩ := by
    obtain ⟨ao1, cap1, _, hP⟩ := ha
    exact HK.out w1 ao1 hP
  have e1 := (hk 1).trans d1
  have e2 := (hk 2).trans d2
  have HA := hid ha
  clear ha hk d0 d1 d2 d3
  go_wp2_with fail
  refine (ru_any V N hV _).mono ?_
  rintro e w2 hr
  obtain ⟨xo, xc, rfl, hd⟩ := (dop_of (le_lt V N.toNat) HA.out hr)
  have HD := hid hd
  clear hd hr e1 e2
  go_wp2_with fail
  go_ret2
  exact ⟨xo, xc, rfl, HD.out.1, HD.out.2.1, HD.out.2.2.new HB.out⟩

set_option maxHeartbeats 400000 in
theorem do_1 {w : World} {B p cap F : Nat} {ao : Option Addr} {l : List Nat} (h : MkA w B p ao cap F l) (hB : B ≤ w.heap.size) (V : Nat) (N : Int) (S : ByteArray) (hl : l.length ≤ 274877906944) :
    Calls Try.prog 10 #[.pointer (some ⟨p, 0, none⟩), .agg #[.int .i64 1, .int .u64 (V : Int), .int .i64 N, .string S]] w (DoP w B p ao (F, l) (actE 1 V N S) (actM 1 V N S)) := by
  rw [(act_1 V N S).1, (act_1 V N S).2]
  have hb0 := bel_alloc w (.cells #[.int .i64 1, .int .u64 (V : Int), .int .i64 N, .string S] 36)
  have h0 := h.below hb0
  have H := hid h0
  have HB := hid hb0
  have hBz := Nat.le_trans hB hb0.size
  have HC := hid (show ∀ i (hi : i < 4), (w.alloc (.cells #[.int .i64 1, .int .u64 (V : Int), .int .i64 N, .string S] 36)).cell? ⟨w.heap.size, i, none⟩ = #[.int .i64 1, .int .u64 (V : Int), .int .i64 N, .string S][i]? from fun i _ => by rw [World.cell?_alloc_at _ _ _ _ rfl])
  have d0 := HC.out 0 (by decide)
  have d1 := HC.out 1 (by decide)
  have d2 := HC.out 2 (by decide)
  have d3 := HC.out 3 (by decide)
  simp only [List.getElem?_toArray, List.getElem?_cons_zero, List.getElem?_cons_succ] at d0 d1 d2 d3
  have hws : w.heap.size < (w.alloc (.cells #[.int .i64 1, .int .u64 (V : Int), .int .i64 N, .string S] 36)).heap.size := by simp
  have hplt := h.plt
  have hrlt := h.rlt
  have HK : RowKit.Hid (∀ w1 ao1, Psh (w.alloc (.cells #[.int .i64 1, .int .u64 (V : Int), .int .i64 N, .string S] 36)) w1 p ao ao1 → ∀ i, w1.cell? ⟨w.heap.size, i, none⟩ = (w.alloc (.cells #[.int .i64 1, .int .u64 (V : Int), .int .i64 N, .string S] 36)).cell? ⟨w.heap.size, i, none⟩) := hid fun w1 ao1 hP i =>
    hP.fr.cell (p := ⟨w.heap.size, i, none⟩) hws (by
      rintro (e | e)
      · have e' : w.heap.size = p := e
        omega
      · have := (hrlt _ e).2
        have e' : w.heap.size < w.heap.size := this
        omega)
  clear h h0 hb0 HC hB hplt hrlt
  have hw := wrap64_in V
  go_enter Try.func10, Try.ntmps10
  go_wp2_with fail
  generalize w.alloc (.cells #[.int .i64 1, .int .u64 (V : Int), .int .i64 N, .string S] 36) = W at *
  refine (i_any H.out hBz (wrap64 V) N (by omega)).mono ?_
  rintro e w1 ⟨rfl, ha⟩
  have hk : ∀ i, w1.cell? ⟨w.heap.size, i, none⟩ = W.cell? ⟨w.heap.size, i, none⟩ := by
    obtain ⟨ao1, cap1, _, hP⟩ := ha
    exact HK.out w1 ao1 hP
  have e1 := (hk 1).trans d1
  have e2 := (hk 2).trans d2
  have HA := hid ha
  clear ha hk d0 d1 d2 d3
  go_wp2_with fail
  refine (ri_any (wrap64 V) N hw.1 hw.2 _).mono ?_
  rintro e w2 hr
  obtain ⟨xo, xc, rfl, hd⟩ := (dop_of (le_lt (u64 (wrap64 V)) N.toNat) HA.out hr)
  have HD := hid hd
  clear hd hr e1 e2
  go_wp2_with fail
  go_ret2
  exact ⟨xo, xc, rfl, HD.out.1, HD.out.2.1, HD.out.2.2.new HB.out⟩

set_option maxHeartbeats 400000 in
theorem do_2 {w : World} {B p cap F : Nat} {ao : Option Addr} {l : List Nat} (h : MkA w B p ao cap F l) (hB : B ≤ w.heap.size) (V : Nat) (N : Int) (S : ByteArray) (hS : S.size ≤ 1073741824) (hl : l.length ≤ 274877906944) :
    Calls Try.prog 10 #[.pointer (some ⟨p, 0, none⟩), .agg #[.int .i64 2, .int .u64 (V : Int), .int .i64 N, .string S]] w (DoP w B p ao (F, l) (actE 2 V N S) (actM 2 V N S)) := by
  rw [(act_2 V N S).1, (act_2 V N S).2]
  have hb0 := bel_alloc w (.cells #[.int .i64 2, .int .u64 (V : Int), .int .i64 N, .string S] 36)
  have h0 := h.below hb0
  have H := hid h0
  have HB := hid hb0
  have hBz := Nat.le_trans hB hb0.size
  have HC := hid (show ∀ i (hi : i < 4), (w.alloc (.cells #[.int .i64 2, .int .u64 (V : Int), .int .i64 N, .string S] 36)).cell? ⟨w.heap.size, i, none⟩ = #[.int .i64 2, .int .u64 (V : Int), .int .i64 N, .string S][i]? from fun i _ => by rw [World.cell?_alloc_at _ _ _ _ rfl])
  have d0 := HC.out 0 (by decide)
  have d1 := HC.out 1 (by decide)
  have d2 := HC.out 2 (by decide)
  have d3 := HC.out 3 (by decide)
  simp only [List.getElem?_toArray, List.getElem?_cons_zero, List.getElem?_cons_succ] at d0 d1 d2 d3
  have hws : w.heap.size < (w.alloc (.cells #[.int .i64 2, .int .u64 (V : Int), .int .i64 N, .string S] 36)).heap.size := by simp
  have hplt := h.plt
  have hrlt := h.rlt
  have HK : RowKit.Hid (∀ w1 ao1, Psh (w.alloc (.cells #[.int .i64 2, .int .u64 (V : Int), .int .i64 N, .string S] 36)) w1 p ao ao1 → ∀ i, w1.cell? ⟨w.heap.size, i, none⟩ = (w.alloc (.cells #[.int .i64 2, .int .u64 (V : Int), .int .i64 N, .string S] 36)).cell? ⟨w.heap.size, i, none⟩) := hid fun w1 ao1 hP i =>
    hP.fr.cell (p := ⟨w.heap.size, i, none⟩) hws (by
      rintro (e | e)
      · have e' : w.heap.size = p := e
        omega
      · have := (hrlt _ e).2
        have e' : w.heap.size < w.heap.size := this
        omega)
  clear h h0 hb0 HC hB hplt hrlt
  have hcv := fun W => conv_string W S
  go_enter Try.func10, Try.ntmps10
  go_wp2_with fail
  have hWs : (w.alloc (.cells #[.int .i64 2, .int .u64 (V : Int), .int .i64 N, .string S] 36)).heap.size = w.heap.size + 1 := by simp
  generalize w.alloc (.cells #[.int .i64 2, .int .u64 (V : Int), .int .i64 N, .string S] 36) = W at *
  have hbs := byts_of_string W S
  have hbl := below_string W S
  have hH1 := H.out.below hbl
  have hz := hbl.size
  rw [← sb_len S]
  generalize hW : Lib.bytesWorld W 5 S = W1 at *
  have hra := raw_any (c := grownCap W (sb S).length 0 5) hH1 hbs (fun e => by cases e) (Nat.le_trans hBz hz) (by rw [sb_len]; omega)
  rw [hWs] at hra
  refine hra.mono ?_
  rintro e w1 ⟨rfl, ha⟩
  have ha2 : Aft W B p ao (put (F, l) 0 (sb S)) w1 := ha.new hbl
  have hk : ∀ i, w1.cell? ⟨w.heap.size, i, none⟩ = W.cell? ⟨w.heap.size, i, none⟩ := by
    obtain ⟨ao1, cap1, _, hP⟩ := ha2
    exact HK.out w1 ao1 hP
  have e3 := (hk 3).trans d3
  have HA := hid ha2
  clear ha ha2 hk d0 d1 d2 d3 hbs hbl hH1 hz hW
  go_wp2_with fail
  have hbs := byts_of_string w1 S
  have hbl := below_string w1 S
  have HD := hid (And.intro hbs hbl)
  clear hbs hbl e3
  generalize Lib.bytesWorld w1 5 S = W2 at *
  go_ret2
  refine ⟨some ⟨w1.heap.size, 0, none⟩, grownCap w1 S.size 0 5, ?_, HD.out.1, (fun e => by cases e), (HA.out.more HD.out.2).new HB.out⟩
  show _ = Ending.returned (.tuple #[.slice _ (sb S).length _, _])
  rw [sb_len]
  rfl

set_option maxHeartbeats 400000 in
theorem do_3 {w : World} {B p cap F : Nat} {ao : Option Addr} {l : List Nat} (h : MkA w B p ao cap F l) (hB : B ≤ w.heap.size) (V : Nat) (N : Int) (S : ByteArray) (hS : S.size ≤ 1073741824) (hl : l.length ≤ 274877906944) :
    Calls Try.prog 10 #[.pointer (some ⟨p, 0, none⟩), .agg #[.int .i64 3, .int .u64 (V : Int), .int .i64 N, .string S]] w (DoP w B p ao (F, l) (actE 3 V N S) (actM 3 V N S)) := by
  rw [(act_3 V N S).1, (act_3 V N S).2]
  have hb0 := bel_alloc w (.cells #[.int .i64 3, .int .u64 (V : Int), .int .i64 N, .string S] 36)
  have h0 := h.below hb0
  have H := hid h0
  have HB := hid hb0
  have hBz := Nat.le_trans hB hb0.size
  have HC := hid (show ∀ i (hi : i < 4), (w.alloc (.cells #[.int .i64 3, .int .u64 (V : Int), .int .i64 N, .string S] 36)).cell? ⟨w.heap.size, i, none⟩ = #[.int .i64 3, .int .u64 (V : Int), .int .i64 N, .string S][i]? from fun i _ => by rw [World.cell?_alloc_at _ _ _ _ rfl])
  have d0 := HC.out 0 (by decide)
  have d1 := HC.out 1 (by decide)
  have d2 := HC.out 2 (by decide)
  have d3 := HC.out 3 (by decide)
  simp only [List.getElem?_toArray, List.getElem?_cons_zero, List.getElem?_cons_succ] at d0 d1 d2 d3
  have hws : w.heap.size < (w.alloc (.cells #[.int .i64 3, .int .u64 (V : Int), .int .i64 N, .string S] 36)).heap.size := by simp
  have hplt := h.plt
  have hrlt := h.rlt
  have HK : RowKit.Hid (∀ w1 ao1, Psh (w.alloc (.cells #[.int .i64 3, .int .u64 (V : Int), .int .i64 N, .string S] 36)) w1 p ao ao1 → ∀ i, w1.cell? ⟨w.heap.size, i, none⟩ = (w.alloc (.cells #[.int .i64 3, .int .u64 (V : Int), .int .i64 N, .string S] 36)).cell? ⟨w.heap.size, i, none⟩) := hid fun w1 ao1 hP i =>
    hP.fr.cell (p := ⟨w.heap.size, i, none⟩) hws (by
      rintro (e | e)
      · have e' : w.heap.size = p := e
        omega
      · have := (hrlt _ e).2
        have e' : w.heap.size < w.heap.size := this
        omega)
  clear h h0 hb0 HC hB hplt hrlt
  go_enter Try.func10, Try.ntmps10
  go_wp2_with fail
  generalize w.alloc (.cells #[.int .i64 3, .int .u64 (V : Int), .int .i64 N, .string S] 36) = W at *
  refine (text_any H.out hBz S N (by omega) (by omega)).mono ?_
  rintro e w1 ⟨rfl, ha⟩
  have hk : ∀ i, w1.cell? ⟨w.heap.size, i, none⟩ = W.cell? ⟨w.heap.size, i, none⟩ := by
    obtain ⟨ao1, cap1, _, hP⟩ := ha
    exact HK.out w1 ao1 hP
  have e2 := (hk 2).trans d2
  have e3 := (hk 3).trans d3
  have HA := hid ha
  clear ha hk d0 d1 d2 d3
  go_wp2_with fail
  refine (rtext_any S N (by omega) _).mono ?_
  rintro e w2 hr
  obtain ⟨xo, xc, rfl, hd⟩ := (dop_of (fun b hb => by
    rcases List.mem_append.1 hb with hb | hb
    · exact le_lt _ _ b hb
    · exact sb_lt S b hb) HA.out hr)
  have HD := hid hd
  clear hd hr e2 e3
  go_wp2_with fail
  go_ret2
  exact ⟨xo, xc, rfl, HD.out.1, HD.out.2.1, HD.out.2.2.new HB.out⟩

set_option maxHeartbeats 400000 in
theorem do_x {w : World} {B p cap F : Nat} {ao : Option Addr} {l : List Nat} (h : MkA w B p ao cap F l) (hB : B ≤ w.heap.size) (K : Int) (V : Nat) (N : Int) (S : ByteArray) (h0 : ¬ K = 0) (h1 : ¬ K = 1) (h2 : ¬ K = 2) (h3 : ¬ K = 3) :
    Calls Try.prog 10 #[.pointer (some ⟨p, 0, none⟩), .agg #[.int .i64 K, .int .u64 (V : Int), .int .i64 N, .string S]] w (DoP w B p ao (F, l) (actE K V N S) (actM K V N S)) := by
  have hb0 := bel_alloc w (.cells #[.int .i64 K, .int .u64 (V : Int), .int .i64 N, .string S] 36)
  have h0 := h.below hb0
  have H := hid h0
  have HB := hid hb0
  have hBz := Nat.le_trans hB hb0.size
  have HC := hid (show ∀ i (hi : i < 4), (w.alloc (.cells #[.int .i64 K, .int .u64 (V : Int), .int .i64 N, .string S] 36)).cell? ⟨w.heap.size, i, none⟩ = #[.int .i64 K, .int .u64 (V : Int), .int .i64 N, .string S][i]? from fun i _ => by rw [World.cell?_alloc_at _ _ _ _ rfl])
  have d0 := HC.out 0 (by decide)
  have d1 := HC.out 1 (by decide)
  have d2 := HC.out 2 (by decide)
  have d3 := HC.out 3 (by decide)
  simp only [List.getElem?_toArray, List.getElem?_cons_zero, List.getElem?_cons_succ] at d0 d1 d2 d3
  have hws : w.heap.size < (w.alloc (.cells #[.int .i64 K, .int .u64 (V : Int), .int .i64 N, .string S] 36)).heap.size := by simp
  have hplt := h.plt
  have hrlt := h.rlt
  have HK : RowKit.Hid (∀ w1 ao1, Psh (w.alloc (.cells #[.int .i64 K, .int .u64 (V : Int), .int .i64 N, .string S] 36)) w1 p ao ao1 → ∀ i, w1.cell? ⟨w.heap.size, i, none⟩ = (w.alloc (.cells #[.int .i64 K, .int .u64 (V : Int), .int .i64 N, .string S] 36)).cell? ⟨w.heap.size, i, none⟩) := hid fun w1 ao1 hP i =>
    hP.fr.cell (p := ⟨w.heap.size, i, none⟩) hws (by
      rintro (e | e)
      · have e' : w.heap.size = p := e
        omega
      · have := (hrlt _ e).2
        have e' : w.heap.size < w.heap.size := this
        omega)
  clear h h0 hb0 HC hB hplt hrlt
  have t0 : (K == 0) = false := by rw [beq_eq_false_iff_ne]; exact h0
  have t1 : (K == 1) = false := by rw [beq_eq_false_iff_ne]; exact h1
  have t2 : (K == 2) = false := by rw [beq_eq_false_iff_ne]; exact h2
  have t3 : (K == 3) = false := by rw [beq_eq_false_iff_ne]; exact h3
  have hE : actE K V N S = 0 := by unfold actE; rw [if_neg h0, if_neg h1, if_neg h2, if_neg h3]
  have hM : actM K V N S = [] := by unfold actM; rw [if_neg h0, if_neg h1, if_neg h2, if_neg h3]
  have HE := hid (And.intro hE hM)
  clear hE hM h0 h1 h2 h3
  go_enter Try.func10, Try.ntmps10
  go_wp2_with fail
  go_ret2
  rw [HE.out.1, HE.out.2]
  refine ⟨none, 0, rfl, Byts.nil _ _, (fun _ => ⟨rfl, rfl⟩), ao, cap, ?_, Psh.new HB.out p ao⟩
  have := H.out
  have e : put (F, l) 0 [] = (F, l) := by
    unfold put
    by_cases hF : F = 0
    · simp [hF]
    · have := this.err hF
      simp [hF, this]
  rw [e]
  exact this

set_option maxHeartbeats 400000 in
theorem do_any {w : World} {B p cap F : Nat} {ao : Option Addr} {l : List Nat} (h : MkA w B p ao cap F l) (hB : B ≤ w.heap.size) (K : Int) (V : Nat) (N : Int) (S : ByteArray) (hV : V < 18446744073709551616) (hS : S.size ≤ 1073741824) (hl : l.length ≤ 274877906944) :
    Calls Try.prog 10 #[.pointer (some ⟨p, 0, none⟩), .agg #[.int .i64 K, .int .u64 (V : Int), .int .i64 N, .string S]] w (DoP w B p ao (F, l) (actE K V N S) (actM K V N S)) := by
  by_cases h0 : K = 0
  · subst h0; exact do_0 h hB V N S hV hl
  by_cases h1 : K = 1
  · subst h1; exact do_1 h hB V N S hl
  by_cases h2 : K = 2
  · subst h2; exact do_2 h hB V N S hS hl
  by_cases h3 : K = 3
  · subst h3; exact do_3 h hB V N S hS hl
  · exact do_x h hB K V N S h0 h1 h2 h3
end Go.Proofs.Ytmjjpmmbhlibmaa.Fld
