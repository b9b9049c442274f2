/- Sound as it lies in memory; Count; whether a list has a number, or a list, of which a function tells so; whether a list reaches beyond. Conditions: sound lies in memory as its lists. -/
import Derived.Test.YtkdpalmdcnpnoaaRi
namespace Go.Proofs.Ytkdpalmdcnpnoaa.Pcm
open Go.RowKit Gen

/-- A slice of ints in memory. -/
structure Isb (W : World) (a : Option Addr) (len b off : Nat) (X : Nat → Int) : Prop where
  addr : 0 < len → a = some ⟨b, off, none⟩
  c : ∀ i, i < len → W.cell? ⟨b, off + i, none⟩ = some (.int .i64 (X i))
  lt : 0 < len → b < W.heap.size
  hl : len ≤ 9223372036854775807
def Is (W : World) (a : Option Addr) (len : Nat) (X : Nat → Int) : Prop := ∃ b off, Isb W a len b off X
theorem Isb.below {W W' : World} {a : Option Addr} {len b off : Nat} {X : Nat → Int} (h : Isb W a len b off X) {B : Nat} (hb : Below B W W') (hB : 0 < len → b < B) : Isb W' a len b off X :=
  ⟨h.addr, fun i hi => (hb.cell (p := ⟨b, _, none⟩) (hB (by omega))).trans (h.c i hi), fun hl => Nat.lt_of_lt_of_le (h.lt hl) hb.size, h.hl⟩
theorem Is.below {W W' : World} {a : Option Addr} {len : Nat} {X : Nat → Int} (h : Is W a len X) (hb : Below W.heap.size W W') : Is W' a len X := by
  obtain ⟨b, off, h⟩ := h
  exact ⟨b, off, h.below hb h.lt⟩

/-- Sound: its format, its slice of lists, the lists' slices, their numbers. -/
structure Dat where
  f : Fmt
  a : Option Addr
  n : Nat
  cap : Nat
  b : Nat
  off : Nat
  la : Nat → Option Addr
  ln : Nat → Nat
  lc : Nat → Nat
  X : Nat → Nat → Int
def Dat.v (d : Dat) : Value := .agg #[.int .i64 d.f.ch, .int .i64 d.f.bits, .int .i64 d.f.rate, .slice d.a d.n d.cap]
structure Snd (W : World) (d : Dat) : Prop where
  addr : 0 < d.n → d.a = some ⟨d.b, d.off, none⟩
  c : ∀ i, i < d.n → W.cell? ⟨d.b, d.off + i, none⟩ = some (.slice (d.la i) (d.ln i) (d.lc i))
  l : ∀ i, i < d.n → Is W (d.la i) (d.ln i) (d.X i)
  lt : 0 < d.n → d.b < W.heap.size
  hl : d.n ≤ 9223372036854775807
theorem Snd.below {W W' : World} {d : Dat} (h : Snd W d) (hb : Below W.heap.size W W') : Snd W' d :=
  ⟨h.addr, fun i hi => (hb.cell (p := ⟨d.b, _, none⟩) (h.lt (by omega))).trans (h.c i hi), fun i hi => (h.l i hi).below hb, fun hl => Nat.lt_of_lt_of_le (h.lt hl) hb.size, h.hl⟩
/-- How many samples the first channel has. -/
def Dat.cnt (d : Dat) : Nat := if d.n = 0 then 0 else d.ln 0

theorem count_any (w : World) (d : Dat) (h : Snd w d) : Calls Try.prog 26 #[d.v] w fun e w' => e = .returned (.int .i64 (d.cnt : Int)) ∧ Below w.heap.size w w' := by
  obtain ⟨⟨ch, bits, rate⟩, a, n, cap, b, off, la, ln, lc, X⟩ := d
  show Calls Try.prog 26 #[.agg #[.int .i64 ch, .int .i64 bits, .int .i64 rate, .slice a n cap]] w _
  have hb : Below w.heap.size w (w.alloc (.cells #[.int .i64 ch, .int .i64 bits, .int .i64 rate, .slice a n cap] 26)) := (Below.refl _ _).alloc (Nat.le_refl _) _
  have HB := hid hb
  have H := hid h
  clear hb h
  by_cases h0 : n = 0
  · subst h0
    rw [show Dat.cnt ⟨⟨ch, bits, rate⟩, a, 0, cap, b, off, la, ln, lc, X⟩ = 0 from rfl]
    go_enter Try.func26, Try.ntmps26
    go_wp2_with fail
    go_ret
    exact ⟨rfl, HB.out⟩
  · have e : Dat.cnt ⟨⟨ch, bits, rate⟩, a, n, cap, b, off, la, ln, lc, X⟩ = ln 0 := if_neg h0
    rw [e]
    clear e
    obtain rfl : a = some ⟨b, off, none⟩ := H.out.addr (show 0 < n by omega)
    have hc : (w.alloc (.cells #[.int .i64 ch, .int .i64 bits, .int .i64 rate, .slice (some ⟨b, off, none⟩) n cap] 26)).cell? ⟨b, off, none⟩ = some (.slice (la 0) (ln 0) (lc 0)) :=
      (HB.out.cell (p := ⟨b, off, none⟩) (H.out.lt (show 0 < n by omega))).trans (H.out.c 0 (show 0 < n by omega))
    have h1 : ((n : Int) == 0) = false := beq_eq_false_iff_ne.2 (by omega)
    have h2 : (0 : Int) < (n : Int) := by omega
    clear h0
    go_enter Try.func26, Try.ntmps26
    go_wp2_with fail
    go_ret
    exact ⟨rfl, HB.out⟩
theorem rcount_any (w : World) (d : Dat) (h : Snd w d) : Calls Try.prog 49 #[d.v] w fun e w' => e = .returned (.int .i64 (d.cnt : Int)) ∧ Below w.heap.size w w' := by
  obtain ⟨⟨ch, bits, rate⟩, a, n, cap, b, off, la, ln, lc, X⟩ := d
  show Calls Try.prog 49 #[.agg #[.int .i64 ch, .int .i64 bits, .int .i64 rate, .slice a n cap]] w _
  have hb : Below w.heap.size w (w.alloc (.cells #[.int .i64 ch, .int .i64 bits, .int .i64 rate, .slice a n cap] 26)) := (Below.refl _ _).alloc (Nat.le_refl _) _
  have HB := hid hb
  have H := hid h
  clear hb h
  by_cases h0 : n = 0
  · subst h0
    rw [show Dat.cnt ⟨⟨ch, bits, rate⟩, a, 0, cap, b, off, la, ln, lc, X⟩ = 0 from rfl]
    go_enter Try.func49, Try.ntmps49
    go_wp2_with fail
    go_ret
    exact ⟨rfl, HB.out⟩
  · have e : Dat.cnt ⟨⟨ch, bits, rate⟩, a, n, cap, b, off, la, ln, lc, X⟩ = ln 0 := if_neg h0
    rw [e]
    clear e
    obtain rfl : a = some ⟨b, off, none⟩ := H.out.addr (show 0 < n by omega)
    have hc : (w.alloc (.cells #[.int .i64 ch, .int .i64 bits, .int .i64 rate, .slice (some ⟨b, off, none⟩) n cap] 26)).cell? ⟨b, off, none⟩ = some (.slice (la 0) (ln 0) (lc 0)) :=
      (HB.out.cell (p := ⟨b, off, none⟩) (H.out.lt (show 0 < n by omega))).trans (H.out.c 0 (show 0 < n by omega))
    have h1 : ((n : Int) == 0) = false := beq_eq_false_iff_ne.2 (by omega)
    have h2 : (0 : Int) < (n : Int) := by omega
    clear h0
    go_enter Try.func49, Try.ntmps49
    go_wp2_with fail
    go_ret
    exact ⟨rfl, HB.out⟩

/-- What IndexFunc answers, q telling of each place what the function tells of what is there. -/
def IdxPost (q : Nat → Bool) (len : Nat) (w : World) (e : Ending) (w' : World) : Prop := ∃ r : Int, e = .returned (.int .i64 r) ∧ Below w.heap.size w w' ∧ ((r = -1 ∧ ∀ i, i < len → q i = false) ∨ (0 ≤ r ∧ ∃ i, i < len ∧ q i = true))
def HasPost (q : Nat → Bool) (len : Nat) (w : World) (e : Ending) (w' : World) : Prop := ∃ x : Bool, e = .returned (.bool x) ∧ Below w.heap.size w w' ∧ (x = true ↔ ∃ i, i < len ∧ q i = true)

theorem index_i (q : Nat → Bool) (kf : FuncId) (caps : Array Value) (hent : ∀ args w, (callFunc kf args).run Try.prog w = .ok (.enter kf args) w) (w : World) (a : Option Addr) (len cap b off : Nat) (X : Nat → Int) (h : Isb w a len b off X)
    (hcall : ∀ i, i < len → ∀ w', Below w.heap.size w w' → Calls Try.prog kf (#[.int .i64 (X i)] ++ caps) w' fun e w'' => e = .returned (.bool (q i)) ∧ Below w'.heap.size w' w'') :
    Calls Try.prog 94 #[.slice a len cap, .func (.func kf) #[] caps] w (IdxPost q len w) := by
  have H := hid h
  have HC := hid hcall
  have hl := h.hl
  clear h hcall
  go_enter Try.func94, Try.ntmps94
  go_wp2_with fail
  go_loopg [8] len (fun g i wr => ∃ k : Nat, k ≤ len ∧ g = len - k ∧ i = .int .i64 k ∧ Below w.heap.size w wr ∧ ∀ i, i < k → q i = false)
  case atStart => exact ⟨0, Nat.zero_le _, rfl, rfl, Below.refl _ _, fun j hj => absurd hj (Nat.not_lt_zero _)⟩
  case round =>
    obtain ⟨k, hk, hg, rfl, hb, hall⟩ := hrel
    have HG := hid hg
    have HA := hid hall
    have HB := hid hb
    clear hg hall hb
    by_cases hlt : k < len
    · have hlt2 : (k : Int) < (len : Int) := by omega
      obtain rfl := H.out.addr (by omega)
      have ck := (H.out.below HB.out H.out.lt).c k hlt
      go_wp2_with fail
      refine (HC.out k hlt wr HB.out).mono ?_
      rintro e w' ⟨rfl, hb'⟩
      have HB2 := hid (HB.out.trans (hb'.mono HB.out.size))
      clear hb' ck
      cases hq : q k with
      | false =>
        have HQ := hid hq
        clear hq
        go_wp2_with fail
        go_roundg (len - (k + 1))
        case measure => rw [HG.out]; omega
        case rel => exact ⟨k + 1, by omega, rfl, by go_num, HB2.out, fun j hj => by
          by_cases e : j = k
          · rw [e]; exact HQ.out
          · exact HA.out j (by omega)⟩
      | true =>
        have HQ := hid hq
        clear hq
        go_wp2_with fail
        go_ret
        exact ⟨_, rfl, HB2.out, .inr ⟨by omega, k, hlt, HQ.out⟩⟩
    · have hge : ¬ (k : Int) < (len : Int) := by omega
      obtain rfl : k = len := by omega
      go_wp2_with fail
      go_ret
      exact ⟨_, rfl, HB.out, .inl ⟨rfl, HA.out⟩⟩
theorem has_of (q : Nat → Bool) (len : Nat) (r : Int) (hr : (r = -1 ∧ ∀ i, i < len → q i = false) ∨ (0 ≤ r ∧ ∃ i, i < len ∧ q i = true)) (x : Bool) (hx : x = decide (0 ≤ r)) : (x = true ↔ ∃ i, i < len ∧ q i = true) := by
  subst hx
  rcases hr with ⟨rfl, h⟩ | ⟨h0, h⟩
  · refine ⟨fun h => by simp at h, fun ⟨i, hi, hq⟩ => ?_⟩
    rw [h i hi] at hq; cases hq
  · exact ⟨fun _ => h, fun _ => by simp [h0]⟩
theorem has_i (q : Nat → Bool) (kf : FuncId) (caps : Array Value) (hent : ∀ args w, (callFunc kf args).run Try.prog w = .ok (.enter kf args) w) (w : World) (a : Option Addr) (len cap b off : Nat) (X : Nat → Int) (h : Isb w a len b off X)
    (hcall : ∀ i, i < len → ∀ w', Below w.heap.size w w' → Calls Try.prog kf (#[.int .i64 (X i)] ++ caps) w' fun e w'' => e = .returned (.bool (q i)) ∧ Below w'.heap.size w' w'') :
    Calls Try.prog 82 #[.slice a len cap, .func (.func kf) #[] caps] w (HasPost q len w) := by
  have hi := index_i q kf caps hent w a len cap b off X h hcall
  clear hcall h
  go_enter Try.func82, Try.ntmps82
  go_wp2_with fail
  refine hi.mono ?_
  rintro e w' ⟨r, rfl, hb, hr⟩
  have HR := hid hr
  clear hi hr
  go_wp2_with fail
  go_ret
  exact ⟨_, rfl, hb, has_of q len r HR.out _ rfl⟩

theorem index_l (q : Nat → Bool) (kf : FuncId) (caps : Array Value) (hent : ∀ args w, (callFunc kf args).run Try.prog w = .ok (.enter kf args) w) (w : World) (d : Dat) (h : Snd w d)
    (hcall : ∀ i, i < d.n → ∀ w', Below w.heap.size w w' → Calls Try.prog kf (#[.slice (d.la i) (d.ln i) (d.lc i)] ++ caps) w' fun e w'' => e = .returned (.bool (q i)) ∧ Below w'.heap.size w' w'') :
    Calls Try.prog 85 #[.slice d.a d.n d.cap, .func (.func kf) #[] caps] w (IdxPost q d.n w) := by
  obtain ⟨⟨ch, bits, rate⟩, a, n, cap, b, off, la, ln, lc, X⟩ := d
  have H := hid h
  have HC := hid hcall
  have hl := h.hl
  clear h hcall
  simp only at hl HC ⊢
  go_enter Try.func85, Try.ntmps85
  go_wp2_with fail
  go_loopg [8] n (fun g i wr => ∃ k : Nat, k ≤ n ∧ g = n - k ∧ i = .int .i64 k ∧ Below w.heap.size w wr ∧ ∀ i, i < k → q i = false)
  case atStart => exact ⟨0, Nat.zero_le _, rfl, rfl, Below.refl _ _, fun j hj => absurd hj (Nat.not_lt_zero _)⟩
  case round =>
    obtain ⟨k, hk, hg, rfl, hb, hall⟩ := hrel
    have HG := hid hg
    have HA := hid hall
    have HB := hid hb
    clear hg hall hb
    by_cases hlt : k < n
    · have hlt2 : (k : Int) < (n : Int) := by omega
      obtain rfl : a = some ⟨b, off, none⟩ := H.out.addr (show 0 < n by omega)
      have ck : wr.cell? ⟨b, off + k, none⟩ = some (.slice (la k) (ln k) (lc k)) := (H.out.below HB.out).c k hlt
      go_wp2_with fail
      refine (HC.out k hlt wr HB.out).mono ?_
      rintro e w' ⟨rfl, hb'⟩
      have HB2 := hid (HB.out.trans (hb'.mono HB.out.size))
      clear hb' ck
      cases hq : q k with
      | false =>
        have HQ := hid hq
        clear hq
        go_wp2_with fail
        go_roundg (n - (k + 1))
        case measure => rw [HG.out]; omega
        case rel => exact ⟨k + 1, by omega, rfl, by go_num, HB2.out, fun j hj => by
          by_cases e : j = k
          · rw [e]; exact HQ.out
          · exact HA.out j (by omega)⟩
      | true =>
        have HQ := hid hq
        clear hq
        go_wp2_with fail
        go_ret
        exact ⟨_, rfl, HB2.out, .inr ⟨by omega, k, hlt, HQ.out⟩⟩
    · have hge : ¬ (k : Int) < (n : Int) := by omega
      obtain rfl : k = n := by omega
      go_wp2_with fail
      go_ret
      exact ⟨_, rfl, HB.out, .inl ⟨rfl, HA.out⟩⟩
theorem has_l (q : Nat → Bool) (kf : FuncId) (caps : Array Value) (hent : ∀ args w, (callFunc kf args).run Try.prog w = .ok (.enter kf args) w) (w : World) (d : Dat) (h : Snd w d)
    (hcall : ∀ i, i < d.n → ∀ w', Below w.heap.size w w' → Calls Try.prog kf (#[.slice (d.la i) (d.ln i) (d.lc i)] ++ caps) w' fun e w'' => e = .returned (.bool (q i)) ∧ Below w'.heap.size w' w'') :
    Calls Try.prog 58 #[.slice d.a d.n d.cap, .func (.func kf) #[] caps] w (HasPost q d.n w) := by
  have hi := index_l q kf caps hent w d h hcall
  clear hcall h
  go_enter Try.func58, Try.ntmps58
  go_wp2_with fail
  refine hi.mono ?_
  rintro e w' ⟨r, rfl, hb, hr⟩
  have HR := hid hr
  clear hi hr
  go_wp2_with fail
  go_ret
  exact ⟨_, rfl, hb, has_of q d.n r HR.out _ rfl⟩
end Go.Proofs.Ytkdpalmdcnpnoaa.Pcm
