/- Tags in memory; keys that are alike; the first tag of which something is so. Conditions: texts of at most 2^40 bytes, at most 2^40 tags. -/
import Derived.Test.YtfkklmklbmdlhaaDoorT3
import Derived.Test.YtfkklmklbmdlhaaDoorTv
import Derived.Test.YtfkklmklbmdlhaaDoorQc
import Derived.BigQuiet
import Derived.Deep.QuietTactic
import Derived.Deep.RegionWith
namespace Go.Proofs.YtfkklmklbmdlhaaDoor.Tg
open Go.RowKit Gen

/-- A tag. -/
structure Tag where
  k : ByteArray
  v : ByteArray
deriving DecidableEq
def Tag.val (t : Tag) : Value := .agg #[.string t.k, .string t.v]
/-- Tags in memory, at block b from place off on. -/
structure Tb (w : World) (a : Option Addr) (len b off : Nat) (T : Nat → Tag) : Prop where
  addr : 0 < len → a = some ⟨b, off, none⟩
  k : ∀ i, i < len → w.cell? ⟨b, off + i * 2, none⟩ = some (.string (T i).k)
  v : ∀ i, i < len → w.cell? ⟨b, off + i * 2 + 1, none⟩ = some (.string (T i).v)
  lt : 0 < len → b < w.heap.size
theorem Tb.keep {w w' : World} {a : Option Addr} {len b off : Nat} {T : Nat → Tag} (h : Tb w a len b off T) (hb : Below w.heap.size w w') : Tb w' a len b off T := by
  refine ⟨h.addr, fun i hi => ?_, fun i hi => ?_, fun hl => Nat.lt_of_lt_of_le (h.lt hl) hb.size⟩
  · rw [World.cell?_of_block (hb.block b (h.lt (by omega)))]; exact h.k i hi
  · rw [World.cell?_of_block (hb.block b (h.lt (by omega)))]; exact h.v i hi
theorem Tb.stay {w w' : World} {a : Option Addr} {len b off : Nat} {T : Nat → Tag} {X : Nat → Prop} (h : Tb w a len b off T) (hf : Fr X w w') (hx : 0 < len → ¬ X b) : Tb w' a len b off T := by
  refine ⟨h.addr, fun i hi => ?_, fun i hi => ?_, fun hl => Nat.lt_of_lt_of_le (h.lt hl) hf.size⟩
  · rw [hf.cell (p := ⟨b, off + i * 2, none⟩) (h.lt (by omega)) (hx (by omega))]; exact h.k i hi
  · rw [hf.cell (p := ⟨b, off + i * 2 + 1, none⟩) (h.lt (by omega)) (hx (by omega))]; exact h.v i hi
theorem Tb.take {w : World} {a : Option Addr} {len b off : Nat} {T : Nat → Tag} (h : Tb w a len b off T) (n : Nat) (hn : n ≤ len) : Tb w a n b off T := ⟨fun h0 => h.addr (by omega), fun i hi => h.k i (by omega), fun i hi => h.v i (by omega), fun h0 => h.lt (by omega)⟩
theorem Tb.congr {w : World} {a : Option Addr} {len b off : Nat} {T T' : Nat → Tag} (h : Tb w a len b off T) (e : ∀ i, i < len → T i = T' i) : Tb w a len b off T' := ⟨h.addr, fun i hi => by rw [← e i hi]; exact h.k i hi, fun i hi => by rw [← e i hi]; exact h.v i hi, h.lt⟩
/-- Not too many, not too long. -/
structure Sz (T : Nat → Tag) (len : Nat) : Prop where
  n : len ≤ 1099511627776
  k : ∀ i, i < len → (T i).k.size ≤ 1099511627776
  v : ∀ i, i < len → (T i).v.size ≤ 1099511627776
theorem Sz.take {T : Nat → Tag} {len : Nat} (h : Sz T len) (n : Nat) (hn : n ≤ len) : Sz T n := ⟨by have := h.n; omega, fun i hi => h.k i (by omega), fun i hi => h.v i (by omega)⟩

/-- The first place at which something is so. -/
def fi (p : Nat → Bool) : Nat → Option Nat
  | 0 => none
  | n + 1 => match fi p n with
    | some i => some i
    | none => if p n then some n else none
theorem fi_none {p : Nat → Bool} : ∀ {n : Nat}, (∀ i, i < n → p i = false) → fi p n = none
  | 0, _ => rfl
  | n + 1, h => by unfold fi; rw [fi_none (fun i hi => h i (by omega)), h n (by omega)]; rfl
theorem fi_some {p : Nat → Bool} {k : Nat} (hk : p k = true) (h : ∀ i, i < k → p i = false) : ∀ {n : Nat}, k < n → fi p n = some k
  | n + 1, hn => by
    by_cases e : k = n
    · subst e; unfold fi; rw [fi_none h, if_pos hk]
    · unfold fi; rw [fi_some hk h (by omega)]
theorem fi_cases (p : Nat → Bool) : ∀ n, (fi p n = none ∧ ∀ i, i < n → p i = false) ∨ ∃ k, fi p n = some k ∧ k < n ∧ p k = true ∧ ∀ i, i < k → p i = false
  | 0 => .inl ⟨rfl, fun i hi => absurd hi (Nat.not_lt_zero _)⟩
  | n + 1 => by
    rcases fi_cases p n with ⟨h1, h2⟩ | ⟨k, h1, h2, h3, h4⟩
    · cases hp : p n with
      | false => exact .inl ⟨fi_none (fun i hi => by by_cases e : i = n; exact e ▸ hp; exact h2 i (by omega)), fun i hi => by by_cases e : i = n; exact e ▸ hp; exact h2 i (by omega)⟩
      | true => exact .inr ⟨n, fi_some hp h2 (Nat.lt_succ_self _), Nat.lt_succ_self _, hp, h2⟩
    · exact .inr ⟨k, fi_some h3 h4 (by omega), by omega, h3, h4⟩
/-- That place as a number; -1: there is none. -/
def fx (p : Nat → Bool) (n : Nat) : Int := match fi p n with
  | some i => (i : Int)
  | none => -1
theorem fx_none {p : Nat → Bool} {n : Nat} (h : ∀ i, i < n → p i = false) : fx p n = -1 := by unfold fx; rw [fi_none h]
theorem fx_some {p : Nat → Bool} {n k : Nat} (hk : p k = true) (h : ∀ i, i < k → p i = false) (hn : k < n) : fx p n = (k : Int) := by unfold fx; rw [fi_some hk h hn]
theorem fx_cases (p : Nat → Bool) (n : Nat) : (fx p n = -1 ∧ ∀ i, i < n → p i = false) ∨ ∃ k : Nat, fx p n = (k : Int) ∧ k < n ∧ p k = true ∧ ∀ i, i < k → p i = false := by
  rcases fi_cases p n with ⟨h1, h2⟩ | ⟨k, h1, h2, h3, h4⟩
  · exact .inl ⟨fx_none h2, h2⟩
  · exact .inr ⟨k, fx_some h3 h4 h2, h2, h3, h4⟩
/-- A tag's key is alike to one in small letters. -/
def lk (T : Nat → Tag) (kf : ByteArray) (i : Nat) : Bool := decide (fold (T i).k = kf)
theorem beq_text (x y : ByteArray) : (x.toList == y.toList) = decide (x = y) := by
  by_cases h : x = y
  · rw [h, decide_eq_true rfl]; exact beq_self_eq_true _
  · rw [decide_eq_false h, beq_eq_false_iff_ne]
    intro e
    apply h
    rw [ByteArray.toList_eq, ByteArray.toList_eq] at e
    cases x; cases y
    exact congrArg ByteArray.mk (Array.toList_inj.1 e)

theorem alike_any (key : ByteArray) (hk : key.size ≤ 1099511627776) (w : World) :
    Calls Tryd.prog 32 #[.string key] w fun e w' => e = .returned (.func (.func 58) #[] #[.pointer (some ⟨w.heap.size, 0, none⟩)]) ∧ w'.cell? ⟨w.heap.size, 0, none⟩ = some (.string (fold key)) ∧ Below w.heap.size w w' := by
  have HF := hid fun w => fold_any key hk w
  have HB0 := hid ((Below.refl w.heap.size w).alloc (Nat.le_refl _) (.cells #[.string key] 9))
  have hc0 : (w.alloc (.cells #[.string key] 9)).cell? ⟨w.heap.size, 0, none⟩ = some (.string key) := by simp
  have hf0 : (w.alloc (.cells #[.string key] 9)).frozen? ⟨w.heap.size, 0, none⟩ = false := by simp
  have hlt0 : w.heap.size < (w.alloc (.cells #[.string key] 9)).heap.size := by simp
  have HC0 := hid hc0
  have HF0 := hid hf0
  have HL0 := hid hlt0
  clear hc0 hf0 hlt0
  go_enter Tryd.func32, Tryd.ntmps32
  go_wp2_with fail
  change Calls _ _ _ (w.alloc (.cells #[.string key] 9)) _
  generalize w.alloc (.cells #[.string key] 9) = W at *
  refine (HF.out _).mono ?_
  rintro e w1 ⟨rfl, hb1⟩
  have hc1 : w1.cell? ⟨w.heap.size, 0, none⟩ = some (.string key) := (World.cell?_of_block (a := ⟨w.heap.size, 0, none⟩) (hb1.block w.heap.size HL0.out)).trans HC0.out
  have hf1 : w1.frozen? ⟨w.heap.size, 0, none⟩ = false := (World.frozen?_of_block (a := ⟨w.heap.size, 0, none⟩) (hb1.block w.heap.size HL0.out)).trans HF0.out
  have HC1 := hid hc1
  have HB1 := hid (HB0.out.trans (hb1.mono HB0.out.size))
  clear hb1
  go_wp2_with fail
  go_ret
  exact ⟨rfl, World.cell?_setCell_same _ _ _ HC1.out, HB1.out.setCell (p := ⟨w.heap.size, 0, none⟩) (Nat.le_refl _) _⟩
theorem alike1_any (t : Tag) (kf : ByteArray) (q : Nat) (ht : t.k.size ≤ 1099511627776) (w : World) (hq : w.cell? ⟨q, 0, none⟩ = some (.string kf)) :
    Calls Tryd.prog 58 #[.agg #[.string t.k, .string t.v], .pointer (some ⟨q, 0, none⟩)] w fun e w' => e = .returned (.bool (decide (fold t.k = kf))) ∧ Below w.heap.size w w' := by
  have HF := hid fun w => fold_any t.k ht w
  have HB0 := hid ((Below.refl w.heap.size w).alloc (Nat.le_refl _) (.cells #[.string t.k, .string t.v] 30))
  have hc0 : (w.alloc (.cells #[.string t.k, .string t.v] 30)).cell? ⟨w.heap.size, 0, none⟩ = some (.string t.k) := by simp
  have hq0 : (w.alloc (.cells #[.string t.k, .string t.v] 30)).cell? ⟨q, 0, none⟩ = some (.string kf) := by
    rw [World.cell?_of_block (a := ⟨q, 0, none⟩) (HB0.out.block q (World.block_lt_of_cell? _ _ hq))]; exact hq
  have hbq := beq_text (fold t.k) kf
  have HBQ := hid hbq
  clear hbq hq
  generalize fold t.k = F at *
  generalize decide (F = kf) = D at *
  go_enter Tryd.func58, Tryd.ntmps58
  go_wp2_with fail
  change Code.wp _ _ _ _ (w.alloc (.cells #[.string t.k, .string t.v] 30))
  generalize w.alloc (.cells #[.string t.k, .string t.v] 30) = W at *
  have k0 : ∀ p : Kp W, p.w'.cell? ⟨w.heap.size, 0, none⟩ = some (.string t.k) := fun p => (p.h.cell (p := ⟨w.heap.size, 0, none⟩) (World.block_lt_of_cell? _ _ hc0) (fun h => h)).trans hc0
  have k1 : ∀ p : Kp W, p.w'.cell? ⟨q, 0, none⟩ = some (.string kf) := fun p => (p.h.cell (p := ⟨q, 0, none⟩) (World.block_lt_of_cell? _ _ hq0) (fun h => h)).trans hq0
  clear hc0 hq0
  refine wp_region_quiet_kp (by kernel_rfl) (by kernel_rfl) ?_
  repeat (first | go_big_quiet_step ((first | (go_at_call 21; exact kp_below (HF.out _)))) | fail)
  refine wpQuiet_nil ?_
  intro _ hw'
  obtain ⟨⟨wq, hq⟩, hw''⟩ := hw'
  subst hw''
  have bq := HB0.out.trans ((below_of_fr hq).mono HB0.out.size)
  have HBB := hid bq
  clear bq hq k0 k1
  go_wp2_with fail
  go_ret
  exact ⟨by rw [← HBQ.out]; rfl, HBB.out⟩

set_option maxHeartbeats 1000000 in
theorem index_any (kf : ByteArray) (q : Nat) (w : World) (hq : w.cell? ⟨q, 0, none⟩ = some (.string kf)) {a : Option Addr} {len b off : Nat} {T : Nat → Tag} (h : Tb w a len b off T) (hz : Sz T len) (cap : Nat) :
    Calls Tryd.prog 38 #[.slice a len cap, .func (.func 58) #[] #[.pointer (some ⟨q, 0, none⟩)]] w fun e w' => e = .returned (.int .i64 (fx (lk T kf) len)) ∧ Below w.heap.size w w' := by
  have H := hid h
  have HQ := hid hq
  have HC := hid fun (i : Nat) (hi : i < len) (w' : World) (hb : Below w.heap.size w w') => alike1_any (T i) kf q (hz.k i hi) w' ((World.cell?_of_block (a := ⟨q, 0, none⟩) (hb.block q (World.block_lt_of_cell? _ _ hq))).trans hq)
  have hn := hz.n
  clear h hq hz
  go_enter Tryd.func38, Tryd.ntmps38
  go_wp2_with fail
  go_loopg [8] len (fun g i wr => ∃ k : Nat, k ≤ len ∧ g = len - k ∧ i = .int .i64 k ∧ Below w.heap.size w wr ∧ ∀ i, i < k → lk T kf i = false)
  case atStart => exact ⟨0, Nat.zero_le _, rfl, rfl, Below.refl _ _, fun j hj => absurd hj (Nat.not_lt_zero _)⟩
  case round =>
    obtain ⟨k, hk, hg, rfl, hb, hall⟩ := hrel
    have HG := hid hg
    have HA := hid hall
    have HB := hid hb
    clear hg hall hb
    by_cases hlt : k < len
    · have hlt2 : (k : Int) < (len : Int) := by omega
      obtain rfl := H.out.addr (by omega)
      have ck := (H.out.keep HB.out).k k hlt
      have cv := (H.out.keep HB.out).v k hlt
      go_wp2_with fail
      refine (HC.out k hlt wr HB.out).mono ?_
      rintro e w' ⟨rfl, hb'⟩
      have HB2 := hid (HB.out.trans (hb'.mono HB.out.size))
      clear hb' ck cv
      have HD := hid (show lk T kf k = decide (fold (T k).k = kf) from rfl)
      generalize decide (fold (T k).k = kf) = D at *
      cases D with
      | false =>
        go_wp2_with fail
        go_roundg (len - (k + 1))
        case measure => rw [HG.out]; omega
        case rel => exact ⟨k + 1, by omega, rfl, by go_num, HB2.out, fun j hj => by
          by_cases e : j = k
          · rw [e]; exact HD.out
          · exact HA.out j (by omega)⟩
      | true =>
        go_wp2_with fail
        go_ret
        exact ⟨by rw [fx_some HD.out HA.out hlt]; rfl, HB2.out⟩
    · have hge : ¬ (k : Int) < (len : Int) := by omega
      obtain rfl : k = len := by omega
      go_wp2_with fail
      go_ret
      exact ⟨by rw [fx_none HA.out]; rfl, HB.out⟩
theorem contains_any (kf : ByteArray) (q : Nat) (w : World) (hq : w.cell? ⟨q, 0, none⟩ = some (.string kf)) {a : Option Addr} {len b off : Nat} {T : Nat → Tag} (h : Tb w a len b off T) (hz : Sz T len) (cap : Nat) :
    Calls Tryd.prog 31 #[.slice a len cap, .func (.func 58) #[] #[.pointer (some ⟨q, 0, none⟩)]] w fun e w' => e = .returned (.bool (decide (0 ≤ fx (lk T kf) len))) ∧ Below w.heap.size w w' := by
  have HI := hid (index_any kf q w hq h hz cap)
  generalize fx (lk T kf) len = r at *
  clear h hz hq
  go_enter Tryd.func31, Tryd.ntmps31
  go_wp2_with fail
  refine HI.out.mono ?_
  rintro e w' ⟨rfl, hb⟩
  have HB := hid hb
  clear hb
  go_wp2_with fail
  go_ret
  exact ⟨rfl, HB.out⟩
end Go.Proofs.YtfkklmklbmdlhaaDoor.Tg
