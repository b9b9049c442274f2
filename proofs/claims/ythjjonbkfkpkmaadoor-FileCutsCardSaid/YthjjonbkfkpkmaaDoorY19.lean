/- utf8.ValidString's contract, laid at this program's numbers, and what the two tables give it. Conditions: the tables lie as their initialisers lay them. -/
import Derived.Test.YthjjonbkfkpkmaaDoorY01
import Derived.Shelf.Unicode.ValidAny
import Derived.BigQuiet
import Derived.Deep.QuietTactic
import Derived.Test.YthjjonbkfkpkmaaDoorY18
import Derived.Deep.RegionWith
import Derived.Lib.ValidLaws
import Derived.Lib.MapLaws
import Derived.Lib.TrimUEq
import Derived.Lib.RuneCount
import Derived.Laws.RangeAny
namespace Go.Proofs.YthjjonbkfkpkmaaDoor.Tg
open Go.Shelf Go.RowKit

def vren : Go.Shelf.Ren := ⟨fun | 196 => 87 | 259 => 96 | n => n, fun | 9 => 9 | 4 => 4 | 3 => 3 | 5 => 5 | 12 => 12 | 119 => 152 | 0 => 0 | 46 => 87 | 139 => 155 | 138 => 154 | 53 => 160 | n => n, fun | 3 => 1 | 4 => 2 | n => n⟩
set_option maxRecDepth 100000 in
theorem vlay : Lays.n196 Tryd.prog vren := {
  mixed := by kernel_rfl
  f196 := Tryd.func87.trans (congrArg some (by kernel_rfl))
  f259 := Tryd.func96.trans (congrArg some (by kernel_rfl))
  t0 := Tryd.underlying0
  a0 := Tryd.isAgg0
  z0 := Tryd.sizeOf0
  v0 := Tryd.zeroValue0
  t3 := Tryd.underlying3
  a3 := Tryd.isAgg3
  z3 := Tryd.sizeOf3
  v3 := Tryd.zeroValue3
  t4 := Tryd.underlying4
  a4 := Tryd.isAgg4
  z4 := Tryd.sizeOf4
  v4 := Tryd.zeroValue4
  t5 := Tryd.underlying5
  a5 := Tryd.isAgg5
  z5 := Tryd.sizeOf5
  v5 := Tryd.zeroValue5
  t9 := Tryd.underlying9
  a9 := Tryd.isAgg9
  z9 := Tryd.sizeOf9
  v9 := Tryd.zeroValue9
  t12 := Tryd.underlying12
  a12 := Tryd.isAgg12
  z12 := Tryd.sizeOf12
  v12 := Tryd.zeroValue12
  t46 := Tryd.underlying87
  a46 := Tryd.isAgg87
  z46 := Tryd.sizeOf87
  v46 := Tryd.zeroValue87
  t53 := Tryd.underlying160
  a53 := Tryd.isAgg160
  z53 := Tryd.sizeOf160
  v53 := Tryd.zeroValue160
  t119 := Tryd.underlying152
  a119 := Tryd.isAgg152
  z119 := Tryd.sizeOf152
  t138 := Tryd.underlying154
  a138 := Tryd.isAgg154
  z138 := Tryd.sizeOf154
  v138 := Tryd.zeroValue154
  t139 := Tryd.underlying155
  a139 := Tryd.isAgg155
  z139 := Tryd.sizeOf155
  v139 := Tryd.zeroValue155
  g3 := by kernel_rfl
  g4 := by kernel_rfl }
/-- The two tables of unicode/utf8 lie as their initialisers lay them. -/
def Tabs (w : World) : Prop := Lib.Utf8Tabs (vren.g 3) (vren.g 4) w
set_option maxRecDepth 100000 in
theorem Tabs.keep {w w' : World} (h : Tabs w) (hb : Below w.heap.size w w') : Tabs w' := by
  refine ⟨fun c hc => ?_, fun i hi => ⟨?_, ?_⟩⟩
  · rw [World.cell?_of_block (hb.block _ (World.block_lt_of_cell? _ _ (h.1 c hc)))]; exact h.1 c hc
  · rw [World.cell?_of_block (hb.block _ (World.block_lt_of_cell? _ _ (h.2 i hi).1))]; exact (h.2 i hi).1
  · rw [World.cell?_of_block (hb.block _ (World.block_lt_of_cell? _ _ (h.2 i hi).2))]; exact (h.2 i hi).2
set_option maxRecDepth 100000 in
theorem valid_any (s : ByteArray) (hs : s.size ≤ 9223372036854775807) (w : World) (hT : Tabs w) :
    Calls Tryd.prog 87 #[.string s] w fun e w' => e = .returned (.bool (Lib.validD s.data.toList)) ∧ Below w.heap.size w w' :=
  Any.utf8_ValidString vlay s w hs hT
end Go.Proofs.YthjjonbkfkpkmaaDoor.Tg
namespace Go.Proofs.YthjjonbkfkpkmaaDoor.Tg
open Go.RowKit Gen

/-- A world in which all of w stands. -/
structure Kp (w : World) where
  w' : World
  h : Fr (fun _ => False) w w'

instance (w : World) : Inhabited (Kp w) := ⟨⟨w, Fr.refl _ _⟩⟩

set_option maxRecDepth 100000 in
theorem fr_of_below {w w' : World} (hb : Below w.heap.size w w') : Fr (fun _ => False) w w' := ⟨hb.os, hb.tape, hb.output, hb.size, fun k hk _ => hb.block k hk⟩
set_option maxRecDepth 100000 in
theorem below_of_fr {w w' : World} (hb : Fr (fun _ => False) w w') : Below w.heap.size w w' := ⟨hb.os, hb.tape, hb.output, hb.size, fun k hk => hb.block k hk (fun x => x)⟩
set_option maxRecDepth 100000 in
theorem wp_region_quiet_kp {P : Program} {id : Nat} {Q : Exit → Act → World → Prop} {a : Act} {w : World} {l : List Oper} (hm : P.follows .mixedOrders = true) (hB : Region.lexB .any l.toArray = true)
    (h : wpQuiet P l.toArray (fun w' => ∃ p : Kp w, w' = p.w') (fun a' => ∀ w', (∃ p : Kp w, w' = p.w') → Q .normal a' w') l a) : (Code.region id l.toArray true).wp P Q a w :=
  wp_region_quiet (C := fun w' => ∃ p : Kp w, w' = p.w') hm hB ⟨⟨w.drew, (Fr.refl _ _).drew⟩, rfl⟩ (by simpa using h)
set_option maxRecDepth 100000 in
theorem kp_same {P : Program} {f : FuncId} {args : Array Value} {w : World} {p : Kp w} {v : Value} (h : Calls P f args p.w' fun e w'' => e = .returned v ∧ p.w' = w'') :
    Calls P f args p.w' fun e w'' => e = .returned v ∧ ∃ p' : Kp w, w'' = p'.w' :=
  h.mono fun _ _ ⟨he, hf⟩ => ⟨he, p, hf.symm⟩
set_option maxRecDepth 100000 in
theorem kp_below {P : Program} {f : FuncId} {args : Array Value} {w : World} {p : Kp w} {v : Value} (h : Calls P f args p.w' fun e w'' => e = .returned v ∧ Below p.w'.heap.size p.w' w'') :
    Calls P f args p.w' fun e w'' => e = .returned v ∧ ∃ p' : Kp w, w'' = p'.w' :=
  h.mono fun _ w'' ⟨he, hf⟩ => ⟨he, ⟨w'', p.h.trans (fr_of_below hf)⟩, rfl⟩
end Go.Proofs.YthjjonbkfkpkmaaDoor.Tg
namespace Go.Proofs.YthjjonbkfkpkmaaDoor.Tg
open Go.RowKit Gen

/-- A tag. -/
structure Tag where
  k : ByteArray
  v : ByteArray
deriving DecidableEq
def Tag.val (t : Tag) : Value := .agg #[.string t.k, .string t.v]
/-- Tags in memory, at block b from place off on. -/
structure Tb (w : World) (a : Option Addr) (len b off : Nat) (T : Nat → Tag) : Prop where
  addr : 0 < len → a = some ⟨b, off, none⟩
  k : ∀ i, i < len → w.cell? ⟨b, off + i * 2, none⟩ = some (.string (T i).k)
  v : ∀ i, i < len → w.cell? ⟨b, off + i * 2 + 1, none⟩ = some (.string (T i).v)
  lt : 0 < len → b < w.heap.size
set_option maxRecDepth 100000 in
theorem Tb.keep {w w' : World} {a : Option Addr} {len b off : Nat} {T : Nat → Tag} (h : Tb w a len b off T) (hb : Below w.heap.size w w') : Tb w' a len b off T := by
  refine ⟨h.addr, fun i hi => ?_, fun i hi => ?_, fun hl => Nat.lt_of_lt_of_le (h.lt hl) hb.size⟩
  · rw [World.cell?_of_block (hb.block b (h.lt (by omega)))]; exact h.k i hi
  · rw [World.cell?_of_block (hb.block b (h.lt (by omega)))]; exact h.v i hi
set_option maxRecDepth 100000 in
theorem Tb.stay {w w' : World} {a : Option Addr} {len b off : Nat} {T : Nat → Tag} {X : Nat → Prop} (h : Tb w a len b off T) (hf : Fr X w w') (hx : 0 < len → ¬ X b) : Tb w' a len b off T := by
  refine ⟨h.addr, fun i hi => ?_, fun i hi => ?_, fun hl => Nat.lt_of_lt_of_le (h.lt hl) hf.size⟩
  · rw [hf.cell (p := ⟨b, off + i * 2, none⟩) (h.lt (by omega)) (hx (by omega))]; exact h.k i hi
  · rw [hf.cell (p := ⟨b, off + i * 2 + 1, none⟩) (h.lt (by omega)) (hx (by omega))]; exact h.v i hi
set_option maxRecDepth 100000 in
theorem Tb.take {w : World} {a : Option Addr} {len b off : Nat} {T : Nat → Tag} (h : Tb w a len b off T) (n : Nat) (hn : n ≤ len) : Tb w a n b off T := ⟨fun h0 => h.addr (by omega), fun i hi => h.k i (by omega), fun i hi => h.v i (by omega), fun h0 => h.lt (by omega)⟩
set_option maxRecDepth 100000 in
theorem Tb.congr {w : World} {a : Option Addr} {len b off : Nat} {T T' : Nat → Tag} (h : Tb w a len b off T) (e : ∀ i, i < len → T i = T' i) : Tb w a len b off T' := ⟨h.addr, fun i hi => by rw [← e i hi]; exact h.k i hi, fun i hi => by rw [← e i hi]; exact h.v i hi, h.lt⟩
/-- Not too many, not too long. -/
structure Sz (T : Nat → Tag) (len : Nat) : Prop where
  n : len ≤ 1099511627776
  k : ∀ i, i < len → (T i).k.size ≤ 1099511627776
  v : ∀ i, i < len → (T i).v.size ≤ 1099511627776
set_option maxRecDepth 100000 in
theorem Sz.take {T : Nat → Tag} {len : Nat} (h : Sz T len) (n : Nat) (hn : n ≤ len) : Sz T n := ⟨by have := h.n; omega, fun i hi => h.k i (by omega), fun i hi => h.v i (by omega)⟩

/-- The first place at which something is so. -/
def fi (p : Nat → Bool) : Nat → Option Nat
  | 0 => none
  | n + 1 => match fi p n with
    | some i => some i
    | none => if p n then some n else none
set_option maxRecDepth 100000 in
theorem fi_none {p : Nat → Bool} : ∀ {n : Nat}, (∀ i, i < n → p i = false) → fi p n = none
  | 0, _ => rfl
  | n + 1, h => by unfold fi; rw [fi_none (fun i hi => h i (by omega)), h n (by omega)]; rfl
set_option maxRecDepth 100000 in
theorem fi_some {p : Nat → Bool} {k : Nat} (hk : p k = true) (h : ∀ i, i < k → p i = false) : ∀ {n : Nat}, k < n → fi p n = some k
  | n + 1, hn => by
    by_cases e : k = n
    · subst e; unfold fi; rw [fi_none h, if_pos hk]
    · unfold fi; rw [fi_some hk h (by omega)]
set_option maxRecDepth 100000 in
theorem fi_cases (p : Nat → Bool) : ∀ n, (fi p n = none ∧ ∀ i, i < n → p i = false) ∨ ∃ k, fi p n = some k ∧ k < n ∧ p k = true ∧ ∀ i, i < k → p i = false
  | 0 => .inl ⟨rfl, fun i hi => absurd hi (Nat.not_lt_zero _)⟩
  | n + 1 => by
    rcases fi_cases p n with ⟨h1, h2⟩ | ⟨k, h1, h2, h3, h4⟩
    · cases hp : p n with
      | false => exact .inl ⟨fi_none (fun i hi => by by_cases e : i = n; exact e ▸ hp; exact h2 i (by omega)), fun i hi => by by_cases e : i = n; exact e ▸ hp; exact h2 i (by omega)⟩
      | true => exact .inr ⟨n, fi_some hp h2 (Nat.lt_succ_self _), Nat.lt_succ_self _, hp, h2⟩
    · exact .inr ⟨k, fi_some h3 h4 (by omega), by omega, h3, h4⟩
/-- That place as a number; -1: there is none. -/
def fx (p : Nat → Bool) (n : Nat) : Int := match fi p n with
  | some i => (i : Int)
  | none => -1
set_option maxRecDepth 100000 in
theorem fx_none {p : Nat → Bool} {n : Nat} (h : ∀ i, i < n → p i = false) : fx p n = -1 := by unfold fx; rw [fi_none h]
set_option maxRecDepth 100000 in
theorem fx_some {p : Nat → Bool} {n k : Nat} (hk : p k = true) (h : ∀ i, i < k → p i = false) (hn : k < n) : fx p n = (k : Int) := by unfold fx; rw [fi_some hk h hn]
set_option maxRecDepth 100000 in
theorem fx_cases (p : Nat → Bool) (n : Nat) : (fx p n = -1 ∧ ∀ i, i < n → p i = false) ∨ ∃ k : Nat, fx p n = (k : Int) ∧ k < n ∧ p k = true ∧ ∀ i, i < k → p i = false := by
  rcases fi_cases p n with ⟨h1, h2⟩ | ⟨k, h1, h2, h3, h4⟩
  · exact .inl ⟨fx_none h2, h2⟩
  · exact .inr ⟨k, fx_some h3 h4 h2, h2, h3, h4⟩
/-- A tag's key is alike to one in small letters. -/
def lk (T : Nat → Tag) (kf : ByteArray) (i : Nat) : Bool := decide (fold (T i).k = kf)
set_option maxRecDepth 100000 in
theorem beq_text (x y : ByteArray) : (x.toList == y.toList) = decide (x = y) := by
  by_cases h : x = y
  · rw [h, decide_eq_true rfl]; exact beq_self_eq_true _
  · rw [decide_eq_false h, beq_eq_false_iff_ne]
    intro e
    apply h
    rw [ByteArray.toList_eq, ByteArray.toList_eq] at e
    cases x; cases y
    exact congrArg ByteArray.mk (Array.toList_inj.1 e)

set_option maxRecDepth 100000 in
theorem alike_any (key : ByteArray) (hk : key.size ≤ 1099511627776) (w : World) :
    Calls Tryd.prog 64 #[.string key] w fun e w' => e = .returned (.func (.func 86) #[] #[.pointer (some ⟨w.heap.size, 0, none⟩)]) ∧ w'.cell? ⟨w.heap.size, 0, none⟩ = some (.string (fold key)) ∧ Below w.heap.size w w' := by
  have HF := hid fun w => fold_any key hk w
  have HB0 := hid ((Below.refl w.heap.size w).alloc (Nat.le_refl _) (.cells #[.string key] 9))
  have hc0 : (w.alloc (.cells #[.string key] 9)).cell? ⟨w.heap.size, 0, none⟩ = some (.string key) := by simp
  have hf0 : (w.alloc (.cells #[.string key] 9)).frozen? ⟨w.heap.size, 0, none⟩ = false := by simp
  have hlt0 : w.heap.size < (w.alloc (.cells #[.string key] 9)).heap.size := by simp
  have HC0 := hid hc0
  have HF0 := hid hf0
  have HL0 := hid hlt0
  clear hc0 hf0 hlt0
  go_enter Tryd.func64, Tryd.ntmps64
  go_wp2_with fail
  change Calls _ _ _ (w.alloc (.cells #[.string key] 9)) _
  generalize w.alloc (.cells #[.string key] 9) = W at *
  refine (HF.out _).mono ?_
  rintro e w1 ⟨rfl, hb1⟩
  have hc1 : w1.cell? ⟨w.heap.size, 0, none⟩ = some (.string key) := (World.cell?_of_block (a := ⟨w.heap.size, 0, none⟩) (hb1.block w.heap.size HL0.out)).trans HC0.out
  have hf1 : w1.frozen? ⟨w.heap.size, 0, none⟩ = false := (World.frozen?_of_block (a := ⟨w.heap.size, 0, none⟩) (hb1.block w.heap.size HL0.out)).trans HF0.out
  have HC1 := hid hc1
  have HB1 := hid (HB0.out.trans (hb1.mono HB0.out.size))
  clear hb1
  go_wp2_with fail
  go_ret
  exact ⟨rfl, World.cell?_setCell_same _ _ _ HC1.out, HB1.out.setCell (p := ⟨w.heap.size, 0, none⟩) (Nat.le_refl _) _⟩
set_option maxRecDepth 100000 in
theorem alike1_any (t : Tag) (kf : ByteArray) (q : Nat) (ht : t.k.size ≤ 1099511627776) (w : World) (hq : w.cell? ⟨q, 0, none⟩ = some (.string kf)) :
    Calls Tryd.prog 86 #[.agg #[.string t.k, .string t.v], .pointer (some ⟨q, 0, none⟩)] w fun e w' => e = .returned (.bool (decide (fold t.k = kf))) ∧ Below w.heap.size w w' := by
  have HF := hid fun w => fold_any t.k ht w
  have HB0 := hid ((Below.refl w.heap.size w).alloc (Nat.le_refl _) (.cells #[.string t.k, .string t.v] 54))
  have hc0 : (w.alloc (.cells #[.string t.k, .string t.v] 54)).cell? ⟨w.heap.size, 0, none⟩ = some (.string t.k) := by simp
  have hq0 : (w.alloc (.cells #[.string t.k, .string t.v] 54)).cell? ⟨q, 0, none⟩ = some (.string kf) := by
    rw [World.cell?_of_block (a := ⟨q, 0, none⟩) (HB0.out.block q (World.block_lt_of_cell? _ _ hq))]; exact hq
  have hbq := beq_text (fold t.k) kf
  have HBQ := hid hbq
  clear hbq hq
  generalize fold t.k = F at *
  generalize decide (F = kf) = D at *
  go_enter Tryd.func86, Tryd.ntmps86
  go_wp2_with fail
  change Code.wp _ _ _ _ (w.alloc (.cells #[.string t.k, .string t.v] 54))
  generalize w.alloc (.cells #[.string t.k, .string t.v] 54) = W at *
  have k0 : ∀ p : Kp W, p.w'.cell? ⟨w.heap.size, 0, none⟩ = some (.string t.k) := fun p => (p.h.cell (p := ⟨w.heap.size, 0, none⟩) (World.block_lt_of_cell? _ _ hc0) (fun h => h)).trans hc0
  have k1 : ∀ p : Kp W, p.w'.cell? ⟨q, 0, none⟩ = some (.string kf) := fun p => (p.h.cell (p := ⟨q, 0, none⟩) (World.block_lt_of_cell? _ _ hq0) (fun h => h)).trans hq0
  clear hc0 hq0
  refine wp_region_quiet_kp (by kernel_rfl) (by kernel_rfl) ?_
  repeat (first | go_big_quiet_step ((first | (go_at_call 85; exact kp_below (HF.out _)))) | fail)
  refine wpQuiet_nil ?_
  intro _ hw'
  obtain ⟨⟨wq, hq⟩, hw''⟩ := hw'
  subst hw''
  have bq := HB0.out.trans ((below_of_fr hq).mono HB0.out.size)
  have HBB := hid bq
  clear bq hq k0 k1
  go_wp2_with fail
  go_ret
  exact ⟨by rw [← HBQ.out]; rfl, HBB.out⟩

set_option maxRecDepth 100000 in
set_option maxHeartbeats 1000000 in
theorem index_any (kf : ByteArray) (q : Nat) (w : World) (hq : w.cell? ⟨q, 0, none⟩ = some (.string kf)) {a : Option Addr} {len b off : Nat} {T : Nat → Tag} (h : Tb w a len b off T) (hz : Sz T len) (cap : Nat) :
    Calls Tryd.prog 84 #[.slice a len cap, .func (.func 86) #[] #[.pointer (some ⟨q, 0, none⟩)]] w fun e w' => e = .returned (.int .i64 (fx (lk T kf) len)) ∧ Below w.heap.size w w' := by
  have H := hid h
  have HQ := hid hq
  have HC := hid fun (i : Nat) (hi : i < len) (w' : World) (hb : Below w.heap.size w w') => alike1_any (T i) kf q (hz.k i hi) w' ((World.cell?_of_block (a := ⟨q, 0, none⟩) (hb.block q (World.block_lt_of_cell? _ _ hq))).trans hq)
  have hn := hz.n
  clear h hq hz
  go_enter Tryd.func84, Tryd.ntmps84
  go_wp2_with fail
  go_loopg [8] len (fun g i wr => ∃ k : Nat, k ≤ len ∧ g = len - k ∧ i = .int .i64 k ∧ Below w.heap.size w wr ∧ ∀ i, i < k → lk T kf i = false)
  case atStart => exact ⟨0, Nat.zero_le _, rfl, rfl, Below.refl _ _, fun j hj => absurd hj (Nat.not_lt_zero _)⟩
  case round =>
    obtain ⟨k, hk, hg, rfl, hb, hall⟩ := hrel
    have HG := hid hg
    have HA := hid hall
    have HB := hid hb
    clear hg hall hb
    by_cases hlt : k < len
    · have hlt2 : (k : Int) < (len : Int) := by omega
      obtain rfl := H.out.addr (by omega)
      have ck := (H.out.keep HB.out).k k hlt
      have cv := (H.out.keep HB.out).v k hlt
      go_wp2_with fail
      refine (HC.out k hlt wr HB.out).mono ?_
      rintro e w' ⟨rfl, hb'⟩
      have HB2 := hid (HB.out.trans (hb'.mono HB.out.size))
      clear hb' ck cv
      have HD := hid (show lk T kf k = decide (fold (T k).k = kf) from rfl)
      generalize decide (fold (T k).k = kf) = D at *
      cases D with
      | false =>
        go_wp2_with fail
        go_roundg (len - (k + 1))
        case measure => rw [HG.out]; omega
        case rel => exact ⟨k + 1, by omega, rfl, by go_num, HB2.out, fun j hj => by
          by_cases e : j = k
          · rw [e]; exact HD.out
          · exact HA.out j (by omega)⟩
      | true =>
        go_wp2_with fail
        go_ret
        exact ⟨by rw [fx_some HD.out HA.out hlt]; rfl, HB2.out⟩
    · have hge : ¬ (k : Int) < (len : Int) := by omega
      obtain rfl : k = len := by omega
      go_wp2_with fail
      go_ret
      exact ⟨by rw [fx_none HA.out]; rfl, HB.out⟩
set_option maxRecDepth 100000 in
theorem contains_any (kf : ByteArray) (q : Nat) (w : World) (hq : w.cell? ⟨q, 0, none⟩ = some (.string kf)) {a : Option Addr} {len b off : Nat} {T : Nat → Tag} (h : Tb w a len b off T) (hz : Sz T len) (cap : Nat) :
    Calls Tryd.prog 63 #[.slice a len cap, .func (.func 86) #[] #[.pointer (some ⟨q, 0, none⟩)]] w fun e w' => e = .returned (.bool (decide (0 ≤ fx (lk T kf) len))) ∧ Below w.heap.size w w' := by
  have HI := hid (index_any kf q w hq h hz cap)
  generalize fx (lk T kf) len = r at *
  clear h hz hq
  go_enter Tryd.func63, Tryd.ntmps63
  go_wp2_with fail
  refine HI.out.mono ?_
  rintro e w' ⟨rfl, hb⟩
  have HB := hid hb
  clear hb
  go_wp2_with fail
  go_ret
  exact ⟨rfl, HB.out⟩
end Go.Proofs.YthjjonbkfkpkmaaDoor.Tg
namespace Go.Proofs.YthjjonbkfkpkmaaDoor.Tg
open Go.Lib

/-- The letter of four bytes, of n that there are: how many it has, and which it is; nothing: none. -/
def lN (n b0 b1 b2 b3 : Nat) : Nat × Nat := if (decodeN n b0 b1 b2 b3).1 = 65533 ∧ (decodeN n b0 b1 b2 b3).2 = 1 then (0, 0) else ((decodeN n b0 b1 b2 b3).2, (decodeN n b0 b1 b2 b3).1)
set_option maxRecDepth 100000 in
theorem lN_one (n b0 b1 b2 b3 : Nat) (h : b0 < 128) : lN n b0 b1 b2 b3 = (1, b0) := by
  unfold lN decodeN
  rw [if_pos h, if_neg (by simp only []; omega)]
set_option maxRecDepth 100000 in
theorem lN_none (n b0 b1 b2 b3 : Nat) (h : (128 ≤ b0 ∧ b0 < 194) ∨ (245 ≤ b0 ∧ b0 < 256)) : lN n b0 b1 b2 b3 = (0, 0) := by
  unfold lN
  rw [decodeN_bad n b0 b1 b2 b3 h]
  rfl
set_option maxHeartbeats 2000000 in
set_option maxRecDepth 100000 in
theorem lN_two (n b0 b1 b2 b3 : Nat) (h1 : 194 ≤ b0) (h2 : b0 < 224) : lN n b0 b1 b2 b3 = if 1 < n ∧ 128 ≤ b1 ∧ b1 ≤ 191 then (2, 64 * (b0 - 192) + (b1 - 128)) else (0, 0) := by
  have key : decodeN n b0 b1 b2 b3 = if 1 < n ∧ 128 ≤ b1 ∧ b1 ≤ 191 then (64 * (b0 - 192) + (b1 - 128), 2) else (65533, 1) := by
    unfold decodeN
    repeat' split
    all_goals first | rfl | (exfalso; omega) | (refine Prod.ext ?_ rfl; simp only []; omega)
  unfold lN
  rw [key]
  split
  · rw [if_neg (by simp only []; omega)]
  · rw [if_pos ⟨rfl, rfl⟩]
set_option maxHeartbeats 4000000 in
set_option maxRecDepth 100000 in
theorem lN_three (n b0 b1 b2 b3 : Nat) (h1 : 224 ≤ b0) (h2 : b0 < 240) : lN n b0 b1 b2 b3 = if (1 < n ∧ 128 ≤ b1 ∧ b1 ≤ 191) ∧ (2 < n ∧ 128 ≤ b2 ∧ b2 ≤ 191) then
    (if 64 * (64 * (b0 - 224) + (b1 - 128)) + (b2 - 128) < 2048 ∨ 1114111 < 64 * (64 * (b0 - 224) + (b1 - 128)) + (b2 - 128) ∨ (55296 ≤ 64 * (64 * (b0 - 224) + (b1 - 128)) + (b2 - 128) ∧ 64 * (64 * (b0 - 224) + (b1 - 128)) + (b2 - 128) ≤ 57343) then (0, 0)
      else (3, 64 * (64 * (b0 - 224) + (b1 - 128)) + (b2 - 128))) else (0, 0) := by
  have key : decodeN n b0 b1 b2 b3 = if (1 < n ∧ 128 ≤ b1 ∧ b1 ≤ 191) ∧ (2 < n ∧ 128 ≤ b2 ∧ b2 ≤ 191) then
    (if 64 * (64 * (b0 - 224) + (b1 - 128)) + (b2 - 128) < 2048 ∨ 1114111 < 64 * (64 * (b0 - 224) + (b1 - 128)) + (b2 - 128) ∨ (55296 ≤ 64 * (64 * (b0 - 224) + (b1 - 128)) + (b2 - 128) ∧ 64 * (64 * (b0 - 224) + (b1 - 128)) + (b2 - 128) ≤ 57343) then (65533, 1)
      else (64 * (64 * (b0 - 224) + (b1 - 128)) + (b2 - 128), 3)) else (65533, 1) := by
    unfold decodeN
    repeat' split
    all_goals first | rfl | (exfalso; omega) | (refine Prod.ext ?_ rfl; simp only []; omega)
  unfold lN
  rw [key]
  split
  · split
    · rw [if_pos ⟨rfl, rfl⟩]
    · rw [if_neg (by simp only []; omega)]
  · rw [if_pos ⟨rfl, rfl⟩]
set_option maxHeartbeats 4000000 in
set_option maxRecDepth 100000 in
theorem lN_four (n b0 b1 b2 b3 : Nat) (h1 : 240 ≤ b0) (h2 : b0 < 245) : lN n b0 b1 b2 b3 = if (1 < n ∧ 128 ≤ b1 ∧ b1 ≤ 191) ∧ (2 < n ∧ 128 ≤ b2 ∧ b2 ≤ 191) ∧ (3 < n ∧ 128 ≤ b3 ∧ b3 ≤ 191) then
    (if 64 * (64 * (64 * (b0 - 240) + (b1 - 128)) + (b2 - 128)) + (b3 - 128) < 65536 ∨ 1114111 < 64 * (64 * (64 * (b0 - 240) + (b1 - 128)) + (b2 - 128)) + (b3 - 128) ∨ (55296 ≤ 64 * (64 * (64 * (b0 - 240) + (b1 - 128)) + (b2 - 128)) + (b3 - 128) ∧ 64 * (64 * (64 * (b0 - 240) + (b1 - 128)) + (b2 - 128)) + (b3 - 128) ≤ 57343) then (0, 0)
      else (4, 64 * (64 * (64 * (b0 - 240) + (b1 - 128)) + (b2 - 128)) + (b3 - 128))) else (0, 0) := by
  have key : decodeN n b0 b1 b2 b3 = if (1 < n ∧ 128 ≤ b1 ∧ b1 ≤ 191) ∧ (2 < n ∧ 128 ≤ b2 ∧ b2 ≤ 191) ∧ (3 < n ∧ 128 ≤ b3 ∧ b3 ≤ 191) then
    (if 64 * (64 * (64 * (b0 - 240) + (b1 - 128)) + (b2 - 128)) + (b3 - 128) < 65536 ∨ 1114111 < 64 * (64 * (64 * (b0 - 240) + (b1 - 128)) + (b2 - 128)) + (b3 - 128) ∨ (55296 ≤ 64 * (64 * (64 * (b0 - 240) + (b1 - 128)) + (b2 - 128)) + (b3 - 128) ∧ 64 * (64 * (64 * (b0 - 240) + (b1 - 128)) + (b2 - 128)) + (b3 - 128) ≤ 57343) then (65533, 1)
      else (64 * (64 * (64 * (b0 - 240) + (b1 - 128)) + (b2 - 128)) + (b3 - 128), 4)) else (65533, 1) := by
    unfold decodeN
    repeat' split
    all_goals first | rfl | (exfalso; omega) | (refine Prod.ext ?_ rfl; simp only []; omega)
  unfold lN
  rw [key]
  split
  · split
    · rw [if_pos ⟨rfl, rfl⟩]
    · rw [if_neg (by simp only []; omega)]
  · rw [if_pos ⟨rfl, rfl⟩]




/-- The letter at a place. -/
def ltr (s : ByteArray) (p : Nat) : Nat × Nat := lN (s.size - p) (bt s p) (bt s (p + 1)) (bt s (p + 2)) (bt s (p + 3))
set_option maxRecDepth 100000 in
theorem ltr_decode (s : ByteArray) (p : Nat) : ltr s p = if (Utf8.decode s p).1 = 65533 ∧ (Utf8.decode s p).2 = 1 then (0, 0) else ((Utf8.decode s p).2, (Utf8.decode s p).1) := by
  rw [decode_at]; rfl
set_option maxRecDepth 100000 in
theorem width_le (s : ByteArray) (p : Nat) (h : p < s.size) : p + (Utf8.decode s p).2 ≤ s.size := by
  have h1 := decodeL_le (s.data.toList.drop p) (by intro e; have := congrArg List.length e; rw [List.length_drop, ← size_eq] at this; simp at this; omega)
  rw [decodeL_drop, List.length_drop, ← size_eq] at h1
  omega

/-- Is what is left a value's letters? -/
def vl (s : ByteArray) : Nat → Nat → Bool
  | 0, _ => true
  | f + 1, p => if p < s.size then (if (ltr s p).1 = 0 ∨ (ltr s p).2 < 32 then false else vl s f (p + (ltr s p).1)) else true
/-- No letter is below 32. -/
def rl (s : ByteArray) : Nat → Nat → Bool
  | 0, _ => true
  | f + 1, p => if p < s.size then (if (Utf8.decode s p).1 < 32 then false else rl s f (p + (Utf8.decode s p).2)) else true
def Vl (s : ByteArray) : Bool := decide (s.size ≤ 1024) && vl s s.size 0
set_option maxRecDepth 100000 in
theorem rl_end (s : ByteArray) (f p : Nat) (h : ¬ p < s.size) : rl s f p = true := by
  cases f with
  | zero => rfl
  | succ f => unfold rl; rw [if_neg h]
set_option maxRecDepth 100000 in
theorem vl_end (s : ByteArray) (f p : Nat) (h : ¬ p < s.size) : vl s f p = true := by
  cases f with
  | zero => rfl
  | succ f => unfold vl; rw [if_neg h]
set_option maxRecDepth 100000 in
theorem vl_eq (s : ByteArray) : ∀ f p, s.size ≤ p + f → vl s f p = (validD (s.data.toList.drop p) && rl s f p)
  | 0, p, h => by
    have : s.data.toList.drop p = [] := List.drop_eq_nil_of_le (by rw [← size_eq]; omega)
    rw [this]; rfl
  | f + 1, p, h => by
    by_cases hp : p < s.size
    · have hne : s.data.toList.drop p ≠ [] := by intro e; have := congrArg List.length e; rw [List.length_drop, ← size_eq] at this; simp at this; omega
      have hw := decode_width_pos s p hp
      have hv := validD_step _ hne
      rw [decodeL_drop, List.drop_drop] at hv
      unfold vl rl
      rw [if_pos hp, if_pos hp, hv, ltr_decode]
      by_cases hb : (Utf8.decode s p).1 = 65533 ∧ (Utf8.decode s p).2 = 1
      · rw [if_pos hb, if_pos hb, if_pos (.inl rfl)]; rfl
      · rw [if_neg hb, if_neg hb]
        by_cases h32 : (Utf8.decode s p).1 < 32
        · rw [if_pos (.inr h32), if_pos h32, Bool.and_false]
        · rw [if_neg (by simp only []; omega), if_neg h32]
          exact vl_eq s f _ (by omega)
    · have : s.data.toList.drop p = [] := List.drop_eq_nil_of_le (by rw [← size_eq]; omega)
      rw [vl_end s _ p hp, rl_end s _ p hp, this]; rfl
set_option maxRecDepth 100000 in
theorem Vl_eq (s : ByteArray) : Vl s = (decide (s.size ≤ 1024) && (validD s.data.toList && rl s s.size 0)) := by
  unfold Vl
  rw [vl_eq s s.size 0 (by omega), List.drop_zero]

/-- The place behind so many letters. -/
def stp (s : ByteArray) : Nat → Nat
  | 0 => 0
  | k + 1 => stp s k + (Utf8.decode s (stp s k)).2
/-- So many letters stand there, at least. -/
def Has (s : ByteArray) (k : Nat) : Prop := ∀ i, i < k → stp s i < s.size
/-- So many letters has a text. -/
def Ct (s : ByteArray) (k : Nat) : Prop := Has s k ∧ s.size ≤ stp s k
set_option maxRecDepth 100000 in
theorem Has.le {s : ByteArray} {k : Nat} (h : Has s k) {j : Nat} (hj : j ≤ k) : Has s j := fun i hi => h i (by omega)
set_option maxRecDepth 100000 in
theorem Has.stp_le {s : ByteArray} : ∀ {k : Nat}, Has s k → stp s k ≤ s.size
  | 0, _ => Nat.zero_le _
  | k + 1, h => width_le s _ (h k (by omega))
set_option maxRecDepth 100000 in
theorem Has.ge {s : ByteArray} : ∀ {k : Nat}, Has s k → k ≤ stp s k
  | 0, _ => Nat.zero_le _
  | k + 1, h => by
    have h1 := Has.ge (h.le (Nat.le_succ k))
    have h2 := decode_width_pos s _ (h k (by omega))
    show k + 1 ≤ stp s k + _
    omega
set_option maxRecDepth 100000 in
theorem Has.next {s : ByteArray} {k : Nat} (h : Has s k) (hk : stp s k < s.size) : Has s (k + 1) := fun i hi => by
  by_cases e : i = k
  · exact e ▸ hk
  · exact h i (by omega)
set_option maxRecDepth 100000 in
theorem Has.mono {s : ByteArray} {k : Nat} (h : Has s k) : ∀ {j : Nat}, j < k → stp s j < stp s (j + 1) := fun {j} hj => by
  have h2 := decode_width_pos s _ (h j hj)
  show _ < stp s j + _
  omega
set_option maxRecDepth 100000 in
theorem Has.lt {s : ByteArray} {k : Nat} (h : Has s k) (j : Nat) (hj : j < k) : stp s j < stp s k := by
  have key : ∀ d, j + 1 + d ≤ k → stp s j < stp s (j + 1 + d) := by
    intro d
    induction d with
    | zero => intro hd; exact h.mono hj
    | succ d ih =>
      intro hd
      have h1 := ih (by omega)
      have h2 := h.mono (show j + 1 + d < k by omega)
      exact Nat.lt_trans h1 h2
  have := key (k - (j + 1)) (by omega)
  rwa [show j + 1 + (k - (j + 1)) = k by omega] at this
set_option maxRecDepth 100000 in
theorem Ct.eq {s : ByteArray} {k j : Nat} (h : Ct s k) (h' : Ct s j) : k = j := by
  rcases Nat.lt_trichotomy k j with e | e | e
  · have := h'.1 k e; have := h.2; omega
  · exact e
  · have := h.1 j e; have := h'.2; omega
/-- What a text's first letters are, and how many. -/
def Fst (s : ByteArray) (n : Int) (k : Nat) : Prop := Has s k ∧ (k : Int) ≤ max n 0 ∧ ((k : Int) = max n 0 ∨ s.size ≤ stp s k)
set_option maxRecDepth 100000 in
theorem Fst.eq {s : ByteArray} {n : Int} {k j : Nat} (h : Fst s n k) (h' : Fst s n j) : k = j := by
  rcases Nat.lt_trichotomy k j with e | e | e
  · have := h'.1 k e; have := h.2.2; have := h'.2.1; omega
  · exact e
  · have := h.1 j e; have := h'.2.2; have := h.2.1; omega
set_option maxRecDepth 100000 in
theorem Fst.all {s : ByteArray} {n : Int} {k : Nat} (h : Fst s n k) (hn : (s.size : Int) < n) : Ct s k := by
  refine ⟨h.1, ?_⟩
  rcases h.2.2 with e | e
  · have h1 := h.1.ge
    have h2 := h.1.stp_le
    omega
  · exact e

set_option maxHeartbeats 4000000 in
set_option maxRecDepth 100000 in
theorem decodeN_less (n n' b0 b1 b2 b3 c1 c2 c3 : Nat) (hn : 1 ≤ n') (hnn : n' ≤ n) (hw : (decodeN n b0 b1 b2 b3).2 ≤ n')
    (e1 : 1 < n' → c1 = b1) (e2 : 2 < n' → c2 = b2) (e3 : 3 < n' → c3 = b3) : decodeN n' b0 c1 c2 c3 = decodeN n b0 b1 b2 b3 := by
  by_cases h1 : 1 < n'
  · have E1 := e1 h1
    subst E1
    by_cases h2 : 2 < n'
    · have E2 := e2 h2
      subst E2
      by_cases h3 : 3 < n'
      · have E3 := e3 h3
        subst E3
        unfold decodeN at hw ⊢
        repeat' split at hw
        all_goals (repeat' split)
        all_goals first | rfl | (exfalso; simp only [] at hw; omega)
      · unfold decodeN at hw ⊢
        repeat' split at hw
        all_goals (repeat' split)
        all_goals first | rfl | (exfalso; simp only [] at hw; omega)
    · unfold decodeN at hw ⊢
      repeat' split at hw
      all_goals (repeat' split)
      all_goals first | rfl | (exfalso; simp only [] at hw; omega)
  · unfold decodeN at hw ⊢
    repeat' split at hw
    all_goals (repeat' split)
    all_goals first | rfl | (exfalso; simp only [] at hw; omega)
set_option maxRecDepth 100000 in
theorem get_extract (s : ByteArray) (P i : Nat) (hi : i < P) : (s.extract 0 P).get! i = s.get! i := by
  rw [← getD_get!', ← getD_get!', extract_data, List.drop_zero, Nat.sub_zero]
  simp [List.getD, hi]
set_option maxRecDepth 100000 in
theorem size_extract (s : ByteArray) (P : Nat) (hP : P ≤ s.size) : (s.extract 0 P).size = P := by
  rw [size_eq, extract_data, List.drop_zero, Nat.sub_zero, List.length_take, ← size_eq]; omega
set_option maxRecDepth 100000 in
theorem decode_extract (s : ByteArray) (P q : Nat) (hP : P ≤ s.size) (hq : q < P) (hw : q + (Utf8.decode s q).2 ≤ P) : Utf8.decode (s.extract 0 P) q = Utf8.decode s q := by
  rw [decode_at] at hw
  rw [decode_at, decode_at, size_extract s P hP, get_extract s P q hq]
  exact decodeN_less _ _ _ _ _ _ _ _ _ (by omega) (by omega) (by omega) (fun h => by rw [get_extract s P _ (by omega)]) (fun h => by rw [get_extract s P _ (by omega)]) (fun h => by rw [get_extract s P _ (by omega)])
set_option maxRecDepth 100000 in
theorem stp_extract {s : ByteArray} {k : Nat} (h : Has s k) : ∀ j, j ≤ k → stp (s.extract 0 (stp s k)) j = stp s j
  | 0, _ => rfl
  | j + 1, hj => by
    have ih := stp_extract h j (by omega)
    have h1 := h.lt j (by omega)
    have h2 : stp s (j + 1) ≤ stp s k := by
      by_cases e : j + 1 = k
      · rw [e]; exact Nat.le_refl _
      · exact Nat.le_of_lt (h.lt (j + 1) (by omega))
    show stp (s.extract 0 (stp s k)) j + (Utf8.decode (s.extract 0 (stp s k)) (stp (s.extract 0 (stp s k)) j)).2 = stp s j + (Utf8.decode s (stp s j)).2
    rw [ih, decode_extract s _ _ h.stp_le h1 h2]
set_option maxRecDepth 100000 in
/-- The first letters of a text are so many. -/
theorem Has.cut {s : ByteArray} {k : Nat} (h : Has s k) : Ct (s.extract 0 (stp s k)) k := by
  have hz := size_extract s _ h.stp_le
  refine ⟨fun i hi => ?_, ?_⟩
  · rw [stp_extract h i (by omega), hz]; exact h.lt i hi
  · rw [stp_extract h k (Nat.le_refl _), hz]; exact Nat.le_refl _
set_option maxRecDepth 100000 in
theorem Ct.whole {s : ByteArray} {k : Nat} (h : Ct s k) : stp s k = s.size := Nat.le_antisymm h.1.stp_le h.2
end Go.Proofs.YthjjonbkfkpkmaaDoor.Tg
