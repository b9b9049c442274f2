/- Ints of the document, and Weave of pcm: all samples, frame by frame. Conditions: sound lies in memory as its lists. -/
import Derived.Test.YtkdpalmdcnpnoaaRk
import Derived.Laws.MakeOwn
namespace Go.Proofs.Ytkdpalmdcnpnoaa.Pcm
open Go.RowKit Gen

set_option maxRecDepth 20000 in
theorem Try.info3 : (Try.prog.info? 3).map (fun i => (i.zero, i.size, i.bytes)) = some (some (.int .i64 0), 1, 8) := by kernel_rfl

set_option maxRecDepth 20000 in
/-- Two lists that have the same numbers are the same. -/
theorem ints_any (w : World) (a a' : Option Addr) (len cap cap' b off b' off' : Nat) (U V : Nat → Int) (h : Isb w a len b off U) (h' : Isb w a' len b' off' V) (he : ∀ i, i < len → U i = V i) :
    Calls Try.prog 47 #[.slice a len cap, .slice a' len cap'] w fun e w' => e = .returned (.bool true) ∧ Fr (fun _ => False) w w' := by
  have H := hid h
  have H' := hid h'
  have HE := hid he
  have hl := h.hl
  clear h h' he
  go_enter Try.func47, Try.ntmps47
  go_wp2_with fail
  go_loopg [5] len (fun g i wr => ∃ j : Nat, j ≤ len ∧ g = len - j ∧ i = .int .i64 j ∧ Fr (fun _ => False) w wr)
  case atStart => exact ⟨0, Nat.zero_le _, rfl, rfl, Fr.refl _ _⟩
  case round =>
    obtain ⟨j, hj, hg, rfl, hf⟩ := hrel
    have HG := hid hg
    clear hg
    by_cases hlt : j < len
    · have hlt2 : (j : Int) < (len : Int) := by omega
      obtain rfl := H.out.addr (by omega)
      obtain rfl := H'.out.addr (by omega)
      have ck := (H.out.fr hf).c j hlt
      have ck' := (H'.out.fr hf).c j hlt
      rw [← HE.out j hlt] at ck'
      generalize U j = x at *
      go_wp2_with fail
      go_quiet (fail)
      have hf2 : Fr (fun _ => False) w (wr.drewN nq) := ⟨hf.os, hf.tape, hf.output, hf.size, hf.block⟩
      clear ck ck' hf
      go_wp2_with fail
      go_roundg (len - (j + 1))
      case measure => rw [HG.out]; omega
      case rel => exact ⟨j + 1, by omega, rfl, by go_num, hf2⟩
    · have hge : ¬ (j : Int) < (len : Int) := by omega
      obtain rfl : j = len := by omega
      go_wp2_with fail
      go_ret
      exact ⟨rfl, hf⟩

/-- Numbers of a function, as cells. -/
def ivs (f : Nat → Int) (len : Nat) : List Value := (List.range len).map fun t => .int .i64 (f t)
set_option maxRecDepth 20000 in
theorem ivs_succ (f : Nat → Int) (len : Nat) : ivs f (len + 1) = ivs f len ++ [.int .i64 (f len)] := by unfold ivs; rw [List.range_succ, List.map_append]; rfl
set_option maxRecDepth 20000 in
theorem ivs_len (f : Nat → Int) (len : Nat) : (ivs f len).length = len := by simp [ivs]
def Row (w : World) (B : Nat) (lo : Option Addr) (lcap : Nat) (f : Nat → Int) (len : Nat) : Prop := w.ownsRow B 3 1 (.slice lo len lcap) len (ivs f len)
set_option maxRecDepth 20000 in
theorem Row.isb {w : World} {B : Nat} {lo : Option Addr} {lcap len : Nat} {f : Nat → Int} (h : Row w B lo lcap f len) (hl : len ≤ 9223372036854775807) : ∃ b, Isb w lo len b 0 f := by
  rcases ownsRow_at h with ⟨_, h1, _, _⟩ | ⟨g, rfl⟩
  · exact ⟨0, fun h0 => by omega, fun i hi => by omega, fun h0 => by omega, hl⟩
  · refine ⟨g, fun _ => rfl, fun i hi => ?_, fun _ => (World.ownsRow.lt h g (by rw [ownBlock_slice]; rfl)).2, hl⟩
    rw [Nat.zero_add]
    exact ownsRow_cell h i _ (by simp [ivs, hi])
set_option maxRecDepth 20000 in
theorem Row.lt {w : World} {B : Nat} {lo : Option Addr} {lcap len : Nat} {f : Nat → Int} (h : Row w B lo lcap f len) : ∀ g, blk lo = some g → B ≤ g ∧ g < w.heap.size := fun g hg => World.ownsRow.lt h g (by rw [ownBlock_slice]; exact hg)
set_option maxRecDepth 20000 in
theorem rowblock {w w' : World} {base : Nat} {e : TypeId} {size : Nat} {ao : Option Addr} {n cap : Nat} {xs : List Value} (h : w.ownsRow base e size (.slice ao n cap) n xs)
    (hb : ∀ g, blk ao = some g → w'.heap[g]? = w.heap[g]?) : w'.ownsRow base e size (.slice ao n cap) n xs := by
  obtain ⟨hl, h⟩ := h
  rcases h with h | ⟨g, c, cur, hv, q1, q2, q3⟩
  · exact ⟨hl, .inl h⟩
  · refine ⟨hl, .inr ⟨g, c, cur, hv, q1, ?_, q3⟩⟩
    cases hv
    rw [hb g rfl]; exact q2
set_option maxRecDepth 20000 in
theorem Row.upto {w w' : World} {B : Nat} {lo : Option Addr} {lcap len : Nat} {f : Nat → Int} (h : Row w B lo lcap f len) (hb : Below w.heap.size w w') : Row w' B lo lcap f len := rowblock h fun g hg => hb.block g (h.lt g hg).2

/-- The samples, woven. -/
def Dat.wv (d : Dat) (t : Nat) : Int := d.X (t % d.n) (t / d.n)
def WeavePost (w : World) (d : Dat) (e : Ending) (w' : World) : Prop := ∃ (lo : Option Addr) (lcap len : Nat), len = (if d.chk = 0 then d.n * d.cnt else 0) ∧ e = .returned (.tuple #[.slice lo len lcap, .int .i64 d.chk]) ∧ Row w' w.heap.size lo lcap d.wv len ∧ Below w.heap.size w w'

set_option maxRecDepth 20000 in
/-- What right sound is like. -/
theorem chk_ok {d : Dat} (h : d.chk = 0) : d.f.right ∧ (d.n : Int) = d.f.ch ∧ d.n ≤ 8 ∧ 0 < d.n ∧ d.cnt ≤ 4294967295 ∧ (∀ i, i < d.n → d.ln i = d.cnt) ∧ d.far = false := by
  unfold Dat.chk at h
  by_cases hr : d.f.right
  · rw [if_neg (fun h => h hr)] at h
    by_cases hu : (d.n : Int) ≠ d.f.ch ∨ 4294967295 < d.cnt ∨ d.unlike = true
    · rw [if_pos hu] at h; cases h
    · rw [if_neg hu] at h
      have h1 : (d.n : Int) = d.f.ch := by
        rcases Int.lt_trichotomy (d.n : Int) d.f.ch with e | e | e
        · exact absurd (.inl (by omega)) hu
        · exact e
        · exact absurd (.inl (by omega)) hu
      have h2 : ¬ 4294967295 < d.cnt := fun e => hu (.inr (.inl e))
      have h3 : ∀ i, i < d.n → d.ln i = d.cnt := fun i hi => by
        by_cases e : d.ln i = d.cnt
        · exact e
        · exact absurd (.inr (.inr ((any_iff _ _).2 ⟨i, hi, bne_iff_ne.2 (by omega)⟩))) hu
      refine ⟨hr, h1, by have := hr.1; omega, by have := hr.1; omega, by omega, h3, ?_⟩
      cases hf : d.far with
      | false => rfl
      | true => rw [hf] at h; cases h
  · rw [if_pos hr] at h; cases h

/-- The row of the samples, and what stands beside it. -/
structure Wv (w wr : World) (p : Nat) (d : Dat) (lo : Option Addr) (lcap t : Nat) : Prop where
  row : Row wr w.heap.size lo lcap d.wv t
  far : blk lo ≠ some p
  bx : Bx wr p d
  below : Below w.heap.size w wr
set_option maxRecDepth 20000 in
theorem Wv.upto {w wr w' : World} {p : Nat} {d : Dat} {lo : Option Addr} {lcap t : Nat} (h : Wv w wr p d lo lcap t) (hb : Below wr.heap.size wr w') : Wv w w' p d lo lcap t :=
  ⟨h.row.upto hb, h.far, h.bx.below hb, h.below.trans (hb.mono h.below.size)⟩

end Go.Proofs.Ytkdpalmdcnpnoaa.Pcm
