/- A part of a list, and the function that Cut hands on. Conditions: the part lies in the list, the list in its room. -/
import Derived.Test.YtfidnklppbdebaaKa
namespace Go.Proofs.Ytfidnklppbdebaa.Pcm
open Go.RowKit Gen

def cutA (a : Option Addr) (cap l : Nat) : Option Addr := if cap = l then a else a.map (·.add (l * 1))
theorem cut_isb {W : World} {a : Option Addr} {len b o cap l h : Nat} {X : Nat → Int} (hi : Isb W a len b o X) (h1 : l ≤ h) (h2 : h ≤ len) (h3 : len ≤ cap) : Isb W (cutA a cap l) (h - l) b (o + l) (fun j => X (l + j)) := by
  refine ⟨fun hp => ?_, fun j hj => ?_, fun hp => hi.lt (by omega), by have := hi.hl; omega⟩
  · unfold cutA
    rw [if_neg (by omega), hi.addr (by omega), Nat.mul_one, Option.map_some, Addr.add_lit]
  · have := hi.c (l + j) (by omega)
    rw [show o + l + j = o + (l + j) by omega]
    exact this
theorem cut_run (a : Option Addr) (len cap l h : Nat) (h1 : l ≤ h) (h3 : h ≤ cap) : ∀ W, (Instr.sliceAt 42 (.slice a len cap) (some (.int .i64 (l : Int))) (some (.int .i64 (h : Int))) none).run Try.prog W = .ok (.slice (cutA a cap l) (h - l) (cap - l)) W := fun W => by
  have ht : Try.prog.underlying 42 = some (.slice (Try.prog.elem 42)) := by kernel_rfl
  have he : Try.prog.elem 42 = 3 := by kernel_rfl
  rw [run_sliceAt_slice W 42 _ _ _ _ ht, run_slice_lh W 42 a len cap ht .i64 .i64 l h (by omega) (by omega) (by omega), he]
  have hs : Try.t3.size = 1 := by kernel_rfl
  simp [sizeOf, hs, sliced, cutA, Result.andThen]

set_option maxHeartbeats 1600000 in
set_option maxRecDepth 100000 in
theorem cut1_any (w : World) (i p q r f t : Nat) (d : Dat) (hp : Bx w p d) (hd : Snd w d) (hi : i < d.n) (hq : w.cell? ⟨q, 0, none⟩ = some (.int .i64 (f : Int))) (hr : w.cell? ⟨r, 0, none⟩ = some (.int .i64 (t : Int)))
    (h1 : f ≤ t) (h2 : t ≤ d.ln i) (h3 : d.ln i ≤ d.lc i) (h4 : t ≤ 4294967296) :
    Calls Try.prog 38 (#[.int .i64 (i : Int)] ++ #[.pointer (some ⟨p, 0, none⟩), .pointer (some ⟨q, 0, none⟩), .pointer (some ⟨r, 0, none⟩)]) w (NewPost w (t - f) (fun j => d.X i (f + j))) := by
  show Calls Try.prog 38 #[.int .i64 (i : Int), .pointer (some ⟨p, 0, none⟩), .pointer (some ⟨q, 0, none⟩), .pointer (some ⟨r, 0, none⟩)] w _
  obtain ⟨b1, o1, hl1⟩ := hd.l i hi
  have c3 := hp.c3
  have d1 := hd.c i hi
  have e1 := hd.addr (by omega)
  rw [e1] at c3
  have n1 : (i : Int) < (d.n : Int) := by omega
  have hci := cut_isb hl1 h1 h2 h3
  have HC := hid fun w' (hb : Below w.heap.size w w') => clone_any w' (cutA (d.la i) (d.lc i) f) (t - f) (d.lc i - f) b1 (o1 + f) (fun j => d.X i (f + j)) (hci.below hb hci.lt) (by omega)
  have hsl := cut_run (d.la i) (d.ln i) (d.lc i) f t h1 (by omega)
  generalize cutA (d.la i) (d.lc i) f = A at *
  have s1 : w.drew.cell? ⟨p, 3, none⟩ = some (.slice (some ⟨d.b, d.off, none⟩) d.n d.cap) ∧ w.drew.cell? ⟨d.b, d.off + i, none⟩ = some (.slice (d.la i) (d.ln i) (d.lc i)) ∧ w.drew.cell? ⟨q, 0, none⟩ = some (.int .i64 (f : Int)) ∧ w.drew.cell? ⟨r, 0, none⟩ = some (.int .i64 (t : Int)) := ⟨c3, d1, hq, hr⟩
  have HS := hid fun w' (hb : Below w.heap.size w w') => And.intro ((hb.cell (p := ⟨p, 3, none⟩) (World.block_lt_of_cell? _ _ c3)).trans c3) (And.intro ((hb.cell (p := ⟨d.b, d.off + i, none⟩) (World.block_lt_of_cell? _ _ d1)).trans d1) (And.intro ((hb.cell (p := ⟨q, 0, none⟩) (World.block_lt_of_cell? _ _ hq)).trans hq) ((hb.cell (p := ⟨r, 0, none⟩) (World.block_lt_of_cell? _ _ hr)).trans hr)))
  have bd : Below w.heap.size w w.drew := ⟨rfl, rfl, rfl, Nat.le_refl _, fun _ _ => rfl⟩
  clear hp hd hl1 hci e1 c3 d1 hq hr h2 h3 h4
  go_enter Try.func38, Try.ntmps38
  go_wp2_with fail
  go_region_held3 (fun w' => w'.cell? ⟨p, 3, none⟩ = some (.slice (some ⟨d.b, d.off, none⟩) d.n d.cap) ∧ w'.cell? ⟨d.b, d.off + i, none⟩ = some (.slice (d.la i) (d.ln i) (d.lc i)) ∧ w'.cell? ⟨q, 0, none⟩ = some (.int .i64 (f : Int)) ∧ w'.cell? ⟨r, 0, none⟩ = some (.int .i64 (t : Int)))
    (first | exact s1 | exact s2 | go_keep)
    ((first | (go_at_call 39; (with_reducible refine (HC.out _ bd).mono ?_); rintro e w3 ⟨lo, lcap, rfl, hn3, hb3⟩; have b3 := bd.trans hb3; have s2 := HS.out _ b3)))
  have HN := hid hn3
  have HB := hid b3
  clear hn3 b3 hb3 s1 s2 bd
  go_wp2_with fail
  go_ret
  exact ⟨_, _, rfl, HN.out.mono (Nat.le_refl _), HB.out⟩
end Go.Proofs.Ytfidnklppbdebaa.Pcm
