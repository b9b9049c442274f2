/- The function that Join hands on. Conditions: both sounds' boxes. -/
import Derived.Test.YtfidnklppbdebaaJb
namespace Go.Proofs.Ytfidnklppbdebaa.Pcm
open Go.RowKit Gen

set_option maxHeartbeats 800000 in
set_option maxRecDepth 100000 in
theorem join1_any (w : World) (i p q : Nat) (a b : Dat) (hp : Bx w p a) (hq : Bx w q b) (ha : Snd w a) (hb : Snd w b) (hi : i < a.n) (hj : i < b.n) (h1 : a.ln i ≤ 4294967296) (h2 : b.ln i ≤ 4294967296) :
    Calls Try.prog 41 (#[.int .i64 (i : Int)] ++ #[.pointer (some ⟨p, 0, none⟩), .pointer (some ⟨q, 0, none⟩)]) w fun e w' => ∃ lo lcap, e = .returned (.slice lo (a.ln i + b.ln i) lcap) ∧ NewIs w.heap.size w' lo (a.ln i + b.ln i) (cat (a.X i) (b.X i) (a.ln i)) ∧ Below w.heap.size w w' := by
  show Calls Try.prog 41 #[.int .i64 (i : Int), .pointer (some ⟨p, 0, none⟩), .pointer (some ⟨q, 0, none⟩)] w _
  obtain ⟨b1, o1, hl1⟩ := ha.l i hi
  obtain ⟨b2, o2, hl2⟩ := hb.l i hj
  have c1 := hp.c3
  have c2 := hq.c3
  have d1 := ha.c i hi
  have d2 := hb.c i hj
  have e1 := ha.addr (by omega)
  have e2 := hb.addr (by omega)
  have n1 : (i : Int) < (a.n : Int) := by omega
  have n2 : (i : Int) < (b.n : Int) := by omega
  rw [e1] at c1
  rw [e2] at c2
  have HC : Hid (Calls Try.prog 42 #[.slice (some ⟨w.heap.size, 0, none⟩) 2 2] (w.alloc (.cells #[.slice (a.la i) (a.ln i) (a.lc i), .slice (b.la i) (b.ln i) (b.lc i)] 42)).drew fun e w' => ∃ lo lcap, e = .returned (.slice lo (a.ln i + b.ln i) lcap) ∧ NewIs w.heap.size w' lo (a.ln i + b.ln i) (cat (a.X i) (b.X i) (a.ln i)) ∧ Below w.heap.size w w') := by
    have hbw : Below w.heap.size w (w.alloc (.cells #[.slice (a.la i) (a.ln i) (a.lc i), .slice (b.la i) (b.ln i) (b.lc i)] 42)).drew := ((Below.refl _ _).alloc (Nat.le_refl _) _).drew
    have hc : ∀ j (v : Value), (#[.slice (a.la i) (a.ln i) (a.lc i), .slice (b.la i) (b.ln i) (b.lc i)] : Array Value)[j]? = some v → (w.alloc (.cells #[.slice (a.la i) (a.ln i) (a.lc i), .slice (b.la i) (b.ln i) (b.lc i)] 42)).drew.cell? ⟨w.heap.size, j, none⟩ = some v := fun j v hv => by
      exact (World.cell?_alloc_at _ _ _ _ rfl).trans hv
    have hk := concat_any (w.alloc (.cells #[.slice (a.la i) (a.ln i) (a.lc i), .slice (b.la i) (b.ln i) (b.lc i)] 42)).drew w.heap.size (fun k => if k = 0 then a.la i else b.la i) (fun k => if k = 0 then a.ln i else b.ln i) (fun k => if k = 0 then a.lc i else b.lc i) (fun k => if k = 0 then b1 else b2) (fun k => if k = 0 then o1 else o2) (fun k => if k = 0 then a.X i else b.X i) (by simp)
      (fun k hk => by match k, hk with
        | 0, _ => exact hc 0 _ rfl
        | 1, _ => exact hc 1 _ rfl)
      (fun k hk => by match k, hk with
        | 0, _ => exact hl1.below hbw hl1.lt
        | 1, _ => exact hl2.below hbw hl2.lt)
      (fun k hk => by match k, hk with
        | 0, _ => exact h1
        | 1, _ => exact h2)
    refine hid (hk.mono ?_)
    rintro e w' ⟨lo, lcap, rfl, hn, hb'⟩
    have e0 : sl (fun k => if k = 0 then a.ln i else b.ln i) 2 = a.ln i + b.ln i := by simp [sl]
    rw [e0] at hn ⊢
    exact ⟨lo, lcap, rfl, hn.mono (by simp), hbw.trans (hb'.mono (by simp))⟩
  have c1' : w.drew.cell? ⟨p, 3, none⟩ = some (.slice (some ⟨a.b, a.off, none⟩) a.n a.cap) := c1
  have c2' : w.drew.cell? ⟨q, 3, none⟩ = some (.slice (some ⟨b.b, b.off, none⟩) b.n b.cap) := c2
  have d1' : w.drew.cell? ⟨a.b, a.off + i, none⟩ = some (.slice (a.la i) (a.ln i) (a.lc i)) := d1
  have d2' : w.drew.cell? ⟨b.b, b.off + i, none⟩ = some (.slice (b.la i) (b.ln i) (b.lc i)) := d2
  clear c1 c2 d1 d2 hp hq ha hb hl1 hl2 e1 e2
  go_enter Try.func41, Try.ntmps41
  go_wp2_with fail
  go_region_with ((first | ((with_reducible refine (HC.out).mono ?_); rintro e w3 ⟨lo, lcap, rfl, hnew, hb3⟩)))
  all_goals
    go_wp2_with fail
    go_ret
    exact ⟨_, _, rfl, hnew, hb3⟩
end Go.Proofs.Ytfidnklppbdebaa.Pcm
