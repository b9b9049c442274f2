/- slices.Clone of a list. Condition: a list of at most 2^32 numbers. -/
import Derived.Test.YtfidnklppbdebaaJg
import Derived.Laws.Cover3
namespace Go.Proofs.Ytfidnklppbdebaa.Pcm
open Go.RowKit Gen

theorem eql_nil (a : Option Addr) (n c : Nat) : ∀ W, (binOp .eql 42 (.slice a n c) (.slice none 0 0)).run Try.prog W = .ok (.bool a.isNone) W := fun W => by simp [binOp, run_equal_slice_nil W 42 3 a n c Try.underlying42]
/-- What is answered with a list in new memory. -/
def NewPost (w : World) (n : Nat) (X : Nat → Int) (e : Ending) (w' : World) : Prop := ∃ lo lcap, e = .returned (.slice lo n lcap) ∧ NewIs w.heap.size w' lo n X ∧ Below w.heap.size w w'

set_option maxHeartbeats 800000 in
theorem clone_any (w : World) (ao : Option Addr) (n cap b o : Nat) (X : Nat → Int) (h : Isb w ao n b o X) (hn : n ≤ 4294967296) : Calls Try.prog 39 #[.slice ao n cap] w (NewPost w n X) := by
  obtain ⟨i0, hi, hz0, hz1, hz2⟩ := info_parts Try.info3
  cases ao with
  | none =>
    obtain rfl := isb_none h rfl
    clear h
    have heq := eql_nil none 0 cap
    go_enter Try.func39, Try.ntmps39
    go_wp2_with fail
    go_ret
    exact ⟨none, 0, rfl, ⟨0, 0, isb_nil w X, fun h => absurd h (Nat.lt_irrefl 0)⟩, Below.refl _ _⟩
  | some ad =>
    have hbW : Below w.heap.size w (w.alloc (.cells #[] 3)) := below_new _ _
    have hown1 : (w.alloc (.cells #[] 3)).ownsRow w.heap.size 3 1 (.slice (some ⟨w.heap.size, 0, none⟩) 0 0) 0 [] := World.ownsRow_made w #[] 0 (Nat.le_refl _) (Nat.zero_le _) rfl
    have HI1 := hid (h.below hbW h.lt)
    clear h
    have heq := eql_nil (some ad) n cap
    go_enter Try.func39, Try.ntmps39
    go_wp2_with (at_builtin; go_must (refine wpList_append_src _ rfl (.tmp 5) (.tmp 6) 42 rfl w.heap.size 3 i0 (.int .i64 0) 8 Try.underlying42 hi hz0 hz1 hz2 rfl (some ⟨w.heap.size, 0, none⟩) 0 0 [] rfl hown1 (some ad) n cap (vl X n) rfl (vl_len _ _) (isb_none HI1.out) (vl_cells HI1.out) (vl_one _ _) (by unfold maxLen; omega) (by omega) hbW.size ?_))
    intro ao2 cap2 w2 hown2 hg2 _
    (try simp only [Nat.zero_add, List.nil_append] at hown2)
    have hb2 : Below w.heap.size w w2 := hbW.grown hg2 hbW.size (fun g hg => by simp [blk] at hg; omega)
    have hnew : NewIs w.heap.size w2 ao2 n X := own_new hown2 (fun j hj => vl_get _ hj) (by omega)
    have HN := hid hnew
    have HB := hid hb2
    clear hnew hb2 hown2 hg2 hown1 hbW
    (try simp only [Nat.zero_add])
    go_wp2_with fail
    go_ret
    exact ⟨_, _, rfl, HN.out, HB.out⟩
end Go.Proofs.Ytfidnklppbdebaa.Pcm
