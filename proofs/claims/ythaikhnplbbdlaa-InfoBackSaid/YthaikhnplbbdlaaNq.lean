/- A region that draws its order, whose operations only read and whose callees leave all that was there as it was (they may make memory, and draw), walked once, in the order of the text. No program in it; no condition but those that each lemma names. -/
import Derived.Test.YthaikhnplbbdlaaNk
import Derived.BigQuiet
import Derived.Deep.QuietTactic
namespace Go.Proofs.Ythaikhnplbbdlaa.Inf
open Go.RowKit Gen Fld

/-- A world in which all of w stands. -/
structure Kp (w : World) where
  w' : World
  h : Fr (fun _ => False) w w'

instance (w : World) : Inhabited (Kp w) := ⟨⟨w, Fr.refl _ _⟩⟩

theorem fr_of_below {w w' : World} (hb : Below w.heap.size w w') : Fr (fun _ => False) w w' := ⟨hb.os, hb.tape, hb.output, hb.size, fun k hk _ => hb.block k hk⟩
theorem below_of_fr {w w' : World} (hb : Fr (fun _ => False) w w') : Below w.heap.size w w' := ⟨hb.os, hb.tape, hb.output, hb.size, fun k hk => hb.block k hk (fun x => x)⟩
theorem wp_region_quiet_kp {P : Program} {id : Nat} {Q : Exit → Act → World → Prop} {a : Act} {w : World} {l : List Oper} (hm : P.follows .mixedOrders = true) (hB : Region.lexB .any l.toArray = true)
    (h : wpQuiet P l.toArray (fun w' => ∃ p : Kp w, w' = p.w') (fun a' => ∀ w', (∃ p : Kp w, w' = p.w') → Q .normal a' w') l a) : (Code.region id l.toArray true).wp P Q a w :=
  wp_region_quiet (C := fun w' => ∃ p : Kp w, w' = p.w') hm hB ⟨⟨w.drew, (Fr.refl _ _).drew⟩, rfl⟩ (by simpa using h)
theorem kp_same {P : Program} {f : FuncId} {args : Array Value} {w : World} {p : Kp w} {v : Value} (h : Calls P f args p.w' fun e w'' => e = .returned v ∧ p.w' = w'') :
    Calls P f args p.w' fun e w'' => e = .returned v ∧ ∃ p' : Kp w, w'' = p'.w' :=
  h.mono fun _ _ ⟨he, hf⟩ => ⟨he, p, hf.symm⟩
theorem kp_below {P : Program} {f : FuncId} {args : Array Value} {w : World} {p : Kp w} {v : Value} (h : Calls P f args p.w' fun e w'' => e = .returned v ∧ Below p.w'.heap.size p.w' w'') :
    Calls P f args p.w' fun e w'' => e = .returned v ∧ ∃ p' : Kp w, w'' = p'.w' :=
  h.mono fun _ w'' ⟨he, hf⟩ => ⟨he, ⟨w'', p.h.trans (fr_of_below hf)⟩, rfl⟩
end Go.Proofs.Ythaikhnplbbdlaa.Inf
