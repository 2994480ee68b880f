import Derived.Test.YtbhlnemahhndoaaGreatDoorLaw
import Derived.BigQuiet
import Derived.Deep.QuietTactic
namespace Go.Proofs.YtbhlnemahhndoaaGreatDoor
open Go.RowKit

/-- the worlds that have what W has -/
def Under (W : World) : Type := {u : World // Below W.heap.size W u}
instance underOne (W : World) : Nonempty (Under W) := ⟨⟨W, Below.refl _ _⟩⟩
def Under.at {W : World} (x : Under W) : World := x.1
theorem Under.ok {W : World} (x : Under W) : Below W.heap.size W x.at := x.2
/-- a region whose callees make memory, but leave what W has: one walk, in the text's order -/
theorem wp_region_under {P : Program} {id : Nat} {Q : Exit → Act → World → Prop} {a : Act} {w : World} {l : List Oper} (W : World) (hm : P.follows .mixedOrders = true) (hB : Region.lexB .any l.toArray = true) (hW : Below W.heap.size W w)
    (h : wpQuiet P l.toArray (fun w' => ∃ x : Under W, w' = x.at) (fun a' => ∀ w', (∃ x : Under W, w' = x.at) → Q .normal a' w') l a) : (Code.region id l.toArray true).wp P Q a w :=
  wp_region_quiet (C := fun w' => ∃ x : Under W, w' = x.at) hm hB ⟨⟨_, hW.drew⟩, rfl⟩ (by simpa using h)
theorem under_call {P : Program} {f : FuncId} {args : Array Value} {W : World} {x : Under W} {v : Value} (h : Calls P f args x.at fun e w' => e = .returned v ∧ Below x.at.heap.size x.at w') :
    Calls P f args x.at fun e w'' => e = .returned v ∧ ∃ y : Under W, w'' = y.at := h.mono fun _ w' ⟨he, hb⟩ => ⟨he, ⟨w', behind x.ok hb⟩, rfl⟩
theorem keep_cell {w w2 : World} {p : Addr} {v : Value} (hb : Below w.heap.size w w2) (h : w.cell? p = some v) : w2.cell? p = some v := (hb.cell (World.block_lt_of_cell? w p h)).trans h
theorem under_cell {W : World} {p : Addr} {v : Value} (h : W.cell? p = some v) : ∀ x : Under W, x.at.cell? p = some v := fun x => keep_cell x.ok h
end Go.Proofs.YtbhlnemahhndoaaGreatDoor
