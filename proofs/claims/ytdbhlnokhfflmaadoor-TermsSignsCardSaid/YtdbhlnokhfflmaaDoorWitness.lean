import Derived.Test.YtdbhlnokhfflmaaDoorLaw
import Derived.Deep.DeepHandedRow
import Derived.Lib.LaidTab
namespace Go.Proofs.YtdbhlnokhfflmaaDoor
open Go.ChangeShapes Go.WideShapes Go.ChangeAt Go.RowKit

/-- a block that holds the cells vs -/
def lay (vs : Array Value) : Obj → Obj
  | .cells _ t frozen => .cells vs t frozen
  | o => o
/-- cells of bytes -/
def bytesOf (l : List Int) : Array Value := (l.map fun n => Value.int .u8 n).toArray
/-- what unicode/utf8.first and unicode/utf8.acceptRanges hold, cell by cell -/
def firstCells : Array Value := bytesOf (Go.Pinned.utf8FirstZ.map Int.ofNat)
def acceptCells : Array Value := bytesOf ([128, 191, 160, 191, 128, 159, 144, 191, 128, 143] ++ List.replicate 22 0)
/-- what terms' forms hold -/
def formCells : Array Value := #[.bool false, .bool false, .bool true, .bool false, .bool false, .bool true]
/-- a world for the witness: the two tables and the forms hold what their initialisers lay -/
noncomputable def laidWorld (os : Os) : World :=
  { World.holding Tryd.prog os ⟨#[], #[], []⟩ with heap := (((World.holding Tryd.prog os ⟨#[], #[], []⟩).heap.modify 2 (lay firstCells)).modify 3 (lay acceptCells)).modify 0 (lay formCells) }
theorem laid_met (os : Os) : laidMet Tryd.prog Rows.termsKeysRow.laid ((laidWorld os).forCall (fun _ _ => 0) ⟨#[], #[.string ⟨#[]⟩], []⟩).memory :=
  laidMet_of_run' 8 (by kernel_rfl) (by kernel_rfl)
end Go.Proofs.YtdbhlnokhfflmaaDoor
