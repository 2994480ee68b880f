import Derived.Test.YtobafhjhholpgaaGreatDoorFind
namespace Go.Proofs.YtobafhjhholpgaaGreatDoor
open Go.RowKit
set_option maxRecDepth 100000

theorem named_c (n : ByteArray) (w : World) : Calls Tryz.prog 82 #[.string n] w fun e w' => e = .returned (.func (Fn.func 128) #[] #[.pointer (some ⟨w.heap.size, 0, none⟩)]) ∧ w' = w.alloc (.cells #[.string n] 9) := by
  go_enter Tryz.func82, Tryz.ntmps82
  go_wp2
  go_ret
  exact ⟨rfl, rfl⟩

end Go.Proofs.YtobafhjhholpgaaGreatDoor
