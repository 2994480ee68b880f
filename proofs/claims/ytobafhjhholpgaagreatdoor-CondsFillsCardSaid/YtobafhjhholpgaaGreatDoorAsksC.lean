import Derived.Test.YtobafhjhholpgaaGreatDoorIns
import Derived.Test.YtobafhjhholpgaaGreatDoorUnder
import Derived.Test.YtobafhjhholpgaaGreatDoorGet
import Derived.StringKeys
namespace Go.Proofs.YtobafhjhholpgaaGreatDoor
open Go.RowKit Go.Maps
set_option maxRecDepth 100000

theorem key_k : Keyed Tryz.prog 9 := string_keyed Tryz.underlying9
theorem key_of (s : ByteArray) (h : s.size ≤ maxLen) : keyOf Tryz.prog 9 (.string s) = some (.string s.data.toList)  := Go.WideMaps.keyOf_string_mk Tryz.underlying9 h

theorem laid_cell (w : World) (n : Nat) (hn : w.heap.size = n) (x : Value) (t : TypeId) : (w.alloc (.cells #[x] t)).cell? ⟨n, 0, none⟩ = some x := by
  subst hn; rw [World.cell?_alloc_new]; rfl
theorem grown_cell {w w' : World} {r : Nat} (g : w.grownBy w' (some r)) {p : Addr} {v : Value} (h : w.cell? p = some v) (hne : p.block ≠ r) : w'.cell? p = some v := by
  have e := g.block p.block (World.block_lt_of_cell? w p h) (fun e => hne (Option.some.inj e))
  rw [← h]
  unfold World.cell?
  rw [e]

end Go.Proofs.YtobafhjhholpgaaGreatDoor
