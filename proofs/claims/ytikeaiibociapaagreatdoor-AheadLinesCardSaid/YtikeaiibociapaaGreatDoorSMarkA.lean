import Derived.Test.YtikeaiibociapaaGreatDoorMark
import Derived.Test.YtikeaiibociapaaGreatDoorSTwin
import Derived.Test.YtikeaiibociapaaGreatDoorLaw
import Derived.Laws.Rows
import Derived.Laws.Tables
namespace Go.Proofs.YtikeaiibociapaaGreatDoor.src
open Go.RowKit
set_option maxRecDepth 100000

/-- a mark as an attribute -/
def markA (i : Nat) : List Value := [.string (markT i), .string ⟨#[]⟩]

set_option maxHeartbeats 1000000 in
theorem markAttr_any (i : Nat) (hi : i < 100) (w : World) : Calls Tryz.prog 117 #[.int .i64 i] w fun e w' => e = .returned (.agg #[.string (markT i), .string ⟨#[]⟩]) ∧ Below w.heap.size w w' := by
  go_enter Tryz.func117, Tryz.ntmps117
  go_wp2_with (go_at_call 160; refine (word_any i hi _).mono ?_; rintro e w' ⟨rfl, rfl⟩)
  (try simp only [Exit.inBlock, Exit.then])
  refine bodyPost_ret (v := .agg #[.string (markT i), .string ⟨#[]⟩]) ?_ rfl ⟨rfl, (Below.refl _ _).alloc (Nat.le_refl _) _⟩
  exact results_cell_row rfl _ _ w.heap.size 69 #[.string (markT i), .string ⟨#[]⟩] (0, 0) _ rfl (heap_alloc_new w _) Tryz.underlying69 rfl (by kernel_rfl)
theorem quiet0 {P : Program} {f : FuncId} {args : Array Value} {w : World} {n : Nat} {v : Value} (h : Calls P f args (w.drewN n) fun e w' => e = .returned v ∧ w.drewN n = w') :
    Calls P f args (w.drewN n) fun e w'' => e = .returned v ∧ ∃ m, w'' = w.drewN m := h.mono fun _ _ ⟨he, hm⟩ => ⟨he, n, hm.symm⟩
set_option maxHeartbeats 1000000 in
theorem isAttr_any (i : Nat) (hi : i < 100) (w : World) : Calls Tryz.prog 134 #[.agg #[.string (markT i), .string ⟨#[]⟩], .int .i64 i] w fun e w' => e = .returned (.bool true) ∧ Below w.heap.size w w' := by
  go_enter Tryz.func134, Tryz.ntmps134
  go_wp2
  go_quiet ((go_at_call 160; exact quiet0 (word_any i hi _)))
  go_wp2
  go_ret
  exact ⟨rfl, below_drewN (laidNew _ _) _⟩
end Go.Proofs.YtikeaiibociapaaGreatDoor.src
