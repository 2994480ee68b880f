import Derived.Test.YtikeaiibociapaaGreatDoorShelf
import Derived.Test.YtikeaiibociapaaGreatDoorParts
namespace Go.Proofs.YtikeaiibociapaaGreatDoor
open Go.RowKit

/-- strings.genSplit at a point: what it asks of strings.Index and strings.Count is had at one byte without any variable -/
theorem genSplit_dot (s : ByteArray) (w : World) (hs : s.size < 4294967281) :
    Calls Tryz.prog 146 #[.string s, .string dot, .int .i64 0, .int .i64 (-1)] w fun e w' =>
      e = .returned (.slice (some ⟨w.heap.size, 0, none⟩) (Lib.countB s dot + 1) (Lib.countB s dot + 1)) ∧ w' = w.alloc (.cells ((Lib.splitB dot 0 (Lib.countB s dot) s).map Value.string).toArray 9) := by
  have h1 : 1 ≤ dot.size := Nat.le_refl _
  have hle := Lib.countB_le dot h1 s.size s (Nat.le_refl _)
  have hlen := Lib.splitB_all dot h1 0 _ s rfl
  have c := Any.strings_genSplit_core Tryz.lays221 (by kernel_rfl) s dot 0 (-1) (Lib.countB s dot + 1) w hs h1 (Nat.zero_le _)
    (fun x c hx => by
      have := Tryz.strings_Index_one x 46 (w.alloc (.cells c 9))
      have e : Lib.indexByte x.data.toList 46 = Lib.indexB x dot := (Lib.index_one _ 46).symm
      rw [e] at this; exact this)
    (by
      have := Tryz.strings_Count_one s 46 w
      have e : Lib.countByte s.data.toList 46 = Lib.countB s dot := (Lib.count_one 46 _).symm
      rw [e] at this; exact this)
    (by decide) (by decide) (by rw [if_pos (by decide)]; omega)
  rw [Nat.add_sub_cancel, hlen] at c
  have e2 : Lib.cellsOf (Lib.splitB dot 0 (Lib.countB s dot) s) (Lib.countB s dot + 1) = ((Lib.splitB dot 0 (Lib.countB s dot) s).map Value.string).toArray := by rw [← hlen]; exact Lib.cellsOf_full _
  rw [e2] at c
  exact c

set_option maxHeartbeats 400000 in
theorem split_dot (s : ByteArray) (w : World) (hs : s.size < 4294967281) :
    Calls Tryz.prog 98 #[.string s, .string dot] w fun e w' =>
      e = .returned (.slice (some ⟨w.heap.size, 0, none⟩) (Lib.countB s dot + 1) (Lib.countB s dot + 1)) ∧ w' = w.alloc (.cells ((Lib.splitB dot 0 (Lib.countB s dot) s).map Value.string).toArray 9) := by
  have c := genSplit_dot s w hs
  unfold dot at c ⊢
  go_enter Tryz.func98, Tryz.ntmps98
  go_wp2_with fail
  refine c.mono ?_
  rintro e w' ⟨rfl, rfl⟩
  go_wp2
  go_ret
  exact ⟨rfl, rfl⟩
end Go.Proofs.YtikeaiibociapaaGreatDoor
