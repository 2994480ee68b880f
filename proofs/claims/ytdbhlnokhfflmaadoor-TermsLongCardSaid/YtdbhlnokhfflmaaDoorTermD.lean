import Derived.Test.YtdbhlnokhfflmaaDoorTermC
namespace Go.Proofs.YtdbhlnokhfflmaaDoor
open Go.RowKit
set_option maxRecDepth 100000

/-! ### the forms -/
def FormsIs (w : World) : Prop := ∀ i : Nat, i < 6 → w.cell? ⟨0, i, none⟩ = some (.bool (decide (i = 2) || decide (i = 5)))
theorem FormsIs.cells {w : World} (h : FormsIs w) : w.cell? ⟨0, 0, none⟩ = some (.bool false) ∧ w.cell? ⟨0, 1, none⟩ = some (.bool false) ∧ w.cell? ⟨0, 2, none⟩ = some (.bool true) ∧
    w.cell? ⟨0, 3, none⟩ = some (.bool false) ∧ w.cell? ⟨0, 4, none⟩ = some (.bool false) ∧ w.cell? ⟨0, 5, none⟩ = some (.bool true) :=
  ⟨h 0 (by omega), h 1 (by omega), h 2 (by omega), h 3 (by omega), h 4 (by omega), h 5 (by omega)⟩
theorem FormsIs.below {w w' : World} (h : FormsIs w) (hb : Below w.heap.size w w') : FormsIs w' := fun i hi => keep_cell hb (h i hi)

theorem forms_0 (w : World) : (Instr.index 53 (.agg #[.bool false, .bool false, .bool true, .bool false, .bool false, .bool true]) (.int .i64 0)).run Tryd.prog w = .ok (.agg #[.bool false, .bool false]) w := by rfl
theorem forms_1 (w : World) : (Instr.index 53 (.agg #[.bool false, .bool false, .bool true, .bool false, .bool false, .bool true]) (.int .i64 1)).run Tryd.prog w = .ok (.agg #[.bool true, .bool false]) w := by rfl
theorem forms_2 (w : World) : (Instr.index 53 (.agg #[.bool false, .bool false, .bool true, .bool false, .bool false, .bool true]) (.int .i64 2)).run Tryd.prog w = .ok (.agg #[.bool false, .bool true]) w := by rfl
set_option maxHeartbeats 2000000 in
theorem may_ff (w : World) (h : FormsIs w) : Calls Tryd.prog 24 #[.agg #[.bool false, .bool false]] w fun e w' => e = .returned (.bool true) ∧ Below w.heap.size w w' := by
  obtain ⟨c0, c1, c2, c3, c4, c5⟩ := h.cells
  have hz : 0 < w.heap.size := World.block_lt_of_cell? w _ c0
  clear h
  have i0 := forms_0
  have i1 := forms_1
  have i2 := forms_2
  go_enter Tryd.func24, Tryd.ntmps24
  go_wp2
  go_loopw [6] (fun iv wr => ∃ k : Int, 0 ≤ k ∧ k ≤ 0 ∧ iv = .int .i64 k ∧ Below w.heap.size w wr ∧ w.heap.size < wr.heap.size ∧ wr.cell? ⟨w.heap.size, 0, none⟩ = some (.bool false) ∧ wr.cell? ⟨w.heap.size, 1, none⟩ = some (.bool false)) (fun iv _ => 3 - (intOf iv).toNat)
  case atStart => exact ⟨0, by omega, by omega, rfl, laidNew _ _, by simp, by rw [World.cell?_alloc_new]; rfl, by rw [World.cell?_alloc_new]; rfl⟩
  case round =>
    obtain ⟨k, hk0, hk, rfl, hbel, hsz, e0, e1⟩ := hrel
    rcases (show k = 0 by omega) with rfl
    · go_wp2
      go_ret
      exact ⟨rfl, hbel.alloc hbel.size _⟩
set_option maxHeartbeats 2000000 in
theorem may_tf (w : World) (h : FormsIs w) : Calls Tryd.prog 24 #[.agg #[.bool true, .bool false]] w fun e w' => e = .returned (.bool true) ∧ Below w.heap.size w w' := by
  obtain ⟨c0, c1, c2, c3, c4, c5⟩ := h.cells
  have hz : 0 < w.heap.size := World.block_lt_of_cell? w _ c0
  clear h
  have i0 := forms_0
  have i1 := forms_1
  have i2 := forms_2
  go_enter Tryd.func24, Tryd.ntmps24
  go_wp2
  go_loopw [6] (fun iv wr => ∃ k : Int, 0 ≤ k ∧ k ≤ 1 ∧ iv = .int .i64 k ∧ Below w.heap.size w wr ∧ w.heap.size < wr.heap.size ∧ wr.cell? ⟨w.heap.size, 0, none⟩ = some (.bool true) ∧ wr.cell? ⟨w.heap.size, 1, none⟩ = some (.bool false)) (fun iv _ => 3 - (intOf iv).toNat)
  case atStart => exact ⟨0, by omega, by omega, rfl, laidNew _ _, by simp, by rw [World.cell?_alloc_new]; rfl, by rw [World.cell?_alloc_new]; rfl⟩
  case round =>
    obtain ⟨k, hk0, hk, rfl, hbel, hsz, e0, e1⟩ := hrel
    rcases (show k = 0 ∨ k = 1 by omega) with rfl | rfl
    · go_wp2
      go_roundw
      case rel => exact ⟨1, by omega, by omega, rfl, hbel.alloc hbel.size _, by simp; omega, by rw [World.cell?_alloc_lt _ _ _ hsz]; exact e0, by rw [World.cell?_alloc_lt _ _ _ hsz]; exact e1⟩
      case measure => decide
    · go_wp2
      go_ret
      exact ⟨rfl, hbel.alloc hbel.size _⟩
set_option maxHeartbeats 2000000 in
theorem may_ft (w : World) (h : FormsIs w) : Calls Tryd.prog 24 #[.agg #[.bool false, .bool true]] w fun e w' => e = .returned (.bool true) ∧ Below w.heap.size w w' := by
  obtain ⟨c0, c1, c2, c3, c4, c5⟩ := h.cells
  have hz : 0 < w.heap.size := World.block_lt_of_cell? w _ c0
  clear h
  have i0 := forms_0
  have i1 := forms_1
  have i2 := forms_2
  go_enter Tryd.func24, Tryd.ntmps24
  go_wp2
  go_loopw [6] (fun iv wr => ∃ k : Int, 0 ≤ k ∧ k ≤ 2 ∧ iv = .int .i64 k ∧ Below w.heap.size w wr ∧ w.heap.size < wr.heap.size ∧ wr.cell? ⟨w.heap.size, 0, none⟩ = some (.bool false) ∧ wr.cell? ⟨w.heap.size, 1, none⟩ = some (.bool true)) (fun iv _ => 3 - (intOf iv).toNat)
  case atStart => exact ⟨0, by omega, by omega, rfl, laidNew _ _, by simp, by rw [World.cell?_alloc_new]; rfl, by rw [World.cell?_alloc_new]; rfl⟩
  case round =>
    obtain ⟨k, hk0, hk, rfl, hbel, hsz, e0, e1⟩ := hrel
    rcases (show k = 0 ∨ k = 1 ∨ k = 2 by omega) with rfl | rfl | rfl
    · go_wp2
      go_roundw
      case rel => exact ⟨1, by omega, by omega, rfl, hbel.alloc hbel.size _, by simp; omega, by rw [World.cell?_alloc_lt _ _ _ hsz]; exact e0, by rw [World.cell?_alloc_lt _ _ _ hsz]; exact e1⟩
      case measure => decide
    · go_wp2
      go_roundw
      case rel => exact ⟨2, by omega, by omega, rfl, hbel.alloc hbel.size _, by simp; omega, by rw [World.cell?_alloc_lt _ _ _ hsz]; exact e0, by rw [World.cell?_alloc_lt _ _ _ hsz]; exact e1⟩
      case measure => decide
    · go_wp2
      go_ret
      exact ⟨rfl, hbel.alloc hbel.size _⟩
set_option maxHeartbeats 2000000 in
theorem may_tt (w : World) (h : FormsIs w) : Calls Tryd.prog 24 #[.agg #[.bool true, .bool true]] w fun e w' => e = .returned (.bool false) ∧ Below w.heap.size w w' := by
  obtain ⟨c0, c1, c2, c3, c4, c5⟩ := h.cells
  have hz : 0 < w.heap.size := World.block_lt_of_cell? w _ c0
  clear h
  have i0 := forms_0
  have i1 := forms_1
  have i2 := forms_2
  go_enter Tryd.func24, Tryd.ntmps24
  go_wp2
  go_loopw [6] (fun iv wr => ∃ k : Int, 0 ≤ k ∧ k ≤ 3 ∧ iv = .int .i64 k ∧ Below w.heap.size w wr ∧ w.heap.size < wr.heap.size ∧ wr.cell? ⟨w.heap.size, 0, none⟩ = some (.bool true) ∧ wr.cell? ⟨w.heap.size, 1, none⟩ = some (.bool true)) (fun iv _ => 3 - (intOf iv).toNat)
  case atStart => exact ⟨0, by omega, by omega, rfl, laidNew _ _, by simp, by rw [World.cell?_alloc_new]; rfl, by rw [World.cell?_alloc_new]; rfl⟩
  case round =>
    obtain ⟨k, hk0, hk, rfl, hbel, hsz, e0, e1⟩ := hrel
    rcases (show k = 0 ∨ k = 1 ∨ k = 2 ∨ k = 3 by omega) with rfl | rfl | rfl | rfl
    · go_wp2
      go_roundw
      case rel => exact ⟨1, by omega, by omega, rfl, hbel.alloc hbel.size _, by simp; omega, by rw [World.cell?_alloc_lt _ _ _ hsz]; exact e0, by rw [World.cell?_alloc_lt _ _ _ hsz]; exact e1⟩
      case measure => decide
    · go_wp2
      go_roundw
      case rel => exact ⟨2, by omega, by omega, rfl, hbel.alloc hbel.size _, by simp; omega, by rw [World.cell?_alloc_lt _ _ _ hsz]; exact e0, by rw [World.cell?_alloc_lt _ _ _ hsz]; exact e1⟩
      case measure => decide
    · go_wp2
      go_roundw
      case rel => exact ⟨3, by omega, by omega, rfl, hbel.alloc hbel.size _, by simp; omega, by rw [World.cell?_alloc_lt _ _ _ hsz]; exact e0, by rw [World.cell?_alloc_lt _ _ _ hsz]; exact e1⟩
      case measure => decide
    · go_wp2
      go_ret
      exact ⟨rfl, hbel⟩
theorem may_c (a b : Bool) (w : World) (h : FormsIs w) : Calls Tryd.prog 24 #[.agg #[.bool a, .bool b]] w fun e w' => e = .returned (.bool (!(a && b))) ∧ Below w.heap.size w w' := by
  cases a <;> cases b
  · exact may_ff w h
  · exact may_ft w h
  · exact may_tf w h
  · exact may_tt w h
end Go.Proofs.YtdbhlnokhfflmaaDoor
