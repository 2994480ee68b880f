import Derived.Test.YtikeaiibociapaaGreatDoorAtt
import Derived.Laws.StructEq
import Derived.Lib.IndexBytes
namespace Go.Proofs.YtikeaiibociapaaGreatDoor.src
open Go.RowKit

theorem atTake_all (la lb : List At) (h : la.length = lb.length) (k : Nat) (hk : la.length ≤ k) (e : la.take k = lb.take k) : la = lb := by
  rwa [List.take_of_length_le hk, List.take_of_length_le (by omega)] at e
theorem atTake_next (la lb : List At) (k : Nat) (h1 : k < la.length) (h2 : k < lb.length) (e : la.take k = lb.take k) (h : la[k] = lb[k]) : la.take (k + 1) = lb.take (k + 1) := by
  rw [List.take_succ_eq_append_getElem h1, List.take_succ_eq_append_getElem h2, e, h]

theorem eqAt (a b c d : ByteArray) (w : World) : (Op.equalIn 10000 69 (.agg #[.string a, .string b]) (.agg #[.string c, .string d])).run Tryz.prog w = .ok (a.toList == c.toList && b.toList == d.toList) w := by
  have u9 := Tryz.underlying9
  have a9 := Tryz.isAgg9
  have z9 := Tryz.sizeOf9
  have hS : Tryz.prog.underlying 69 = some (.struct (Tryz.prog.fieldsOf 69)) := by kernel_rfl
  have hp : Tryz.prog.stoodInHeld 69 = false := by kernel_rfl
  rw [show (10000 : Nat) = 9999 + 1 from rfl, run_equalIn_agg w 9999 69 _ _ hS hp]
  simp only [Program.fieldsOf, Tryz.underlying69]
  go_simp
  by_cases h1 : a.toList = c.toList <;> by_cases h2 : b.toList = d.toList <;> simp [h1, h2]
theorem neqAt (a b c d : ByteArray) (w : World) : (binOp .neq 69 (.agg #[.string a, .string b]) (.agg #[.string c, .string d])).run Tryz.prog w = .ok (.bool (!(a.toList == c.toList && b.toList == d.toList))) w := by
  rw [run_neq_struct, eqAt]; rfl
theorem guardAt (x y : Operand) (xs ys : Array Value) (w : World) : (eqGuard .neq 69 x y (.agg xs) (.agg ys)).run Tryz.prog w = .ok () w :=
  run_eqGuard_agg w .neq 69 x y xs ys (by kernel_rfl)
theorem at_eq (a b : At) : (a.1.toList == b.1.toList && a.2.toList == b.2.toList) = decide (a = b) := by
  rw [Bool.eq_iff_iff, Bool.and_eq_true, beq_iff_eq, beq_iff_eq, decide_eq_true_eq, Lib.toList_data, Lib.toList_data, Lib.toList_data, Lib.toList_data]
  constructor
  · rintro ⟨h1, h2⟩
    exact Prod.ext (ByteArray.ext (Array.toList_inj.1 h1)) (ByteArray.ext (Array.toList_inj.1 h2))
  · rintro rfl; exact ⟨rfl, rfl⟩
theorem atNe (la lb : List At) (k : Nat) (h1 : k < la.length) (h2 : k < lb.length) (h : la[k] ≠ lb[k]) : la ≠ lb := by
  intro e; subst e; exact h rfl

end Go.Proofs.YtikeaiibociapaaGreatDoor.src
