import Derived.Test.YtcdlleeonfnamaaRefName
namespace Go.Proofs.Ytcdlleeonfnamaa
open Go.RowKit

/-- how many signs of a name a text begins with -/
def runL (l : List UInt8) : Nat := (l.takeWhile nmB).length
theorem runL_le (l : List UInt8) : runL l ≤ l.length := (List.takeWhile_sublist nmB).length_le
theorem run_stop (l : List UInt8) (k : Nat) (h : k < l.length) (h1 : (l.take k).all nmB = true) (h2 : nmB l[k] = false) : runL l = k := by
  have e : l = l.take k ++ l[k] :: l.drop (k + 1) := by rw [← List.drop_eq_getElem_cons h, List.take_append_drop]
  unfold runL
  rw [e, List.takeWhile_append_of_pos (fun x hx => List.all_eq_true.1 h1 x hx), List.takeWhile_cons, h2]
  simp; omega
theorem run_end (l : List UInt8) (h1 : l.all nmB = true) : runL l = l.length := by
  unfold runL
  congr 1
  have := List.takeWhile_append_of_pos (p := nmB) (l₁ := l) (l₂ := []) (fun x hx => List.all_eq_true.1 h1 x hx)
  simpa using this

theorem ret_nat {a b : Nat} (h : a = b) : Ending.returned (.int .i64 (a : Int)) = .returned (.int .i64 (b : Int)) := by rw [h]

end Go.Proofs.Ytcdlleeonfnamaa
