import Derived.Test.YtcdlleeonfnamaaRun
import Derived.Test.YtcdlleeonfnamaaBt
namespace Go.Proofs.Ytcdlleeonfnamaa
open Go.RowKit

/-- what stands behind a condition's name -/
def restA (o : Option ByteArray) (nm : List UInt8) (no : Bool) : List UInt8 → Option (List UInt8 × Bool)
  | [] => some (nm, o.isSome != no)
  | x :: t => if no = true then none
    else if x = 61 then some (nm, decide (o = some (bT t)))
    else match t with
      | [] => none
      | y :: t2 => if x = 33 ∧ y = 61 then some (nm, !decide (o = some (bT t2))) else none
theorem rest_no (o : Option ByteArray) (nm : List UInt8) (x : UInt8) (t : List UInt8) : restA o nm true (x :: t) = none := by simp [restA]
theorem rest_is (o : Option ByteArray) (nm : List UInt8) {x : UInt8} (t : List UInt8) (h : x = 61) : restA o nm false (x :: t) = some (nm, decide (o = some (bT t))) := by simp only [restA]; rw [if_neg (by decide), if_pos h]
theorem rest_one (o : Option ByteArray) (nm : List UInt8) {x : UInt8} (h : ¬ x = 61) : restA o nm false [x] = none := by simp [restA, h]
theorem rest_isnt (o : Option ByteArray) (nm : List UInt8) {x y : UInt8} (t : List UInt8) (h : ¬ x = 61) (h2 : x = 33 ∧ y = 61) : restA o nm false (x :: y :: t) = some (nm, !decide (o = some (bT t))) := by
  simp only [restA]; rw [if_neg (by decide), if_neg h, if_pos h2]
theorem rest_other (o : Option ByteArray) (nm : List UInt8) {x y : UInt8} (t : List UInt8) (h : ¬ x = 61) (h2 : ¬ (x = 33 ∧ y = 61)) : restA o nm false (x :: y :: t) = none := by
  simp only [restA]; rw [if_neg (by decide), if_neg h, if_neg h2]
/-- a condition behind its mark -/
def askN (l : List At) (no : Bool) (c : List UInt8) : Option (List UInt8 × Bool) :=
  if nameB (c.take (runL c)) = false then none else restA (getL l (bT (c.take (runL c)))) (c.take (runL c)) no (c.drop (runL c))
theorem ask_noname {o : Option ByteArray} {nm : List UInt8} {no : Bool} {r : List UInt8} (h : nameB nm = false) : (if nameB nm = false then none else restA o nm no r) = none := if_pos h
theorem ask_name {o : Option ByteArray} {nm : List UInt8} {no : Bool} {r : List UInt8} (h : nameB nm = true) : (if nameB nm = false then none else restA o nm no r) = restA o nm no r := if_neg (by rw [h]; decide)
/-- what a condition asks for, and whether it holds -/
def askL (l : List At) (c : List UInt8) : Option (List UInt8 × Bool) := match c with
  | [] => none
  | x :: c' => if x = 33 then askN l true c' else askN l false c
/-- what Ask answers -/
def askV : Option (List UInt8 × Bool) → Value
  | some (n, h) => .tuple #[.string (bT n), .bool h, .int .i64 0]
  | none => .tuple #[.string ⟨#[]⟩, .bool false, .int .i64 4]
theorem ask_none {o : Option (List UInt8 × Bool)} (h : o = none) : Value.tuple #[.string ⟨#[]⟩, .bool false, .int .i64 4] = askV o := by rw [h]; rfl
theorem ask_some {o : Option (List UInt8 × Bool)} {n : ByteArray} {b : Bool} (h : o = some (n.data.toList, b)) : Value.tuple #[.string n, .bool b, .int .i64 0] = askV o := by
  rw [h]; show _ = Value.tuple #[.string (bT n.data.toList), .bool b, .int .i64 0]; rw [bT_data]


end Go.Proofs.Ytcdlleeonfnamaa
