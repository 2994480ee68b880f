import Derived.Test.YtdbhlnokhfflmaaDoorBeyond
namespace Go.Proofs.YtdbhlnokhfflmaaDoor
open Go.RowKit

/-- a letter, as a byte's number -/
def isL (n : Int) : Bool := decide (97 ≤ n ∧ n ≤ 122) || decide (65 ≤ n ∧ n ≤ 90)
def isD (n : Int) : Bool := decide (48 ≤ n ∧ n ≤ 57)
/-- a letter or a digit -/
def isA (n : Int) : Bool := isL n || isD n

end Go.Proofs.YtdbhlnokhfflmaaDoor
