import Derived.Test.YtcdlleeonfnamaaName
namespace Go.Proofs.Ytcdlleeonfnamaa
open Go.RowKit

/-- a byte that a value may have -/
def okB (c : UInt8) : Bool := decide (32 ≤ c.toNat) && !decide (c.toNat = 127)
/-- may a value be? -/
def mayL (l : List UInt8) : Bool := l.all okB && decide (l.length ≤ 1024)

end Go.Proofs.Ytcdlleeonfnamaa
