import Derived.Test.YtcdlleeonfnamaaCheckL
import Derived.Test.YtcdlleeonfnamaaRefName
import Derived.BigQuiet
import Derived.Deep.QuietTactic
namespace Go.Proofs.Ytcdlleeonfnamaa
open Go.RowKit

end Go.Proofs.Ytcdlleeonfnamaa
