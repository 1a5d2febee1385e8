/- The contract of Compare: no statement is proved here. -/
import Derived.Test.YtjfgmcmnpekahaaDoorCmp
namespace Go.Proofs.YtjfgmcmnpekahaaDoor
open Go.RowKit
set_option maxRecDepth 100000

end Go.Proofs.YtjfgmcmnpekahaaDoor
