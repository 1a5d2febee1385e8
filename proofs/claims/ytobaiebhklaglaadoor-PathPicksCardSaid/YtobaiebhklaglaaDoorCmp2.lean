/- The contract of Compare: no statement is proved here. -/
import Derived.Test.YtobaiebhklaglaaDoorCmp
namespace Go.Proofs.YtobaiebhklaglaaDoor
open Go.RowKit
set_option maxRecDepth 100000

end Go.Proofs.YtobaiebhklaglaaDoor
