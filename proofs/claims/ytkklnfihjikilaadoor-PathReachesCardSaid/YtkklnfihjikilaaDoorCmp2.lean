/- The contract of Compare: no statement is proved here. -/
import Derived.Test.YtkklnfihjikilaaDoorCmp
namespace Go.Proofs.YtkklnfihjikilaaDoor
open Go.RowKit
set_option maxRecDepth 100000

end Go.Proofs.YtkklnfihjikilaaDoor
