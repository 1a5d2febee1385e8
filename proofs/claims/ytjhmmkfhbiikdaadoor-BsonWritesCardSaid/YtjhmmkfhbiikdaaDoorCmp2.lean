/- The contract of Compare: no statement is proved here. -/
import Derived.Test.YtjhmmkfhbiikdaaDoorCmp
namespace Go.Proofs.YtjhmmkfhbiikdaaDoor
open Go.RowKit
set_option maxRecDepth 100000

end Go.Proofs.YtjhmmkfhbiikdaaDoor
