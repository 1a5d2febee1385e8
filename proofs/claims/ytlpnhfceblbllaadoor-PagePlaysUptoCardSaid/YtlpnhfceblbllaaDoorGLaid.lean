/- What the rows of this layer list as laid. No statement is proved here. -/
import Derived.Test.YtlpnhfceblbllaaDoorYB
namespace Go.Proofs.YtlpnhfceblbllaaDoor
open Go.RowKit
def laidAll : List (String × DataW Unit) := [("coffret/sum.turnedFour", Rows.laid_coffret_sum_turnedFour)]
end Go.Proofs.YtlpnhfceblbllaaDoor
