/- What the rows of this layer list as laid. No statement is proved here. -/
import Derived.Test.YtocpbkmflihcnaaDoorYB
namespace Go.Proofs.YtocpbkmflihcnaaDoor
open Go.RowKit
def laidAll : List (String × DataW Unit) := [("math/bits.deBruijn32tab", Rows.laid_math_bits_deBruijn32tab), ("coffret/sum.turnedFour", Rows.laid_coffret_sum_turnedFour)]
end Go.Proofs.YtocpbkmflihcnaaDoor
