/- A document without its fields of a name, plainly: no statement is proved here. -/
import Derived.Test.YtkklnfihjikilaaDoorWith
namespace Go.Proofs.YtkklnfihjikilaaDoor
open Go.RowKit
set_option maxRecDepth 100000

/-- Is a field's name another one? -/
def other (s : ByteArray) (f : ByteArray) : Bool := !(f.toList == s.toList)
def withoutV : V → ByteArray → V
  | .mk k n t l d, s => if k = 5 then .mk 5 n t l (d.filter fun f => other s f.1) else zeroV
end Go.Proofs.YtkklnfihjikilaaDoor
