/- The contract of SameList: no statement is proved here. -/
import Derived.Test.YtjfgmcmnpekahaaDoorSame
namespace Go.Proofs.YtjfgmcmnpekahaaDoor
open Go.RowKit
set_option maxRecDepth 100000

theorem vals_at {l l' : List T} (h : l.map T.val = l'.map T.val) {k : Nat} {x y : T} (hx : l[k]? = some x) (hy : l'[k]? = some y) : x.val = y.val := by
  have := congrArg (·[k]?) h
  simpa [hx, hy] using this
end Go.Proofs.YtjfgmcmnpekahaaDoor
