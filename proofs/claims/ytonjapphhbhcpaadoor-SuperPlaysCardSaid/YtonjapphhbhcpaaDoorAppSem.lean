/- An append under a name. No statement is proved here. -/
import Derived.Test.YtonjapphhbhcpaaDoorProg
import Derived.WalkKit
namespace Go.Proofs.YtonjapphhbhcpaaDoor
/-- An append under a name, so that the walk takes an equation on its run as it stands. -/
def appSem (ts : Array TypeId) (ty : TypeId) (args : Array Value) := Builtin.append_ ts ty args
theorem app_sem (ts : Array TypeId) (ty : TypeId) (args : Array Value) : Builtin.append_ ts ty args = appSem ts ty args := rfl
attribute [irreducible] appSem
end Go.Proofs.YtonjapphhbhcpaaDoor
