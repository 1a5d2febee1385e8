/- The program's Make and Open, over what its rows list as laid. No statement is proved here. -/
import Derived.Test.YtonjapphhbhcpaaDoorJ4
import Derived.Test.YtonjapphhbhcpaaDoorJ18
namespace Go.Proofs.YtonjapphhbhcpaaDoor
open Go.RowKit
theorem tab16_then {w w' : World} (h : Tab16 w) (hb : Below w.heap.size w w') : Tab16 w' := fun i hi => (hb.cell (p := ⟨1, i, none⟩) (cell_lt (h i hi))).trans (h i hi)
theorem p12_of {W : World} (h : laidMet Tryd.prog laidAll W) : P12 W where
  make := fun number kind a n c l w hw h1 h2 ha hB hn hc hcm hnil => lmake_any number kind a n c l w (tab16_then (tab16_of h (.head _)) hw) h1 h2 ha hB hn hnil
  opens := fun number a n c l w hw h1 ha hB hn hc hcm hnil => lopen_any number a n c l w (tab16_then (tab16_of h (.head _)) hw) h1 ha hB hn hc
end Go.Proofs.YtonjapphhbhcpaaDoor
