/- The program's superblocks, over what its rows list as laid. No statement is proved here. -/
import Derived.Test.YtonjapphhbhcpaaDoorJ13
import Derived.Test.YtonjapphhbhcpaaDoorGProg
namespace Go.Proofs.YtonjapphhbhcpaaDoor
open Go.RowKit
theorem p14_of {W : World} (h : laidMet Tryd.prog laidAll W) : P14 W where
  make := fun s w hw hi => pmake14_any s hi w (tab16_on (tab16_of h (.head _)) hw)
  opens := fun number a n c l w hw h1 ha hB hn hc _ hl _ => popen14_any number a n c l w (tab16_on (tab16_of h (.head _)) hw) h1 ha hB hn hc hl
  choose := fun la na ca a lb nb cb b w hw ia ba ha hca _ hla _ ib bb hb hcb _ hlb _ => pchoose_any la na ca a lb nb cb b w (tab16_on (tab16_of h (.head _)) hw) ia ba ha hca hla ib bb hb hcb hlb
theorem p14d_of {W : World} (h : laidMet Tryd.prog laidAll W) : P14D W where
  write := fun hh g s w B N d hw hi hc hb hN hX => pswr_any (p12_of h) hh g s w B N d hw hi hc hb hN hX
  read := fun hh g w B N d hw hc hb hby => psrd_any hh g w B N d (tab16_on (tab16_of h (.head _)) hw) hc hb hby
end Go.Proofs.YtonjapphhbhcpaaDoor
