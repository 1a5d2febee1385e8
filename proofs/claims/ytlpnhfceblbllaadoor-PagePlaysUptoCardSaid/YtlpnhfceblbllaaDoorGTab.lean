/- The sum's table of sixteen numbers, out of what the rows list as laid; and the program's Sum, Number, Read over it. No statement is proved here. -/
import Derived.Test.YtlpnhfceblbllaaDoorSProg7
import Derived.Test.YtlpnhfceblbllaaDoorGLaid
import Derived.Lib.LaidTab
namespace Go.Proofs.YtlpnhfceblbllaaDoor
open Go.RowKit
set_option maxRecDepth 100000

theorem tab_of_reads {P : Program} {W : World} {name : String} {k : IntKind} {zs : List Int} {g : Nat} {t e : TypeId} {n : Nat}
    (hg : P.globalNamed name = some g) (hty : (P.globals[g]?).map (·.type) = some t) (ht : P.underlying t = some (.array n e)) (he : P.underlying e = some (.int k)) (hce : P.cellsOf e = 1) (hct : P.cellsOf t = n)
    (h : Lib.VarReads P W name (Lib.tabData k zs)) : Lib.TabIs P W name k zs := by
  obtain ⟨g', t', cs, fuel, p, hg', ht', hvar, hd⟩ := h
  obtain rfl := Option.some.inj (hg.symm.trans hg')
  obtain rfl := Option.some.inj (hty.symm.trans ht')
  unfold Lib.TabIs
  rw [hvar, ← Lib.cells_of_tab ht he hce hct hd]
theorem turned_named : Tryd.prog.globalNamed "coffret/sum.turnedFour" = some 1 := by kernel_rfl
def nibsI : List Int := nibs.map Int.ofNat
theorem turned_is : (Rows.laid_coffret_sum_turnedFour : DataW Unit) = Lib.tabData .u32 nibsI := by kernel_rfl
theorem tab16_of {W : World} (h : laidMet Tryd.prog laidAll W) (hm : ("coffret/sum.turnedFour", (Rows.laid_coffret_sum_turnedFour : DataW Unit)) ∈ laidAll) : Tab16 W := by
  have hc : Lib.TabIs Tryd.prog W "coffret/sum.turnedFour" .u32 nibsI := tab_of_reads turned_named (by kernel_rfl) Tryd.underlying126 Tryd.underlying109 (by kernel_rfl) (by kernel_rfl) (turned_is ▸ Lib.laidMet.reads h hm)
  exact fun i hi => by
    have := Lib.TabIs.cell hc turned_named i (by rw [show nibsI.length = 16 from rfl]; exact hi)
    rw [this, nibsI, List.getD_eq_getElem?_getD, List.getElem?_map, nibs_all i hi]
    rfl
end Go.Proofs.YtlpnhfceblbllaaDoor
