/- The program's five calls, over what its rows list as laid. No statement is proved here. -/
import Derived.Test.YtocpbkmflihcnaaDoorSProg7
import Derived.Test.YtocpbkmflihcnaaDoorSEnv
import Derived.Test.YtocpbkmflihcnaaDoorSLaid
import Derived.Lib.LaidTab
namespace Go.Proofs.YtocpbkmflihcnaaDoor
open Go.RowKit
set_option maxRecDepth 100000

theorem tab_of_reads {P : Program} {W : World} {name : String} {k : IntKind} {zs : List Int} {g : Nat} {t e : TypeId} {n : Nat}
    (hg : P.globalNamed name = some g) (hty : (P.globals[g]?).map (·.type) = some t) (ht : P.underlying t = some (.array n e)) (he : P.underlying e = some (.int k)) (hce : P.cellsOf e = 1) (hct : P.cellsOf t = n)
    (h : Lib.VarReads P W name (Lib.tabData k zs)) : Lib.TabIs P W name k zs := by
  obtain ⟨g', t', cs, fuel, p, hg', ht', hvar, hd⟩ := h
  obtain rfl := Option.some.inj (hg.symm.trans hg')
  obtain rfl := Option.some.inj (hty.symm.trans ht')
  unfold Lib.TabIs
  rw [hvar, ← Lib.cells_of_tab ht he hce hct hd]
theorem turned_named : Tryd.prog.globalNamed "coffret/sum.turnedFour" = some 0 := by kernel_rfl
theorem low_named : Tryd.prog.globalNamed "math/bits.deBruijn32tab" = some 1 := by kernel_rfl
def nibsI : List Int := nibs.map Int.ofNat
def lowI : List Int := Lib.deBruijn32tab.map Int.ofNat
theorem turned_is : (Rows.laid_coffret_sum_turnedFour : DataW Unit) = Lib.tabData .u32 nibsI := by kernel_rfl
theorem low_is : (Rows.laid_math_bits_deBruijn32tab : DataW Unit) = Lib.tabData .u8 lowI := by kernel_rfl
theorem tabs_of {W : World} (h : laidMet Tryd.prog laidAll W) : Tabs W := by
  have hc : Lib.TabIs Tryd.prog W "coffret/sum.turnedFour" .u32 nibsI := tab_of_reads turned_named (by kernel_rfl) Tryd.underlying56 Tryd.underlying45 (by kernel_rfl) (by kernel_rfl) (turned_is ▸ Lib.laidMet.reads h (.tail _ (.head _)))
  have hp : Lib.TabIs Tryd.prog W "math/bits.deBruijn32tab" .u8 lowI := tab_of_reads low_named (by kernel_rfl) Tryd.underlying58 Tryd.underlying5 (by kernel_rfl) (by kernel_rfl) (low_is ▸ Lib.laidMet.reads h (.head _))
  have h1 : Tab16 W := fun i hi => by
    have := Lib.TabIs.cell hc turned_named i (by rw [show nibsI.length = 16 from rfl]; exact hi)
    rw [this, nibsI, List.getD_eq_getElem?_getD, List.getElem?_map, nibs_all i hi]
    rfl
  have h2 : Tab32 W := fun i hi => by
    have := Lib.TabIs.cell hp low_named i (by rw [show lowI.length = 32 from rfl]; exact hi)
    have hl : i < Lib.deBruijn32tab.length := hi
    rw [this, lowI, List.getD_eq_getElem?_getD, List.getElem?_map, List.getD_eq_getElem?_getD, List.getElem?_eq_getElem hl]
    rfl
  have := cell_lt (h2 0 (by omega))
  exact ⟨h1, h2, Nat.succ_le_of_lt (by simpa using this)⟩
theorem p11_of {W : World} (h : laidMet Tryd.prog laidAll W) : P11 W where
  sum := fun a c n l w hw ha hB hn hl => (more0_any a c n l w ((tabs_of h).then_ hw).turned ha hB hn hl).mono fun e w' ⟨h1, h2⟩ => ⟨h1, by rw [← h2]; exact Below.refl _ _⟩
  more := fun s a c n l w hw ha hB hn hl _ => (moreS_any s a c n l w ((tabs_of h).then_ hw).turned ha hB hn hl).mono fun e w' ⟨h1, h2⟩ => ⟨h1, by rw [← h2]; exact Below.refl _ _⟩
  join := fun x y n w hw hx hy hn => pjoin_any x y n hx hy hn w ((tabs_of h).then_ hw)
  number := fun n size w _ hn hs => pnumber_any n size hn hs w
  read := fun a c n l at_ size w _ ha hB hn hc hl h1 h2 => (pread_any a c n l at_ size w ha hB hn hl hc h1 h2).mono fun e w' ⟨h1, h2⟩ => ⟨h1, by rw [← h2]; exact Below.refl _ _⟩
end Go.Proofs.YtocpbkmflihcnaaDoor
