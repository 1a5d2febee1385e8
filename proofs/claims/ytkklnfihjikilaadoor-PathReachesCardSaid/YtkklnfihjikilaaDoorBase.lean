/- What every statement's proof of this seat needs: the tables, the arguments opened and read again. No statement is proved here. -/
import Derived.Test.YtkklnfihjikilaaDoorOpen
import Derived.Test.YtkklnfihjikilaaDoorAlone
import Derived.Test.YtkklnfihjikilaaDoorRows
import Derived.Test.YtkklnfihjikilaaDoorCards
import Derived.Test.YtkklnfihjikilaaDoorTie
import Derived.PinnedBridge
import Derived.Lay
import Derived.Lib.LaidU8T
import Derived.OpenShut
import Derived.SevenTiedAt
namespace Go.Proofs.YtkklnfihjikilaaDoor
open Go.RowKit Go.ChangeShapes Go.WideShapes Go.ChangeAt Go.Shelf Go.Lib
set_option maxRecDepth 100000

def laidAll : List (String × DataW Unit) := [("unicode/utf8.acceptRanges", Rows.laid_unicode_utf8_acceptRanges), ("unicode/utf8.first", Rows.laid_unicode_utf8_first)]
theorem own : ownKnob Tryd.prog.godebug = none := by kernel_rfl
theorem accept_is : (Rows.laid_unicode_utf8_acceptRanges : DataW Unit) = Lib.acceptData := by kernel_rfl
theorem tabs_of_laid {W : World} (h : laidMet Tryd.prog laidAll W) : Tabs W :=
  utf8Tabs_of_readsT (U8Types.of196 Tryd.laysValid) ⟨by kernel_rfl, by kernel_rfl, by kernel_rfl, by kernel_rfl, by kernel_rfl, by kernel_rfl, by kernel_rfl⟩ (Pinned.utf8First_eq ▸ Lib.laidMet.reads h (.tail _ (.head _))) (accept_is ▸ Lib.laidMet.reads h (.head _))
theorem laid_out : laidOutB Tryd.prog = true := by kernel_rfl

section
variable {H : Type} {enc : TypeId × Value → H} {W : World}
theorem open_tight {r : Reach} {base : Nat} {v : Value} {d : DataW H} {p : List MemPlace} (hv : Value.okWide Tryd.prog W r base 31 v) (h : DataW.Trod enc Tryd.prog W 0 (fun _ => true) true 31 v d p) (hw : reached (d.weights Tryd.prog 31)) : ∃ t : T, v = t.arg ∧ t.In W ∧ t.ok ∧ t.val.room 42 := by
  obtain ⟨cs, rfl, _⟩ := okWide_struct Tryd.underlying31 hv
  obtain ⟨fuel, hf⟩ := h
  obtain ⟨t, ht, hin, hok, htt⟩ := open_value fuel _ _ hf hw
  refine ⟨t, ?_, hin, hok, htt⟩
  have ht2 : cs.toList = t.cells := ht
  unfold T.arg
  rw [← ht2]
theorem open_arg {r : Reach} {base : Nat} {v : Value} {d : DataW H} {p : List MemPlace} (hv : Value.okWide Tryd.prog W r base 31 v) (h : DataW.Trod enc Tryd.prog W 0 (fun _ => true) true 31 v d p) (hw : reached (d.weights Tryd.prog 31)) : ∃ t : T, v = t.arg ∧ t.In W ∧ t.ok := by
  obtain ⟨t, h1, h2, h3, -⟩ := open_tight hv h hw
  exact ⟨t, h1, h2, h3⟩
theorem back_arg {W' : World} {v : Value} {d : DataW H} {p : List MemPlace} (h : DataW.Trod enc Tryd.prog W 0 (fun _ => true) true 31 v d p) (hb : Below W.heap.size W W') (hlt : ∀ x ∈ p, x.block < W.heap.size) :
    DataW.Trod enc Tryd.prog W' 0 (fun b => decide (b < W.heap.size)) true 31 v d p :=
  Below.trod laid_out (by kernel_rfl) (of_decide_eq_true (by kernel_rfl)) h hb hlt
end
/-- The argument that witnesses: all zero. -/
def zeroArg : Value := .agg #[.int .i64 0, .int .i64 0, .string ⟨#[]⟩, .slice none 0 0, .slice none 0 0]
end Go.Proofs.YtkklnfihjikilaaDoor
