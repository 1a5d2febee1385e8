/- The document's own Split: its contract. No statement is proved here. -/
import Derived.Test.YtgcbcmhdlgklgaaDoorWRef
import Derived.Test.YtgcbcmhdlgklgaaDoorWDec
import Derived.Test.YtgcbcmhdlgklgaaDoorWAp
import Derived.Shelf.Strings.MapAny
import Derived.Maps.OwnSet
import Derived.Maps.Views
namespace Go.Proofs.YtgcbcmhdlgklgaaDoor
open Go.RowKit Go.Lib
set_option maxRecDepth 100000

def TabsW (w : World) : Prop := Lib.Utf8Tabs (Tryd.laysDecode_ren.g 3) (Tryd.laysDecode_ren.g 4) w
theorem TabsW.then_ {w w' : World} (h : TabsW w) (hb : Below w.heap.size w w') : TabsW w' :=
  ⟨fun i hi => (hb.cell (cell_lt (h.1 i hi))).trans (h.1 i hi), fun i hi => ⟨(hb.cell (cell_lt (h.2 i hi).1)).trans (h.2 i hi).1, (hb.cell (cell_lt (h.2 i hi).2)).trans (h.2 i hi).2⟩⟩
theorem dec_any (s : ByteArray) (pos : Nat) (hp : pos < s.size) (w : World) (hT : TabsW w) :
    Calls Tryd.prog 17 #[.string (s.extract pos s.size)] w fun e w' => e = .returned (.tuple #[.int .i32 ((decL ((bsI s).drop pos)).1 : Nat), .int .i64 ((decL ((bsI s).drop pos)).2 : Nat)]) ∧ Below w.heap.size w w' := by
  have h := Any.utf8_DecodeRuneInString Tryd.laysDecode (s.extract pos s.size) w hT
  rw [decodeGo_extract s pos hp, decL_at] at h
  exact h
end Go.Proofs.YtgcbcmhdlgklgaaDoor
