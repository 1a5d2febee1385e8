/- What the laws of layer 9 ask of the program. No statement is proved here. -/
import Derived.Test.YtgcbcmhdlgklgaaDoorBase9
import Derived.Test.YtgcbcmhdlgklgaaDoorWAwake
import Derived.Test.YtgcbcmhdlgklgaaDoorWLaw1
import Derived.Test.YtgcbcmhdlgklgaaDoorWLaw3
namespace Go.Proofs.YtgcbcmhdlgklgaaDoor
open Go.RowKit Go.Lib
set_option maxRecDepth 100000

theorem p9_of {W : World} (h : laidMet Tryd.prog laidAll W) : P9 W := ⟨tabs_of_laid h, fun w _ => awake9_any w, fun s w hs _ => psplit_any s w hs⟩
theorem p9t_of {W : World} (h : laidMet Tryd.prog laidAll W) : P9t W := ⟨tabs_of_laid h, fun w _ => awake9_any w, fun x w _ ok hin hm => pterms_any x ok w hin hm, fun x s w _ ok hin hs hm => score_any x ok s (by omega) w hin hm⟩
end Go.Proofs.YtgcbcmhdlgklgaaDoor
