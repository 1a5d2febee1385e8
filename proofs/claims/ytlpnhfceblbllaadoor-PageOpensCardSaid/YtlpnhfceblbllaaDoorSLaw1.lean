/- The laws SumAdds and SumJoins over the contracts. No statement is proved here. -/
import Derived.Test.YtlpnhfceblbllaaDoorSEnv
namespace Go.Proofs.YtlpnhfceblbllaaDoor
open Go.RowKit
set_option maxRecDepth 100000

theorem InB.lowB {w : World} {a : Option Addr} {l : List Int} (h : InB w a l) : ∀ b o, a = some (⟨b, o, none⟩ : Addr) → 1 ≤ l.length → b < w.heap.size := by
  intro b o e hl
  obtain ⟨b', o', x, e', -, hc⟩ := h.one (i := 0) (by omega)
  rw [e] at e'
  injection e' with e'
  injection e' with e1 e2
  subst e1
  exact cell_lt hc
end Go.Proofs.YtlpnhfceblbllaaDoor
