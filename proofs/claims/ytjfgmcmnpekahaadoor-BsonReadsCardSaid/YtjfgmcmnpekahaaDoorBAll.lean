/- The program's reader whole: what Read and Decode answer. No statement is proved here. -/
import Derived.Test.YtjfgmcmnpekahaaDoorBDoc
import Derived.Test.YtjfgmcmnpekahaaDoorBList
import Derived.Test.YtjfgmcmnpekahaaDoorBReadW
namespace Go.Proofs.YtjfgmcmnpekahaaDoor
open Go.RowKit
set_option maxRecDepth 100000

theorem reads_all : ∀ n : Nat, DocAt n ∧ ListAt n ∧ ValAt n := by
  intro n
  induction n with
  | zero => exact ⟨fun w g K i r dp B _ _ _ _ _ h => by omega, fun w g K i r dp B _ _ _ _ _ h => by omega, fun w g K i r dp B k _ _ _ _ _ _ _ _ h => by omega⟩
  | succ n ih => exact ⟨document_any n ih.2.2, list_any n ih.2.2, value_all n ih.1 ih.2.1⟩
#print axioms reads_all
end Go.Proofs.YtjfgmcmnpekahaaDoor
