/- The document's examples of chapter 9, as plain values. No statement is proved here. -/
import Derived.Test.YtgcbcmhdlgklgaaWTTo
namespace Go.Proofs.Ytgcbcmhdlgklgaa
open Go.RowKit Go.Lib
set_option maxRecDepth 100000

def exS : ByteArray := ⟨#[65, 98, 44, 32, 99, 100, 45, 53, 33, 32, 195, 137, 84, 195, 137]⟩
theorem ex_words : splitL (bsI exS) = [[97, 98], [99, 100], [53], [195, 169, 116, 195, 169]] := by decide +kernel
def txtV (s : ByteArray) : V := .mk 4 0 s [] []
theorem ex_score : scoreW (allW (txtV ⟨#[97, 32, 98, 32, 97, 32, 99]⟩)) (splitL (bsI ⟨#[65, 32, 120]⟩)) = 2 := by decide +kernel
def exV : V := .mk 6 0 ⟨#[]⟩ [txtV ⟨#[98, 32, 97]⟩, .mk 5 0 ⟨#[]⟩ [] [(⟨#[107]⟩, txtV ⟨#[65, 32, 99]⟩)]] []
theorem ex_all : allW exV = [[98], [97], [97], [99]] := by decide +kernel
theorem ex_terms : termsF (allW exV) [] = some [([97], 2), ([98], 1), ([99], 1)] := by rw [ex_all]; decide +kernel
#print axioms ex_terms
end Go.Proofs.Ytgcbcmhdlgklgaa
