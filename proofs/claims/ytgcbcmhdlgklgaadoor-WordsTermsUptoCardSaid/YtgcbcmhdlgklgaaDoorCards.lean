/-
  DERIVED. GIVEN WITH THE SEED: THE CARDS: each row of YtgcbcmhdlgklgaaDoorRows.lean that lists a variable, with what it lists TIED to the program's text (the seventh form; the later family's looks); each row that meets fmt, with fmt's text TOLD by the authors' own Lean function (tested against real Go, not proved from fmt's source: count such statements apart). THE CARD IS WHAT COUNTS. Prove the row's statement (the work); the ties are given (YtgcbcmhdlgklgaaDoorTie.lean); close each card by the builder's one call (the guide's Derived/Test/ToyasCard.lean, 'card_holds'). Laid BY PROGRAM, IN A SANDBOX (cutbox-door.mjs). By AI agents, Wed Nov 11 2026. No macro, syntax, notation, axiom, sorry.
-/
import Derived.Test.YtgcbcmhdlgklgaaDoorRows
import GoSem.ClaimSeven
namespace Go.Proofs.YtgcbcmhdlgklgaaDoor
namespace Rows

/-- THE TIED CARD OF 'coffretlaw09.WordsSplits'. -/
def wordsSplitsCard : Claim7 := { stood := { row := wordsSplitsRow, standIns := [], harness := (true, "7eb035e3b32e3408e9522d8fca1af3b134fec3e0ce18bc91930f6ac2df18e80b"), looks := false }, kinds := [], alts := [], laidByText := true, laidKinds := [.data, .pinned], laidTests := true, laidLooks := .later }
def WordsSplitsCardSaid : Prop := Claim7.holds Tryd.pinned (.plain (OpenSpec.ofChange wordsSplitsSpec)) wordsSplitsCard

/-- THE TIED CARD OF 'coffretlaw09.WordsTerms'. -/
def wordsTermsCard : Claim7 := { stood := { row := wordsTermsRow, standIns := [], harness := (true, "7eb035e3b32e3408e9522d8fca1af3b134fec3e0ce18bc91930f6ac2df18e80b"), looks := false }, kinds := [], alts := [], laidByText := true, laidKinds := [.data, .pinned], laidTests := true, laidLooks := .later }
def WordsTermsCardSaid : Prop := Claim7.holds Tryd.pinned (.plain (OpenSpec.ofChange wordsTermsSpec)) wordsTermsCard

/-- THE SECOND FORM's CARD OF 'coffretlaw09.WordsSplits'. -/
def wordsSplitsUptoCard : Claim7 := { stood := { row := wordsSplitsUptoRow, standIns := [], harness := (true, "7eb035e3b32e3408e9522d8fca1af3b134fec3e0ce18bc91930f6ac2df18e80b"), looks := false }, kinds := [], alts := [], laidByText := true, laidKinds := [.data, .pinned], laidTests := true, laidLooks := .later }
def WordsSplitsUptoCardSaid : Prop := Claim7.holds Tryd.pinned (.plain (OpenSpec.upto wordsSplitsSpec)) wordsSplitsUptoCard

/-- THE SECOND FORM's CARD OF 'coffretlaw09.WordsTerms'. -/
def wordsTermsUptoCard : Claim7 := { stood := { row := wordsTermsUptoRow, standIns := [], harness := (true, "7eb035e3b32e3408e9522d8fca1af3b134fec3e0ce18bc91930f6ac2df18e80b"), looks := false }, kinds := [], alts := [], laidByText := true, laidKinds := [.data, .pinned], laidTests := true, laidLooks := .later }
def WordsTermsUptoCardSaid : Prop := Claim7.holds Tryd.pinned (.plain (OpenSpec.upto wordsTermsSpec)) wordsTermsUptoCard
end Rows
end Go.Proofs.YtgcbcmhdlgklgaaDoor
