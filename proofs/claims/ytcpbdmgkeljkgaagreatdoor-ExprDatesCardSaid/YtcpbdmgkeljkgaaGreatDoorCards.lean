/-
  DERIVED. GIVEN WITH THE SEED: THE CARDS: each row of YtcpbdmgkeljkgaaGreatDoorRows.lean that lists a variable, with what it lists TIED to the program's text (the seventh form; the later family's looks); each row that meets fmt, with fmt's text TOLD by the authors' own Lean function (tested against real Go, not proved from fmt's source: count such statements apart). THE CARD IS WHAT COUNTS. Prove the row's statement (the work); the ties are given (YtcpbdmgkeljkgaaGreatDoorTie.lean); close each card by the builder's one call (the guide's Derived/Test/ToyasCard.lean, 'card_holds'). Laid BY PROGRAM, IN A SANDBOX (cutbox-door.mjs). By AI agents, Wed Nov 11 2026. No macro, syntax, notation, axiom, sorry.
-/
import Derived.Test.YtcpbdmgkeljkgaaGreatDoorRows
import GoSem.ClaimSeven
namespace Go.Proofs.YtcpbdmgkeljkgaaGreatDoor
namespace Rows

/-- THE TIED CARD OF 'coffretlaw05.ExprSums'. -/
def exprSumsCard : Claim7 := { stood := { row := exprSumsRow, standIns := [], harness := (true, "271055efe7e920855bb28f26e8963b9e504c5b9471b026e0af211b217cf7e80a"), looks := true }, kinds := [], alts := [], laidByText := true, laidKinds := [.data, .data, .data, .data, .sentinel, .sentinel, .pinned], laidTests := true, laidLooks := .later }
def ExprSumsCardSaid : Prop := Claim7.holds Tryz.pinned (.plain (OpenSpec.ofChange exprSumsSpec)) exprSumsCard

/-- THE TIED CARD OF 'coffretlaw05.ExprDates'. -/
def exprDatesCard : Claim7 := { stood := { row := exprDatesRow, standIns := [], harness := (true, "271055efe7e920855bb28f26e8963b9e504c5b9471b026e0af211b217cf7e80a"), looks := true }, kinds := [], alts := [], laidByText := true, laidKinds := [.data, .data, .data, .data, .sentinel, .sentinel, .pinned], laidTests := true, laidLooks := .later }
def ExprDatesCardSaid : Prop := Claim7.holds Tryz.pinned (.plain (OpenSpec.ofChange exprDatesSpec)) exprDatesCard

/-- THE SECOND FORM's CARD OF 'coffretlaw05.ExprSums'. -/
def exprSumsUptoCard : Claim7 := { stood := { row := exprSumsUptoRow, standIns := [], harness := (true, "271055efe7e920855bb28f26e8963b9e504c5b9471b026e0af211b217cf7e80a"), looks := true }, kinds := [], alts := [], laidByText := true, laidKinds := [.data, .data, .data, .data, .sentinel, .sentinel, .pinned], laidTests := true, laidLooks := .later }
def ExprSumsUptoCardSaid : Prop := Claim7.holds Tryz.pinned (.plain (OpenSpec.upto exprSumsSpec)) exprSumsUptoCard

/-- THE SECOND FORM's CARD OF 'coffretlaw05.ExprDates'. -/
def exprDatesUptoCard : Claim7 := { stood := { row := exprDatesUptoRow, standIns := [], harness := (true, "271055efe7e920855bb28f26e8963b9e504c5b9471b026e0af211b217cf7e80a"), looks := true }, kinds := [], alts := [], laidByText := true, laidKinds := [.data, .data, .data, .data, .sentinel, .sentinel, .pinned], laidTests := true, laidLooks := .later }
def ExprDatesUptoCardSaid : Prop := Claim7.holds Tryz.pinned (.plain (OpenSpec.upto exprDatesSpec)) exprDatesUptoCard
end Rows
end Go.Proofs.YtcpbdmgkeljkgaaGreatDoor
