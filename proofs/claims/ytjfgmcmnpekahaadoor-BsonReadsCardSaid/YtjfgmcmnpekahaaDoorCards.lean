/-
  DERIVED. GIVEN WITH THE SEED: THE CARDS: each row of YtjfgmcmnpekahaaDoorRows.lean that lists a variable, with what it lists TIED to the program's text (the seventh form; the later family's looks); each row that meets fmt, with fmt's text TOLD by the authors' own Lean function (tested against real Go, not proved from fmt's source: count such statements apart). THE CARD IS WHAT COUNTS. Prove the row's statement (the work); the ties are given (YtjfgmcmnpekahaaDoorTie.lean); close each card by the builder's one call (the guide's Derived/Test/ToyasCard.lean, 'card_holds'). Laid BY PROGRAM, IN A SANDBOX (cutbox-door.mjs). By AI agents, Wed Nov 11 2026. No macro, syntax, notation, axiom, sorry.
-/
import Derived.Test.YtjfgmcmnpekahaaDoorRows
import GoSem.ClaimSeven
namespace Go.Proofs.YtjfgmcmnpekahaaDoor
namespace Rows

/-- THE TIED CARD OF 'coffretlaw02.BsonWrites'. -/
def bsonWritesCard : Claim7 := { stood := { row := bsonWritesRow, standIns := [], harness := (true, "e18551b2f5ab862d5fe545c531e1ed602702cfd6fe4cd0d455d22089f8370f92"), looks := true }, kinds := [], alts := [], laidByText := true, laidKinds := [.data, .data, .data, .data, .data, .pinned], laidTests := true, laidLooks := .later }
def BsonWritesCardSaid : Prop := Claim7.holds Tryd.pinned (.plain (OpenSpec.ofChange bsonWritesSpec)) bsonWritesCard

/-- THE TIED CARD OF 'coffretlaw02.BsonReads'. -/
def bsonReadsCard : Claim7 := { stood := { row := bsonReadsRow, standIns := [], harness := (true, "e18551b2f5ab862d5fe545c531e1ed602702cfd6fe4cd0d455d22089f8370f92"), looks := true }, kinds := [], alts := [], laidByText := true, laidKinds := [.data, .data, .data, .data, .data, .pinned], laidTests := true, laidLooks := .later }
def BsonReadsCardSaid : Prop := Claim7.holds Tryd.pinned (.plain (OpenSpec.ofChange bsonReadsSpec)) bsonReadsCard

/-- THE TIED CARD OF 'coffretlaw02.BsonBack'. -/
def bsonBackCard : Claim7 := { stood := { row := bsonBackRow, standIns := [], harness := (true, "e18551b2f5ab862d5fe545c531e1ed602702cfd6fe4cd0d455d22089f8370f92"), looks := true }, kinds := [], alts := [], laidByText := true, laidKinds := [.data, .data, .data, .data, .data, .pinned], laidTests := true, laidLooks := .later }
def BsonBackCardSaid : Prop := Claim7.holds Tryd.pinned (.plain (OpenSpec.ofChange bsonBackSpec)) bsonBackCard

/-- THE TIED CARD OF 'coffretlaw02.BsonForm'. -/
def bsonFormCard : Claim7 := { stood := { row := bsonFormRow, standIns := [], harness := (true, "e18551b2f5ab862d5fe545c531e1ed602702cfd6fe4cd0d455d22089f8370f92"), looks := true }, kinds := [], alts := [], laidByText := true, laidKinds := [.data, .data, .data, .data, .data, .pinned], laidTests := true, laidLooks := .later }
def BsonFormCardSaid : Prop := Claim7.holds Tryd.pinned (.plain (OpenSpec.ofChange bsonFormSpec)) bsonFormCard

/-- THE TIED CARD OF 'coffretlaw02.BsonTurned'. -/
def bsonTurnedCard : Claim7 := { stood := { row := bsonTurnedRow, standIns := [], harness := (true, "e18551b2f5ab862d5fe545c531e1ed602702cfd6fe4cd0d455d22089f8370f92"), looks := true }, kinds := [], alts := [], laidByText := true, laidKinds := [.data, .data, .data, .data, .data, .pinned], laidTests := true, laidLooks := .later }
def BsonTurnedCardSaid : Prop := Claim7.holds Tryd.pinned (.plain (OpenSpec.ofChange bsonTurnedSpec)) bsonTurnedCard

/-- THE SECOND FORM's CARD OF 'coffretlaw02.BsonWrites'. -/
def bsonWritesUptoCard : Claim7 := { stood := { row := bsonWritesUptoRow, standIns := [], harness := (true, "e18551b2f5ab862d5fe545c531e1ed602702cfd6fe4cd0d455d22089f8370f92"), looks := true }, kinds := [], alts := [], laidByText := true, laidKinds := [.data, .data, .data, .data, .data, .pinned], laidTests := true, laidLooks := .later }
def BsonWritesUptoCardSaid : Prop := Claim7.holds Tryd.pinned (.plain (OpenSpec.upto bsonWritesSpec)) bsonWritesUptoCard

/-- THE SECOND FORM's CARD OF 'coffretlaw02.BsonReads'. -/
def bsonReadsUptoCard : Claim7 := { stood := { row := bsonReadsUptoRow, standIns := [], harness := (true, "e18551b2f5ab862d5fe545c531e1ed602702cfd6fe4cd0d455d22089f8370f92"), looks := true }, kinds := [], alts := [], laidByText := true, laidKinds := [.data, .data, .data, .data, .data, .pinned], laidTests := true, laidLooks := .later }
def BsonReadsUptoCardSaid : Prop := Claim7.holds Tryd.pinned (.plain (OpenSpec.upto bsonReadsSpec)) bsonReadsUptoCard

/-- THE SECOND FORM's CARD OF 'coffretlaw02.BsonBack'. -/
def bsonBackUptoCard : Claim7 := { stood := { row := bsonBackUptoRow, standIns := [], harness := (true, "e18551b2f5ab862d5fe545c531e1ed602702cfd6fe4cd0d455d22089f8370f92"), looks := true }, kinds := [], alts := [], laidByText := true, laidKinds := [.data, .data, .data, .data, .data, .pinned], laidTests := true, laidLooks := .later }
def BsonBackUptoCardSaid : Prop := Claim7.holds Tryd.pinned (.plain (OpenSpec.upto bsonBackSpec)) bsonBackUptoCard

/-- THE SECOND FORM's CARD OF 'coffretlaw02.BsonForm'. -/
def bsonFormUptoCard : Claim7 := { stood := { row := bsonFormUptoRow, standIns := [], harness := (true, "e18551b2f5ab862d5fe545c531e1ed602702cfd6fe4cd0d455d22089f8370f92"), looks := true }, kinds := [], alts := [], laidByText := true, laidKinds := [.data, .data, .data, .data, .data, .pinned], laidTests := true, laidLooks := .later }
def BsonFormUptoCardSaid : Prop := Claim7.holds Tryd.pinned (.plain (OpenSpec.upto bsonFormSpec)) bsonFormUptoCard

/-- THE SECOND FORM's CARD OF 'coffretlaw02.BsonTurned'. -/
def bsonTurnedUptoCard : Claim7 := { stood := { row := bsonTurnedUptoRow, standIns := [], harness := (true, "e18551b2f5ab862d5fe545c531e1ed602702cfd6fe4cd0d455d22089f8370f92"), looks := true }, kinds := [], alts := [], laidByText := true, laidKinds := [.data, .data, .data, .data, .data, .pinned], laidTests := true, laidLooks := .later }
def BsonTurnedUptoCardSaid : Prop := Claim7.holds Tryd.pinned (.plain (OpenSpec.upto bsonTurnedSpec)) bsonTurnedUptoCard
end Rows
end Go.Proofs.YtjfgmcmnpekahaaDoor
