/-
  DERIVED. GIVEN WITH THE SEED: THE CARDS: each row of YtocpbkmflihcnaaDoorRows.lean that lists a variable, with what it lists TIED to the program's text (the seventh form; the later family's looks); each row that meets fmt, with fmt's text TOLD by the authors' own Lean function (tested against real Go, not proved from fmt's source: count such statements apart). THE CARD IS WHAT COUNTS. Prove the row's statement (the work); the ties are given (YtocpbkmflihcnaaDoorTie.lean); close each card by the builder's one call (the guide's Derived/Test/ToyasCard.lean, 'card_holds'). Laid BY PROGRAM, IN A SANDBOX (cutbox-door.mjs). By AI agents, Wed Nov 11 2026. No macro, syntax, notation, axiom, sorry.
-/
import Derived.Test.YtocpbkmflihcnaaDoorRows
import GoSem.ClaimSeven
namespace Go.Proofs.YtocpbkmflihcnaaDoor
namespace Rows

/-- THE TIED CARD OF 'coffretlaw11.SumAdds'. -/
def sumAddsCard : Claim7 := { stood := { row := sumAddsRow, standIns := [], harness := (true, "1c5a2ea349c120e5414049aa88a08a1f3acb14d64315dd82de292cb58f13fea3"), looks := false }, kinds := [], alts := [], laidByText := true, laidKinds := [.data, .data], laidTests := true, laidLooks := .later }
def SumAddsCardSaid : Prop := Claim7.holds Tryd.pinned (.plain (OpenSpec.ofChange sumAddsSpec)) sumAddsCard

/-- THE TIED CARD OF 'coffretlaw11.SumJoins'. -/
def sumJoinsCard : Claim7 := { stood := { row := sumJoinsRow, standIns := [], harness := (true, "1c5a2ea349c120e5414049aa88a08a1f3acb14d64315dd82de292cb58f13fea3"), looks := false }, kinds := [], alts := [], laidByText := true, laidKinds := [.data, .data], laidTests := true, laidLooks := .later }
def SumJoinsCardSaid : Prop := Claim7.holds Tryd.pinned (.plain (OpenSpec.ofChange sumJoinsSpec)) sumJoinsCard

/-- THE TIED CARD OF 'coffretlaw11.SumNumbers'. -/
def sumNumbersCard : Claim7 := { stood := { row := sumNumbersRow, standIns := [], harness := (true, "1c5a2ea349c120e5414049aa88a08a1f3acb14d64315dd82de292cb58f13fea3"), looks := false }, kinds := [], alts := [], laidByText := true, laidKinds := [.data, .data], laidTests := true, laidLooks := .later }
def SumNumbersCardSaid : Prop := Claim7.holds Tryd.pinned (.plain (OpenSpec.ofChange sumNumbersSpec)) sumNumbersCard

/-- THE TIED CARD OF 'coffretlaw11.SumParts'. -/
def sumPartsCard : Claim7 := { stood := { row := sumPartsRow, standIns := [], harness := (true, "1c5a2ea349c120e5414049aa88a08a1f3acb14d64315dd82de292cb58f13fea3"), looks := false }, kinds := [], alts := [], laidByText := true, laidKinds := [.data, .data], laidTests := true, laidLooks := .later }
def SumPartsCardSaid : Prop := Claim7.holds Tryd.pinned (.plain (OpenSpec.ofChange sumPartsSpec)) sumPartsCard

/-- THE TIED CARD OF 'coffretlaw11.SumTells'. -/
def sumTellsCard : Claim7 := { stood := { row := sumTellsRow, standIns := [], harness := (true, "1c5a2ea349c120e5414049aa88a08a1f3acb14d64315dd82de292cb58f13fea3"), looks := false }, kinds := [], alts := [], laidByText := true, laidKinds := [.data, .data], laidTests := true, laidLooks := .later }
def SumTellsCardSaid : Prop := Claim7.holds Tryd.pinned (.plain (OpenSpec.ofChange sumTellsSpec)) sumTellsCard

/-- THE TIED CARD OF 'coffretlaw11.SumBack'. -/
def sumBackCard : Claim7 := { stood := { row := sumBackRow, standIns := [], harness := (true, "1c5a2ea349c120e5414049aa88a08a1f3acb14d64315dd82de292cb58f13fea3"), looks := false }, kinds := [], alts := [], laidByText := true, laidKinds := [.data, .data], laidTests := true, laidLooks := .later }
def SumBackCardSaid : Prop := Claim7.holds Tryd.pinned (.plain (OpenSpec.ofChange sumBackSpec)) sumBackCard

/-- THE TIED CARD OF 'coffretlaw11.SumAffine'. -/
def sumAffineCard : Claim7 := { stood := { row := sumAffineRow, standIns := [], harness := (true, "1c5a2ea349c120e5414049aa88a08a1f3acb14d64315dd82de292cb58f13fea3"), looks := false }, kinds := [], alts := [], laidByText := true, laidKinds := [.data, .data], laidTests := true, laidLooks := .later }
def SumAffineCardSaid : Prop := Claim7.holds Tryd.pinned (.plain (OpenSpec.ofChange sumAffineSpec)) sumAffineCard

/-- THE SECOND FORM's CARD OF 'coffretlaw11.SumAdds'. -/
def sumAddsUptoCard : Claim7 := { stood := { row := sumAddsUptoRow, standIns := [], harness := (true, "1c5a2ea349c120e5414049aa88a08a1f3acb14d64315dd82de292cb58f13fea3"), looks := false }, kinds := [], alts := [], laidByText := true, laidKinds := [.data, .data], laidTests := true, laidLooks := .later }
def SumAddsUptoCardSaid : Prop := Claim7.holds Tryd.pinned (.plain (OpenSpec.upto sumAddsSpec)) sumAddsUptoCard

/-- THE SECOND FORM's CARD OF 'coffretlaw11.SumJoins'. -/
def sumJoinsUptoCard : Claim7 := { stood := { row := sumJoinsUptoRow, standIns := [], harness := (true, "1c5a2ea349c120e5414049aa88a08a1f3acb14d64315dd82de292cb58f13fea3"), looks := false }, kinds := [], alts := [], laidByText := true, laidKinds := [.data, .data], laidTests := true, laidLooks := .later }
def SumJoinsUptoCardSaid : Prop := Claim7.holds Tryd.pinned (.plain (OpenSpec.upto sumJoinsSpec)) sumJoinsUptoCard

/-- THE SECOND FORM's CARD OF 'coffretlaw11.SumNumbers'. -/
def sumNumbersUptoCard : Claim7 := { stood := { row := sumNumbersUptoRow, standIns := [], harness := (true, "1c5a2ea349c120e5414049aa88a08a1f3acb14d64315dd82de292cb58f13fea3"), looks := false }, kinds := [], alts := [], laidByText := true, laidKinds := [.data, .data], laidTests := true, laidLooks := .later }
def SumNumbersUptoCardSaid : Prop := Claim7.holds Tryd.pinned (.plain (OpenSpec.upto sumNumbersSpec)) sumNumbersUptoCard

/-- THE SECOND FORM's CARD OF 'coffretlaw11.SumParts'. -/
def sumPartsUptoCard : Claim7 := { stood := { row := sumPartsUptoRow, standIns := [], harness := (true, "1c5a2ea349c120e5414049aa88a08a1f3acb14d64315dd82de292cb58f13fea3"), looks := false }, kinds := [], alts := [], laidByText := true, laidKinds := [.data, .data], laidTests := true, laidLooks := .later }
def SumPartsUptoCardSaid : Prop := Claim7.holds Tryd.pinned (.plain (OpenSpec.upto sumPartsSpec)) sumPartsUptoCard

/-- THE SECOND FORM's CARD OF 'coffretlaw11.SumTells'. -/
def sumTellsUptoCard : Claim7 := { stood := { row := sumTellsUptoRow, standIns := [], harness := (true, "1c5a2ea349c120e5414049aa88a08a1f3acb14d64315dd82de292cb58f13fea3"), looks := false }, kinds := [], alts := [], laidByText := true, laidKinds := [.data, .data], laidTests := true, laidLooks := .later }
def SumTellsUptoCardSaid : Prop := Claim7.holds Tryd.pinned (.plain (OpenSpec.upto sumTellsSpec)) sumTellsUptoCard

/-- THE SECOND FORM's CARD OF 'coffretlaw11.SumBack'. -/
def sumBackUptoCard : Claim7 := { stood := { row := sumBackUptoRow, standIns := [], harness := (true, "1c5a2ea349c120e5414049aa88a08a1f3acb14d64315dd82de292cb58f13fea3"), looks := false }, kinds := [], alts := [], laidByText := true, laidKinds := [.data, .data], laidTests := true, laidLooks := .later }
def SumBackUptoCardSaid : Prop := Claim7.holds Tryd.pinned (.plain (OpenSpec.upto sumBackSpec)) sumBackUptoCard

/-- THE SECOND FORM's CARD OF 'coffretlaw11.SumAffine'. -/
def sumAffineUptoCard : Claim7 := { stood := { row := sumAffineUptoRow, standIns := [], harness := (true, "1c5a2ea349c120e5414049aa88a08a1f3acb14d64315dd82de292cb58f13fea3"), looks := false }, kinds := [], alts := [], laidByText := true, laidKinds := [.data, .data], laidTests := true, laidLooks := .later }
def SumAffineUptoCardSaid : Prop := Claim7.holds Tryd.pinned (.plain (OpenSpec.upto sumAffineSpec)) sumAffineUptoCard
end Rows
end Go.Proofs.YtocpbkmflihcnaaDoor
