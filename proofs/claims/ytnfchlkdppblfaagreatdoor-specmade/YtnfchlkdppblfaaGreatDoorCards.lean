/-
  DERIVED. GIVEN WITH THE SEED: THE CARDS: each row of YtnfchlkdppblfaaGreatDoorRows.lean that lists a variable, with what it lists TIED to the program's text (the seventh form; the later family's looks); each row that meets fmt, with fmt's text TOLD by the authors' own Lean function (tested against real Go, not proved from fmt's source: count such statements apart). THE CARD IS WHAT COUNTS. Prove the row's statement (the work); the ties are given (YtnfchlkdppblfaaGreatDoorTie.lean); close each card by the builder's one call (the guide's Derived/Test/ToyasCard.lean, 'card_holds'). Laid BY PROGRAM, IN A SANDBOX (cutbox-door.mjs). By AI agents, Wed Nov 11 2026. No macro, syntax, notation, axiom, sorry.
-/
import Derived.Test.YtnfchlkdppblfaaGreatDoorRows
import GoSem.ClaimSeven
namespace Go.Proofs.YtnfchlkdppblfaaGreatDoor
namespace Rows

/-- THE TIED CARD OF 'hecklelaw04.ReadDeep'. -/
def readDeepCard : Claim7 := { stood := { row := readDeepRow, standIns := [], harness := (true, "8a08a9813c18401ade47ef5e395707809785b7ede99f5b4768ab571a5b583af9"), looks := true }, kinds := [], alts := [], laidByText := true, laidKinds := [.handle], laidTests := true, laidLooks := .later }
def ReadDeepCardSaid : Prop := Claim7.holds Tryz.pinned (.plain (OpenSpec.ofChange readDeepSpec)) readDeepCard

/-- THE TIED CARD OF 'hecklelaw06.SpecMade'. -/
def specMadeCard : Claim7 := { stood := { row := specMadeRow, standIns := [], harness := (true, "8a08a9813c18401ade47ef5e395707809785b7ede99f5b4768ab571a5b583af9"), looks := true }, kinds := [], alts := [], laidByText := true, laidKinds := [.data, .data, .data], laidTests := true, laidLooks := .later }
def SpecMadeCardSaid : Prop := Claim7.holds Tryz.pinned (.plain (OpenSpec.ofChange specMadeSpec)) specMadeCard

/-- THE TIED CARD OF 'hecklelaw06.SpecSpoilt'. -/
def specSpoiltCard : Claim7 := { stood := { row := specSpoiltRow, standIns := [], harness := (true, "8a08a9813c18401ade47ef5e395707809785b7ede99f5b4768ab571a5b583af9"), looks := true }, kinds := [], alts := [], laidByText := true, laidKinds := [.data, .data, .data], laidTests := true, laidLooks := .later }
def SpecSpoiltCardSaid : Prop := Claim7.holds Tryz.pinned (.plain (OpenSpec.ofChange specSpoiltSpec)) specSpoiltCard

/-- THE TIED CARD OF 'hecklelaw07.RulesLimits'. -/
def rulesLimitsCard : Claim7 := { stood := { row := rulesLimitsRow, standIns := [], harness := (true, "8a08a9813c18401ade47ef5e395707809785b7ede99f5b4768ab571a5b583af9"), looks := true }, kinds := [], alts := [], laidByText := true, laidKinds := [.data, .data, .data, .handle], laidTests := true, laidLooks := .later }
def RulesLimitsCardSaid : Prop := Claim7.holds Tryz.pinned (.plain (OpenSpec.ofChange rulesLimitsSpec)) rulesLimitsCard

/-- THE TIED CARD OF 'hecklelaw07.RulesBack'. -/
def rulesBackCard : Claim7 := { stood := { row := rulesBackRow, standIns := [], harness := (true, "8a08a9813c18401ade47ef5e395707809785b7ede99f5b4768ab571a5b583af9"), looks := true }, kinds := [], alts := [], laidByText := true, laidKinds := [.data, .data, .data, .handle], laidTests := true, laidLooks := .later }
def RulesBackCardSaid : Prop := Claim7.holds Tryz.pinned (.plain (OpenSpec.ofChange rulesBackSpec)) rulesBackCard

/-- THE SECOND FORM's CARD OF 'hecklelaw04.ReadDeep'. -/
def readDeepUptoCard : Claim7 := { stood := { row := readDeepUptoRow, standIns := [], harness := (true, "8a08a9813c18401ade47ef5e395707809785b7ede99f5b4768ab571a5b583af9"), looks := true }, kinds := [], alts := [], laidByText := true, laidKinds := [.handle], laidTests := true, laidLooks := .later }
def ReadDeepUptoCardSaid : Prop := Claim7.holds Tryz.pinned (.plain (OpenSpec.upto readDeepSpec)) readDeepUptoCard

/-- THE SECOND FORM's CARD OF 'hecklelaw06.SpecMade'. -/
def specMadeUptoCard : Claim7 := { stood := { row := specMadeUptoRow, standIns := [], harness := (true, "8a08a9813c18401ade47ef5e395707809785b7ede99f5b4768ab571a5b583af9"), looks := true }, kinds := [], alts := [], laidByText := true, laidKinds := [.data, .data, .data], laidTests := true, laidLooks := .later }
def SpecMadeUptoCardSaid : Prop := Claim7.holds Tryz.pinned (.plain (OpenSpec.upto specMadeSpec)) specMadeUptoCard

/-- THE SECOND FORM's CARD OF 'hecklelaw06.SpecSpoilt'. -/
def specSpoiltUptoCard : Claim7 := { stood := { row := specSpoiltUptoRow, standIns := [], harness := (true, "8a08a9813c18401ade47ef5e395707809785b7ede99f5b4768ab571a5b583af9"), looks := true }, kinds := [], alts := [], laidByText := true, laidKinds := [.data, .data, .data], laidTests := true, laidLooks := .later }
def SpecSpoiltUptoCardSaid : Prop := Claim7.holds Tryz.pinned (.plain (OpenSpec.upto specSpoiltSpec)) specSpoiltUptoCard

/-- THE SECOND FORM's CARD OF 'hecklelaw07.RulesLimits'. -/
def rulesLimitsUptoCard : Claim7 := { stood := { row := rulesLimitsUptoRow, standIns := [], harness := (true, "8a08a9813c18401ade47ef5e395707809785b7ede99f5b4768ab571a5b583af9"), looks := true }, kinds := [], alts := [], laidByText := true, laidKinds := [.data, .data, .data, .handle], laidTests := true, laidLooks := .later }
def RulesLimitsUptoCardSaid : Prop := Claim7.holds Tryz.pinned (.plain (OpenSpec.upto rulesLimitsSpec)) rulesLimitsUptoCard

/-- THE SECOND FORM's CARD OF 'hecklelaw07.RulesBack'. -/
def rulesBackUptoCard : Claim7 := { stood := { row := rulesBackUptoRow, standIns := [], harness := (true, "8a08a9813c18401ade47ef5e395707809785b7ede99f5b4768ab571a5b583af9"), looks := true }, kinds := [], alts := [], laidByText := true, laidKinds := [.data, .data, .data, .handle], laidTests := true, laidLooks := .later }
def RulesBackUptoCardSaid : Prop := Claim7.holds Tryz.pinned (.plain (OpenSpec.upto rulesBackSpec)) rulesBackUptoCard
end Rows
end Go.Proofs.YtnfchlkdppblfaaGreatDoor
