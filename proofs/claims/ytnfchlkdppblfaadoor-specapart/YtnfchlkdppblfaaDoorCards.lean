/-
  DERIVED. GIVEN WITH THE SEED: THE CARDS: each row of YtnfchlkdppblfaaDoorRows.lean that lists a variable, with what it lists TIED to the program's text (the seventh form; the later family's looks); each row that meets fmt, with fmt's text TOLD by the authors' own Lean function (tested against real Go, not proved from fmt's source: count such statements apart). THE CARD IS WHAT COUNTS. Prove the row's statement (the work); the ties are given (YtnfchlkdppblfaaDoorTie.lean); close each card by the builder's one call (the guide's Derived/Test/ToyasCard.lean, 'card_holds'). Laid BY PROGRAM, IN A SANDBOX (cutbox-door.mjs). By AI agents, Wed Nov 11 2026. No macro, syntax, notation, axiom, sorry.
-/
import Derived.Test.YtnfchlkdppblfaaDoorRows
import GoSem.ClaimSeven
namespace Go.Proofs.YtnfchlkdppblfaaDoor
namespace Rows

/-- THE TIED CARD OF 'hecklelaw03.RxSpoilt'. -/
def rxSpoiltCard : Claim7 := { stood := { row := rxSpoiltRow, standIns := [], harness := (true, "455d7d87f78ef0e1d8c0a3381d53689a9d3e2969d9ef3a0484f1e88bfc28650d"), looks := false }, kinds := [], alts := [], laidByText := true, laidKinds := [.data, .data, .data], laidTests := true, laidLooks := .later }
def RxSpoiltCardSaid : Prop := Claim7.holds Tryd.pinned (.plain (OpenSpec.ofChange rxSpoiltSpec)) rxSpoiltCard

/-- THE TIED CARD OF 'hecklelaw06.SpecApart'. -/
def specApartCard : Claim7 := { stood := { row := specApartRow, standIns := [], harness := (true, "455d7d87f78ef0e1d8c0a3381d53689a9d3e2969d9ef3a0484f1e88bfc28650d"), looks := false }, kinds := [], alts := [], laidByText := true, laidKinds := [.data, .data, .data], laidTests := true, laidLooks := .later }
def SpecApartCardSaid : Prop := Claim7.holds Tryd.pinned (.plain (OpenSpec.ofChange specApartSpec)) specApartCard

/-- THE SECOND FORM's CARD OF 'hecklelaw03.RxSpoilt'. -/
def rxSpoiltUptoCard : Claim7 := { stood := { row := rxSpoiltUptoRow, standIns := [], harness := (true, "455d7d87f78ef0e1d8c0a3381d53689a9d3e2969d9ef3a0484f1e88bfc28650d"), looks := false }, kinds := [], alts := [], laidByText := true, laidKinds := [.data, .data, .data], laidTests := true, laidLooks := .later }
def RxSpoiltUptoCardSaid : Prop := Claim7.holds Tryd.pinned (.plain (OpenSpec.upto rxSpoiltSpec)) rxSpoiltUptoCard

/-- THE SECOND FORM's CARD OF 'hecklelaw06.SpecApart'. -/
def specApartUptoCard : Claim7 := { stood := { row := specApartUptoRow, standIns := [], harness := (true, "455d7d87f78ef0e1d8c0a3381d53689a9d3e2969d9ef3a0484f1e88bfc28650d"), looks := false }, kinds := [], alts := [], laidByText := true, laidKinds := [.data, .data, .data], laidTests := true, laidLooks := .later }
def SpecApartUptoCardSaid : Prop := Claim7.holds Tryd.pinned (.plain (OpenSpec.upto specApartSpec)) specApartUptoCard
end Rows
end Go.Proofs.YtnfchlkdppblfaaDoor
