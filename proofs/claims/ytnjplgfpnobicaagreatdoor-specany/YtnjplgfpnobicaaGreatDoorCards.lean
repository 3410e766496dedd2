/-
  DERIVED. GIVEN WITH THE SEED: THE CARDS: each row of YtnjplgfpnobicaaGreatDoorRows.lean that lists a variable, with what it lists TIED to the program's text (the seventh form; the later family's looks); each row that meets fmt, with fmt's text TOLD by the authors' own Lean function (tested against real Go, not proved from fmt's source: count such statements apart). THE CARD IS WHAT COUNTS. Prove the row's statement (the work); the ties are given (YtnjplgfpnobicaaGreatDoorTie.lean); close each card by the builder's one call (the guide's Derived/Test/ToyasCard.lean, 'card_holds'). Laid BY PROGRAM, IN A SANDBOX (cutbox-door.mjs). By AI agents, Wed Nov 11 2026. No macro, syntax, notation, axiom, sorry.
-/
import Derived.Test.YtnjplgfpnobicaaGreatDoorRows
import GoSem.ClaimSeven
namespace Go.Proofs.YtnjplgfpnobicaaGreatDoor
namespace Rows

/-- THE TIED CARD OF 'hecklelaw06.SpecAny'. -/
def specAnyCard : Claim7 := { stood := { row := specAnyRow, standIns := [], harness := (true, "f804293ecfff4b8006bf40aa4dfd234f27cbc1f2657755f73dcdb83911b6e4ff"), looks := true }, kinds := [], alts := [], laidByText := true, laidKinds := [.data, .data, .data], laidTests := true, laidLooks := .later }
def SpecAnyCardSaid : Prop := Claim7.holds Tryz.pinned (.plain (OpenSpec.ofChange specAnySpec)) specAnyCard

/-- THE TIED CARD OF 'hecklelaw06.SpecMade'. -/
def specMadeCard : Claim7 := { stood := { row := specMadeRow, standIns := [], harness := (true, "f804293ecfff4b8006bf40aa4dfd234f27cbc1f2657755f73dcdb83911b6e4ff"), looks := true }, kinds := [], alts := [], laidByText := true, laidKinds := [.data, .data, .data], laidTests := true, laidLooks := .later }
def SpecMadeCardSaid : Prop := Claim7.holds Tryz.pinned (.plain (OpenSpec.ofChange specMadeSpec)) specMadeCard

/-- THE TIED CARD OF 'hecklelaw06.SpecSpoilt'. -/
def specSpoiltCard : Claim7 := { stood := { row := specSpoiltRow, standIns := [], harness := (true, "f804293ecfff4b8006bf40aa4dfd234f27cbc1f2657755f73dcdb83911b6e4ff"), looks := true }, kinds := [], alts := [], laidByText := true, laidKinds := [.data, .data, .data], laidTests := true, laidLooks := .later }
def SpecSpoiltCardSaid : Prop := Claim7.holds Tryz.pinned (.plain (OpenSpec.ofChange specSpoiltSpec)) specSpoiltCard

/-- THE TIED CARD OF 'hecklelaw07.RulesLimits'. -/
def rulesLimitsCard : Claim7 := { stood := { row := rulesLimitsRow, standIns := [], harness := (true, "f804293ecfff4b8006bf40aa4dfd234f27cbc1f2657755f73dcdb83911b6e4ff"), looks := true }, kinds := [], alts := [], laidByText := true, laidKinds := [.data, .data, .data, .handle], laidTests := true, laidLooks := .later }
def RulesLimitsCardSaid : Prop := Claim7.holds Tryz.pinned (.plain (OpenSpec.ofChange rulesLimitsSpec)) rulesLimitsCard

/-- THE TIED CARD OF 'hecklelaw07.RulesBack'. -/
def rulesBackCard : Claim7 := { stood := { row := rulesBackRow, standIns := [], harness := (true, "f804293ecfff4b8006bf40aa4dfd234f27cbc1f2657755f73dcdb83911b6e4ff"), looks := true }, kinds := [], alts := [], laidByText := true, laidKinds := [.data, .data, .data, .handle], laidTests := true, laidLooks := .later }
def RulesBackCardSaid : Prop := Claim7.holds Tryz.pinned (.plain (OpenSpec.ofChange rulesBackSpec)) rulesBackCard

/-- THE SECOND FORM's CARD OF 'hecklelaw06.SpecAny'. -/
def specAnyUptoCard : Claim7 := { stood := { row := specAnyUptoRow, standIns := [], harness := (true, "f804293ecfff4b8006bf40aa4dfd234f27cbc1f2657755f73dcdb83911b6e4ff"), looks := true }, kinds := [], alts := [], laidByText := true, laidKinds := [.data, .data, .data], laidTests := true, laidLooks := .later }
def SpecAnyUptoCardSaid : Prop := Claim7.holds Tryz.pinned (.plain (OpenSpec.upto specAnySpec)) specAnyUptoCard

/-- THE SECOND FORM's CARD OF 'hecklelaw06.SpecMade'. -/
def specMadeUptoCard : Claim7 := { stood := { row := specMadeUptoRow, standIns := [], harness := (true, "f804293ecfff4b8006bf40aa4dfd234f27cbc1f2657755f73dcdb83911b6e4ff"), looks := true }, kinds := [], alts := [], laidByText := true, laidKinds := [.data, .data, .data], laidTests := true, laidLooks := .later }
def SpecMadeUptoCardSaid : Prop := Claim7.holds Tryz.pinned (.plain (OpenSpec.upto specMadeSpec)) specMadeUptoCard

/-- THE SECOND FORM's CARD OF 'hecklelaw06.SpecSpoilt'. -/
def specSpoiltUptoCard : Claim7 := { stood := { row := specSpoiltUptoRow, standIns := [], harness := (true, "f804293ecfff4b8006bf40aa4dfd234f27cbc1f2657755f73dcdb83911b6e4ff"), looks := true }, kinds := [], alts := [], laidByText := true, laidKinds := [.data, .data, .data], laidTests := true, laidLooks := .later }
def SpecSpoiltUptoCardSaid : Prop := Claim7.holds Tryz.pinned (.plain (OpenSpec.upto specSpoiltSpec)) specSpoiltUptoCard

/-- THE SECOND FORM's CARD OF 'hecklelaw07.RulesLimits'. -/
def rulesLimitsUptoCard : Claim7 := { stood := { row := rulesLimitsUptoRow, standIns := [], harness := (true, "f804293ecfff4b8006bf40aa4dfd234f27cbc1f2657755f73dcdb83911b6e4ff"), looks := true }, kinds := [], alts := [], laidByText := true, laidKinds := [.data, .data, .data, .handle], laidTests := true, laidLooks := .later }
def RulesLimitsUptoCardSaid : Prop := Claim7.holds Tryz.pinned (.plain (OpenSpec.upto rulesLimitsSpec)) rulesLimitsUptoCard

/-- THE SECOND FORM's CARD OF 'hecklelaw07.RulesBack'. -/
def rulesBackUptoCard : Claim7 := { stood := { row := rulesBackUptoRow, standIns := [], harness := (true, "f804293ecfff4b8006bf40aa4dfd234f27cbc1f2657755f73dcdb83911b6e4ff"), looks := true }, kinds := [], alts := [], laidByText := true, laidKinds := [.data, .data, .data, .handle], laidTests := true, laidLooks := .later }
def RulesBackUptoCardSaid : Prop := Claim7.holds Tryz.pinned (.plain (OpenSpec.upto rulesBackSpec)) rulesBackUptoCard
end Rows
end Go.Proofs.YtnjplgfpnobicaaGreatDoor
