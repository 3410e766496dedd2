/-
  No cell of these rows narrows 'for every input' (looked for: loops, veiled, ifaces, maps, wideKeys, modest, calm, conditions, laid).
  DERIVED. THE GIVEN ROWS OF THIS SEAT. 5 by the template 'for every input the law returns true; each argument reads behind the call as it read before'; 0 by the template 'total and deterministic' (their statements: YtjjnpobppmmgbaaTotals.lean).
  GIVEN WITH THE SEED: the statements are not yours to turn. If you find one false, say at which input.
  Laid BY PROGRAM, IN A SANDBOX (cutbox-rows.mjs): the forced cells as the released guide's own fill.sh prints them over the translation 5b257f9921feb375… (all of the seat's roots in one cut). By AI agents, Wed Nov 11 2026. No macro, syntax, notation, axiom, sorry.
-/
import Derived.Test.YtjjnpobppmmgbaaChecked
import GoSem.Claim
import GoSem.ClaimJoined
import GoSem.ClaimMapViews
import Derived.JoinedTies
import Derived.KernelRfl
namespace Go.Proofs.Ytjjnpobppmmgbaa
/- THE CELL 'sum', in the pinned program and in every row, IS THE sha256 OF THE DUMP (.gsa) THAT YtjjnpobppmmgbaaProg.lean LOADS. Nothing in Lean hashes anything: it is a label: what it is worth is what the hold of that sum in a sandbox is worth. -/
noncomputable def Try.pinned : Pinned := { name := "ytjjnpobppmmgbaa", sum := "5b257f9921feb3750b1efea9c533f2ba3cb5e3502bb696fdf5d2ec814be74dbf", checked := Try.checked }
namespace Rows
def none {H : Type} : Left H := { results := [], args := [] }

/-- 'hecklelaw02.PartSplit': WHATEVER THE INPUT: true; the input reads as it did. -/
def partSplitSpec : ChangeSpec := { name := "partSplit", fn := fun _ => fun
  | [d] => { results := [.lit (.bool true)], args := [d] }
  | _ => none }
def partSplitRow : OpenClaim := { program := "ytjjnpobppmmgbaa", sum := "5b257f9921feb3750b1efea9c533f2ba3cb5e3502bb696fdf5d2ec814be74dbf", func := "heckle/hecklelaw02.PartSplit", spec := "partSplit", plainKeys := false, apart := false }
def PartSplitSaid : Prop := partSplitRow.holds Try.pinned (OpenSpec.ofChange partSplitSpec)

/-- ITS FALSE NEIGHBOUR: 'it returns false'. Refute it at one input. -/
def partSplitWrong : ChangeSpec := { name := "partSplit", fn := fun _ => fun
  | [d] => { results := [.lit (.bool false)], args := [d] }
  | _ => none }
def PartSplitWrongFalsely : Prop := partSplitRow.holds Try.pinned (OpenSpec.ofChange partSplitWrong)

/-- 'hecklelaw02.PartRuns': WHATEVER THE INPUT: true; the input reads as it did. -/
def partRunsSpec : ChangeSpec := { name := "partRuns", fn := fun _ => fun
  | [d] => { results := [.lit (.bool true)], args := [d] }
  | _ => none }
def partRunsRow : OpenClaim := { program := "ytjjnpobppmmgbaa", sum := "5b257f9921feb3750b1efea9c533f2ba3cb5e3502bb696fdf5d2ec814be74dbf", func := "heckle/hecklelaw02.PartRuns", spec := "partRuns", plainKeys := false, apart := false }
def PartRunsSaid : Prop := partRunsRow.holds Try.pinned (OpenSpec.ofChange partRunsSpec)

/-- ITS FALSE NEIGHBOUR: 'it returns false'. Refute it at one input. -/
def partRunsWrong : ChangeSpec := { name := "partRuns", fn := fun _ => fun
  | [d] => { results := [.lit (.bool false)], args := [d] }
  | _ => none }
def PartRunsWrongFalsely : Prop := partRunsRow.holds Try.pinned (OpenSpec.ofChange partRunsWrong)

/-- 'hecklelaw02.PartLeast': WHATEVER THE INPUT: true; the input reads as it did. -/
def partLeastSpec : ChangeSpec := { name := "partLeast", fn := fun _ => fun
  | [d1, d2] => { results := [.lit (.bool true)], args := [d1, d2] }
  | _ => none }
def partLeastRow : OpenClaim := { program := "ytjjnpobppmmgbaa", sum := "5b257f9921feb3750b1efea9c533f2ba3cb5e3502bb696fdf5d2ec814be74dbf", func := "heckle/hecklelaw02.PartLeast", spec := "partLeast", plainKeys := false, apart := false }
def PartLeastSaid : Prop := partLeastRow.holds Try.pinned (OpenSpec.ofChange partLeastSpec)

/-- ITS FALSE NEIGHBOUR: 'it returns false'. Refute it at one input. -/
def partLeastWrong : ChangeSpec := { name := "partLeast", fn := fun _ => fun
  | [d1, d2] => { results := [.lit (.bool false)], args := [d1, d2] }
  | _ => none }
def PartLeastWrongFalsely : Prop := partLeastRow.holds Try.pinned (OpenSpec.ofChange partLeastWrong)

/-- 'hecklelaw02.PartMore': WHATEVER THE INPUT: true; the input reads as it did. -/
def partMoreSpec : ChangeSpec := { name := "partMore", fn := fun _ => fun
  | [d1, d2] => { results := [.lit (.bool true)], args := [d1, d2] }
  | _ => none }
def partMoreRow : OpenClaim := { program := "ytjjnpobppmmgbaa", sum := "5b257f9921feb3750b1efea9c533f2ba3cb5e3502bb696fdf5d2ec814be74dbf", func := "heckle/hecklelaw02.PartMore", spec := "partMore", plainKeys := false, apart := false }
def PartMoreSaid : Prop := partMoreRow.holds Try.pinned (OpenSpec.ofChange partMoreSpec)

/-- ITS FALSE NEIGHBOUR: 'it returns false'. Refute it at one input. -/
def partMoreWrong : ChangeSpec := { name := "partMore", fn := fun _ => fun
  | [d1, d2] => { results := [.lit (.bool false)], args := [d1, d2] }
  | _ => none }
def PartMoreWrongFalsely : Prop := partMoreRow.holds Try.pinned (OpenSpec.ofChange partMoreWrong)

/-- 'hecklelaw02.PartTold': WHATEVER THE INPUT: true; the input reads as it did. -/
def partToldSpec : ChangeSpec := { name := "partTold", fn := fun _ => fun
  | [d1, d2, d3] => { results := [.lit (.bool true)], args := [d1, d2, d3] }
  | _ => none }
def partToldRow : OpenClaim := { program := "ytjjnpobppmmgbaa", sum := "5b257f9921feb3750b1efea9c533f2ba3cb5e3502bb696fdf5d2ec814be74dbf", func := "heckle/hecklelaw02.PartTold", spec := "partTold", plainKeys := false, apart := false }
def PartToldSaid : Prop := partToldRow.holds Try.pinned (OpenSpec.ofChange partToldSpec)

/-- ITS FALSE NEIGHBOUR: 'it returns false'. Refute it at one input. -/
def partToldWrong : ChangeSpec := { name := "partTold", fn := fun _ => fun
  | [d1, d2, d3] => { results := [.lit (.bool false)], args := [d1, d2, d3] }
  | _ => none }
def PartToldWrongFalsely : Prop := partToldRow.holds Try.pinned (OpenSpec.ofChange partToldWrong)

/- THE SECOND FORM. 'bulk': how many values and letters a reading holds, each counted each time it is reached (what is shared counts as often as it is met; a slice's spare places count too). A statement '..UptoSaid' is the law's where the arguments, and the package variables that the reading takes, are together of bulk at most 1048576: NARROWER than '..Said'. Prove '..Said' where nothing that the law and all that it calls make is longer than what came in: it says more and counts as full. Else prove '..UptoSaid'. A law counts once. -/
mutual
def uptoBulk {H : Type} : DataW H → Nat
  | .lit (.string bytes) => bytes.length + 1
  | .lit _ => 1
  | .nil => 1
  | .ptr d => uptoBulk d + 1
  | .slice elems spare => uptoBulkAll elems + uptoBulkAll spare + 1
  | .agg parts => uptoBulkAll parts + 1
  | .iface _ d => uptoBulk d + 1
  | .map entries => uptoBulkEntries entries + 1
  | .held _ => 1
def uptoBulkAll {H : Type} : List (DataW H) → Nat
  | [] => 0
  | d :: r => uptoBulk d + uptoBulkAll r
def uptoBulkEntries {H : Type} : List (Lit × DataW H) → Nat
  | [] => 0
  | x :: r => uptoBulkEntry x + uptoBulkEntries r
def uptoBulkEntry {H : Type} : Lit × DataW H → Nat
  | (.string bytes, d) => bytes.length + uptoBulk d + 1
  | (_, d) => uptoBulk d + 1
 end
def uptoSmall : (H : Type) → List (DataW H) → Bool := fun _ ds => decide (uptoBulkAll ds ≤ 1048576)
def OpenSpec.upto (s : _root_.Go.ChangeSpec) : _root_.Go.OpenSpec := { _root_.Go.OpenSpec.ofChange s with cond := some uptoSmall }

/-- 'hecklelaw02.PartSplit', WHERE WHAT IT READS IS OF BULK AT MOST 1048576: true; the input reads as it did. -/
def partSplitUptoRow : OpenClaim := { program := "ytjjnpobppmmgbaa", sum := "5b257f9921feb3750b1efea9c533f2ba3cb5e3502bb696fdf5d2ec814be74dbf", func := "heckle/hecklelaw02.PartSplit", spec := "partSplit", plainKeys := false, apart := false, narrowed := true }
def PartSplitUptoSaid : Prop := partSplitUptoRow.holds Try.pinned (OpenSpec.upto partSplitSpec)

/-- 'hecklelaw02.PartRuns', WHERE WHAT IT READS IS OF BULK AT MOST 1048576: true; the input reads as it did. -/
def partRunsUptoRow : OpenClaim := { program := "ytjjnpobppmmgbaa", sum := "5b257f9921feb3750b1efea9c533f2ba3cb5e3502bb696fdf5d2ec814be74dbf", func := "heckle/hecklelaw02.PartRuns", spec := "partRuns", plainKeys := false, apart := false, narrowed := true }
def PartRunsUptoSaid : Prop := partRunsUptoRow.holds Try.pinned (OpenSpec.upto partRunsSpec)

/-- 'hecklelaw02.PartLeast', WHERE WHAT IT READS IS OF BULK AT MOST 1048576: true; the input reads as it did. -/
def partLeastUptoRow : OpenClaim := { program := "ytjjnpobppmmgbaa", sum := "5b257f9921feb3750b1efea9c533f2ba3cb5e3502bb696fdf5d2ec814be74dbf", func := "heckle/hecklelaw02.PartLeast", spec := "partLeast", plainKeys := false, apart := false, narrowed := true }
def PartLeastUptoSaid : Prop := partLeastUptoRow.holds Try.pinned (OpenSpec.upto partLeastSpec)

/-- 'hecklelaw02.PartMore', WHERE WHAT IT READS IS OF BULK AT MOST 1048576: true; the input reads as it did. -/
def partMoreUptoRow : OpenClaim := { program := "ytjjnpobppmmgbaa", sum := "5b257f9921feb3750b1efea9c533f2ba3cb5e3502bb696fdf5d2ec814be74dbf", func := "heckle/hecklelaw02.PartMore", spec := "partMore", plainKeys := false, apart := false, narrowed := true }
def PartMoreUptoSaid : Prop := partMoreUptoRow.holds Try.pinned (OpenSpec.upto partMoreSpec)

/-- 'hecklelaw02.PartTold', WHERE WHAT IT READS IS OF BULK AT MOST 1048576: true; the input reads as it did. -/
def partToldUptoRow : OpenClaim := { program := "ytjjnpobppmmgbaa", sum := "5b257f9921feb3750b1efea9c533f2ba3cb5e3502bb696fdf5d2ec814be74dbf", func := "heckle/hecklelaw02.PartTold", spec := "partTold", plainKeys := false, apart := false, narrowed := true }
def PartToldUptoSaid : Prop := partToldUptoRow.holds Try.pinned (OpenSpec.upto partToldSpec)

end Rows
end Go.Proofs.Ytjjnpobppmmgbaa
