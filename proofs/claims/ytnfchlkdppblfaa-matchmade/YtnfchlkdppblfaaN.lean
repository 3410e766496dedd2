/- Contracts of the landed code's null, enclosed and like, for any pattern. -/
import Derived.Test.YtnfchlkdppblfaaP
namespace Go.Proofs.Ytnfchlkdppblfaa
open Go.RowKit
/-- Does a kid of that kind stand in brackets? -/
def enclB (k kind : Int) : Bool := if kind = 5 then decide (k = 3) || (decide (k = 5) || decide (k = 4)) else if kind = 3 then decide (k = 4) else false
/-- Does a pattern match the empty text? -/
def nullT : Tr → Bool
  | .node k _ lo _ _ n _ kid => if k = 1 then true else if k = 4 then anyTo (fun i => nullT (kid i)) n else if k = 5 then decide (lo = 0) || allTo (fun i => nullT (kid i)) n else if k = 3 then allTo (fun i => nullT (kid i)) n else false
  | .nul => false
/-- Are two patterns, their kids aside, the same? -/
def likeB (t u : Tr) : Bool := decide (t.k = u.k) && (eqS t.s u.s && (decide (t.lo = u.lo) && (decide (t.hi = u.hi) && decide (t.n = u.n))))
theorem eqS_any (s s' : Nat → Int) {b : Bool} (h : eqS s s' = b) (w : World) : Sem.run Try.prog (binOp .eql 27 (SV s) (SV s')) w = .ok (.bool b) w := (eql24 s s' w).trans (by rw [h])
theorem alloc2_below (w : World) (o o' : Obj) : Below w.heap.size w ((w.alloc o).alloc o') := (alloc_below w o).alloc (by simp) _
end Go.Proofs.Ytnfchlkdppblfaa
