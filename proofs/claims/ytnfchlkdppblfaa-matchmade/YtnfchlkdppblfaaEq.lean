/- A step that is stored into a box of its own, as one law. -/
import Derived.Test.YtnfchlkdppblfaaEo
namespace Go.Proofs.Ytnfchlkdppblfaa
open Go.RowKit Go.Maps Go
section
variable {w : World} {ops : Array Oper} {rest : List Oper} {o : Oper} {a : Act} {Q : Exit → Act → World → Prop}
set_option maxRecDepth 100000 in
theorem store7 (hg : o.guard = none) (p v : Operand) (hop : o.op = Op.store 49 p v) (x : Nat) (k : Int) (s : Nat → Int) (b : Option Addr) (n c : Nat) (m : Option Nat) (hp : a.eval p = .pointer (some ⟨x, 0, none⟩)) (hv : a.eval v = stepV k s (.slice b n c) (.map m)) {k0 : Int} {s0 : Nat → Int} {v0 m0 : Value} (hx : w.heap[x]? = some (.cells (row7 k0 s0 v0 m0) 49 (0, 0)))
    (h : ∀ W, W = put7 w x k s (.slice b n c) (.map m) → wpList Try.prog ops Q rest (a.put o.dst undef) W) : wpList Try.prog ops Q (o :: rest) a w := by
  obtain ⟨f0, f1, f2, f3, f4, f5, f6⟩ := frozen7 (s := s0) hx
  obtain ⟨e0, e1, e2, e3, e4, e5, e6⟩ := cell7 (s := s0) hx
  refine wpList_plain hg fun K' hK' => ?_
  unfold Oper.wp execOp
  simp only [hop, hp, hv]
  clear hp hv
  simp [go_sem, Result.andThen, f0, f1, f2, f3, f4, f5, f6, e0, e1, e2, e3, e4, e5, e6]
  exact hK' (a.put o.dst undef) _ (h _ rfl)
end
end Go.Proofs.Ytnfchlkdppblfaa
