/- Contracts of the landed code's null, enclosed and like, for any pattern. -/
import Derived.Test.YtnloepanbjgbaaaGreatDoorP
namespace Go.Proofs.YtnloepanbjgbaaaGreatDoor
open Go.RowKit
/-- Does a kid of that kind stand in brackets? -/
def enclB (k kind : Int) : Bool := if kind = 5 then decide (k = 3) || (decide (k = 5) || decide (k = 4)) else if kind = 3 then decide (k = 4) else false
set_option maxRecDepth 100000 in
set_option maxHeartbeats 1000000 in
theorem enclosed_any (k kind : Int) (s : Nat → Int) (lo hi : Int) (v : Value) (w : World) :
    Calls Tryz.prog 62 #[nodeV k s lo hi v, .int .i64 kind] w fun e w' => e = .returned (.bool (enclB k kind)) ∧ Below w.heap.size w w' := by
  by_cases h5 : kind = 5
  · subst h5
    by_cases k3 : k = 3
    · subst k3
      go_enter Tryz.func62, Tryz.ntmps62
      go_wp2
      go_ret
      exact ⟨rfl, alloc_below _ _⟩
    · have q3 : (k == 3) = false := by simp [k3]
      by_cases k5 : k = 5
      · subst k5
        go_enter Tryz.func62, Tryz.ntmps62
        go_wp2
        go_ret
        exact ⟨rfl, alloc_below _ _⟩
      · have q5 : (k == 5) = false := by simp [k5]
        have HX := Lib.hid (show enclB k 5 = (k == 4) by simp [enclB, k3, k5]; rfl)
        go_enter Tryz.func62, Tryz.ntmps62
        go_wp2
        go_ret
        exact ⟨ret_bool HX.out.symm, alloc_below _ _⟩
  · have q5 : (kind == 5) = false := by simp [h5]
    by_cases h3 : kind = 3
    · subst h3
      have HX := Lib.hid (show enclB k 3 = (k == 4) by simp [enclB]; rfl)
      go_enter Tryz.func62, Tryz.ntmps62
      go_wp2
      go_ret
      exact ⟨ret_bool HX.out.symm, alloc_below _ _⟩
    · have q3 : (kind == 3) = false := by simp [h3]
      have HX := Lib.hid (show enclB k kind = false by simp [enclB, h5, h3])
      go_enter Tryz.func62, Tryz.ntmps62
      go_wp2
      go_ret
      exact ⟨ret_bool HX.out.symm, alloc_below _ _⟩
/-- Does a pattern match the empty text? -/
def nullT : Tr → Bool
  | .node k _ lo _ _ n _ kid => if k = 1 then true else if k = 4 then anyTo (fun i => nullT (kid i)) n else if k = 5 then decide (lo = 0) || allTo (fun i => nullT (kid i)) n else if k = 3 then allTo (fun i => nullT (kid i)) n else false
  | .nul => false
/-- Are two patterns, their kids aside, the same? -/
def likeB (t u : Tr) : Bool := decide (t.k = u.k) && (eqS t.s u.s && (decide (t.lo = u.lo) && (decide (t.hi = u.hi) && decide (t.n = u.n))))
theorem eqS_any (s s' : Nat → Int) {b : Bool} (h : eqS s s' = b) (w : World) : Sem.run Tryz.prog (binOp .eql 28 (SV s) (SV s')) w = .ok (.bool b) w := (eql24 s s' w).trans (by rw [h])
theorem alloc2_below (w : World) (o o' : Obj) : Below w.heap.size w ((w.alloc o).alloc o') := (alloc_below w o).alloc (by simp) _
end Go.Proofs.YtnloepanbjgbaaaGreatDoor
