/- The sets that the law's own first look asks for, reckoned. -/
import Derived.Test.YthloafbgfjhicaaM
namespace Go.Proofs.Ythloafbgfjhicaa
open Go.RowKit
theorem flatR_congr {K K' : Int → Bool} : ∀ j : Nat, (∀ b : Int, -1 ≤ b → b < j → K b = K' b) → flatR K j = flatR K' j ∧ cntR K j = cntR K' j
  | 0, _ => ⟨rfl, rfl⟩
  | j + 1, h => by
    obtain ⟨i1, i2⟩ := flatR_congr j fun b h0 h1 => h b h0 (by omega)
    have e1 := h (j : Int) (by omega) (by omega)
    have e2 := h ((j : Int) - 1) (by omega) (by omega)
    constructor
    · show (if K _ then (if K _ then _ else _) else _) = (if K' _ then (if K' _ then _ else _) else _)
      rw [e1, e2, i1]
    · show (if K _ then (if K _ then _ else _) else _) = (if K' _ then (if K' _ then _ else _) else _)
      rw [e1, e2, i2]
theorem listI_congr {K K' : Int → Bool} : ∀ j : Nat, (∀ b : Int, 0 ≤ b → b < j → K b = K' b) → listI K j = listI K' j
  | 0, _ => rfl
  | j + 1, h => by
    have i1 := listI_congr j fun b h0 h1 => h b h0 (by omega)
    show (if K _ then _ else _) = (if K' _ then _ else _)
    rw [h (j : Int) (by omega) (by omega), i1]
def sA : Nat → Int := orS (byK (ofK 97 99)) (byK (ofK 120 120))
def sF : Nat → Int := byK (foldK (byK (ofK 97 97)))
def sN : Nat → Int := notS (byK (ofK 0 255))
def sX : Nat → Int := andS sA (byK (ofK 99 130))
def sY : Nat → Int := orS (byK (ofK 99 99)) (byK (ofK 120 120))
def kA (b : Int) : Bool := ofK 97 99 b || ofK 120 120 b
def kF (b : Int) : Bool := ofK 97 97 b || ofK 97 97 (otherC b)
theorem wfA : Wf sA := wf_or (wf_byK _) (wf_byK _)
theorem hasA {b : Int} (h0 : 0 ≤ b) (h1 : b < 256) : hasI sA b = kA b := by
  rw [sA, hasI_or (wf_byK _) (wf_byK _), hasI_byK _ h0 h1, hasI_byK _ h0 h1]; rfl
theorem other_in {b : Int} (h0 : 0 ≤ b) (h1 : b < 256) : 0 ≤ otherC b ∧ otherC b < 256 := by
  unfold otherC; split <;> (try split) <;> omega
theorem hasF {b : Int} (h0 : 0 ≤ b) (h1 : b < 256) : hasI sF b = kF b := by
  rw [sF, hasI_byK _ h0 h1, foldK, hasI_byK _ h0 h1, hasI_byK _ (other_in h0 h1).1 (other_in h0 h1).2]; rfl
theorem a98 : hasI sA 98 = true := by rw [hasA (by omega) (by omega)]; decide
theorem a100 : hasI sA 100 = false := by rw [hasA (by omega) (by omega)]; decide
theorem am1 : hasI sA (-1) = false := hasI_out (by omega)
theorem agreeA : ∀ b : Int, -1 ≤ b → b < (256 : Nat) → hasI sA b = kA b := by
  intro b h0 h1
  by_cases e : b = -1
  · subst e; rw [am1]; decide
  · exact hasA (by omega) (by omega)
theorem aN : runsN sA = 2 := by
  rw [runsN, (flatR_congr 256 agreeA).2]; decide +kernel
theorem aS : runsS sA = [97, 99, 120, 120] := by
  rw [runsS, (flatR_congr 256 agreeA).1]; decide +kernel
theorem lF : listS sF = [65, 97] := by
  rw [listS, listI_congr 256 fun b h0 h1 => hasF h0 (by omega)]; decide +kernel
theorem wf0 : Wf fun _ => 0 := fun _ _ => by simp
theorem hasI_0 {b : Int} (h0 : 0 ≤ b) (h1 : b < 256) : hasI (fun _ => 0) b = false := by
  rw [hasI_bit wf0 h0 h1]; simp
theorem zN : eqS sN (fun _ => 0) = true := by
  refine ext_eqS (wf_not (wf_byK _)) wf0 fun b h0 h1 => ?_
  rw [sN, hasI_not (wf_byK _) h0 h1, hasI_byK _ h0 h1, hasI_0 h0 h1, ofK, decide_eq_true h0, decide_eq_true (by omega : b ≤ 255)]; rfl
theorem xY : eqS sX sY = true := by
  refine ext_eqS (wf_and wfA (wf_byK _)) (wf_or (wf_byK _) (wf_byK _)) fun b h0 h1 => ?_
  rw [sX, sY, hasI_and wfA (wf_byK _), hasA h0 h1, hasI_or (wf_byK _) (wf_byK _), hasI_byK _ h0 h1, hasI_byK _ h0 h1, hasI_byK _ h0 h1]
  unfold kA ofK
  rw [Bool.eq_iff_iff]; simp; omega
end Go.Proofs.Ythloafbgfjhicaa
