/- Sets of few runs; patterns whose sets are such, and how long their texts are. -/
import Derived.Test.YtnfchlkdppblfaaLc
namespace Go.Proofs.Ytnfchlkdppblfaa
open Go.RowKit
set_option maxRecDepth 100000 in
theorem cnt_ofK (x y : Int) : ∀ j : Nat, cntR (ofK x y) j ≤ (if x < (j : Int) then 1 else 0) ∨ x < 0
  | 0 => by
    by_cases h : x < 0
    · exact Or.inr h
    · refine Or.inl ?_; simp [cntR]
  | j + 1 => by
    rcases cnt_ofK x y j with h | h
    · refine Or.inl ?_
      by_cases h1 : x < (j : Int)
      · rw [if_pos h1] at h
        rw [if_pos (by omega)]
        unfold cntR
        split
        · rename_i q
          have : ofK x y ((j : Int) - 1) = true := by simp only [ofK, Bool.and_eq_true, decide_eq_true_eq] at q ⊢; omega
          rw [if_pos this]; exact h
        · exact h
      · rw [if_neg h1] at h
        unfold cntR
        by_cases h2 : x < ((j + 1 : Nat) : Int)
        · rw [if_pos h2]; split
          · split <;> omega
          · omega
        · have : ¬ ofK x y (j : Int) = true := by simp only [ofK, Bool.and_eq_true, decide_eq_true_eq]; omega
          rw [if_neg this]; omega
    · exact Or.inr h
set_option maxRecDepth 100000 in
theorem runs_E {x y : Int} (hx : 0 ≤ x) : runsN (sE x y) ≤ 2 := by
  rw [(runE hx).2]
  rcases cnt_ofK x y 256 with h | h
  · split at h <;> omega
  · omega
set_option maxRecDepth 100000 in
theorem runs_notE : runsN (accAll fun b => !hasI (sE 97 97) b) ≤ 2 := by
  have h : cntR (hasI (accAll fun b => !hasI (sE 97 97) b)) 256 = cntR (fun b => decide (0 ≤ b) && !ofK 97 97 b) 256 := (flatR_congr 256 fun b h0 h1 => by
    by_cases q : 0 ≤ b
    · rw [hasI_acc _ q (by omega), agreeE (by omega) b h0 h1]; simp [q]
    · rw [hasI_out (by omega)]; simp [q]).2
  show cntR _ 256 ≤ 2
  rw [h]
  decide +kernel
set_option maxRecDepth 100000 in
theorem runs_z0 : runsN z0 ≤ 2 := by
  have h : ∀ j, cntR (hasI z0) j = 0 := fun j => by
    induction j with
    | zero => rfl
    | succ j ih => rw [cntR, if_neg (by rw [hasI_z0]; simp), ih]
  show cntR _ 256 ≤ 2
  rw [h]; omega
/-- Has each set in a pattern at most two runs? -/
def sml : Tr → Prop
  | .node _ s _ _ _ n _ kid => runsN s ≤ 2 ∧ ∀ i, i < n → sml (kid i)
  | .nul => runsN z0 ≤ 2
set_option maxRecDepth 100000 in
theorem sml_kid {t : Tr} (h : sml t) {i : Nat} (hi : i < t.n) : sml (t.kid i) := by
  cases t with
  | nul => simp [Tr.n] at hi
  | node k s lo hi' a n cap kid => exact h.2 i hi
end Go.Proofs.Ytnfchlkdppblfaa
