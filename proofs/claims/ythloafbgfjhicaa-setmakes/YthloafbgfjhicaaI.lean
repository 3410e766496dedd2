/- What the document's own answers of layer 1 are, byte by byte, and that they are the program's. -/
import Derived.Test.YthloafbgfjhicaaH
import Derived.Test.YthloafbgfjhicaaT
namespace Go.Proofs.Ythloafbgfjhicaa
open Go.RowKit
theorem pow_ok (k : Nat) (h : k < 64) : 0 ≤ IntKind.u64.wrap (2 ^ k) ∧ IntKind.u64.wrap (2 ^ k) < 18446744073709551616 := by
  obtain ⟨p1, p2⟩ := pow_wrap h
  rw [p1]
  generalize 2 ^ k = m at *
  omega
theorem wf_add {f : Nat → Int} (hf : Wf f) {b : Int} (_h0 : 0 ≤ b) (_h1 : b < 256) : Wf (addS f b) := by
  intro i hi
  unfold addS
  by_cases e : i = (b / 64).toNat
  · rw [if_pos e]; exact (or_bit (hf _ (by omega)) (pow_ok _ (by omega))).1
  · rw [if_neg e]; exact hf i hi
theorem hasI_add {f : Nat → Int} (hf : Wf f) {b c : Int} (h0 : 0 ≤ b) (h1 : b < 256) (g0 : 0 ≤ c) (g1 : c < 256) : hasI (addS f b) c = (hasI f c || decide (c = b)) := by
  rw [hasI_bit (wf_add hf h0 h1) g0 g1, hasI_bit hf g0 g1]
  unfold addS
  by_cases e : (c / 64).toNat = (b / 64).toNat
  · rw [if_pos e, (or_bit (hf _ (by omega)) (pow_ok _ (by omega))).2, (pow_wrap (by omega : (b % 64).toNat < 64)).1, Int.toNat_natCast, Nat.testBit_two_pow, e]
    congr 1
    rw [decide_eq_decide]
    omega
  · rw [if_neg e, decide_eq_false (by intro h; subst h; exact e rfl), Bool.or_false]
theorem acc_all (K : Int → Bool) : ∀ j : Nat, j ≤ 256 → Wf (accS K j) ∧ ∀ c : Int, 0 ≤ c → c < 256 → hasI (accS K j) c = (decide (c < j) && K c)
  | 0, _ => ⟨wf0, fun c h0 h1 => by rw [show accS K 0 = fun _ => 0 from rfl, hasI_0 h0 h1, decide_eq_false (by omega), Bool.false_and]⟩
  | j + 1, h => by
    obtain ⟨i1, i2⟩ := acc_all K j (by omega)
    cases hK : K (j : Int)
    · rw [accS_no hK]
      refine ⟨i1, fun c h0 h1 => ?_⟩
      rw [i2 c h0 h1]
      by_cases e : c = (j : Int)
      · subst e; rw [hK, Bool.and_false, Bool.and_false]
      · have : decide (c < (j : Int)) = decide (c < ((j + 1 : Nat) : Int)) := by rw [decide_eq_decide]; omega
        rw [this]
    · rw [accS_yes hK]
      refine ⟨wf_add i1 (by omega) (by omega), fun c h0 h1 => ?_⟩
      rw [hasI_add i1 (by omega) (by omega) h0 h1, i2 c h0 h1]
      by_cases e : c = (j : Int)
      · subst e; rw [hK]; simp; omega
      · have : decide (c < (j : Int)) = decide (c < ((j + 1 : Nat) : Int)) := by rw [decide_eq_decide]; omega
        rw [this, decide_eq_false e, Bool.or_false]
theorem wf_acc (K : Int → Bool) : Wf (accAll K) := (acc_all K 256 (by omega)).1
theorem hasI_acc (K : Int → Bool) {c : Int} (h0 : 0 ≤ c) (h1 : c < 256) : hasI (accAll K) c = K c := by
  rw [accAll, (acc_all K 256 (by omega)).2 c h0 h1, decide_eq_true (by omega), Bool.true_and]
theorem accF_all {f : Nat → Int} (hf : Wf f) : ∀ j : Nat, j ≤ 256 → Wf (accF f j) ∧ ∀ c : Int, 0 ≤ c → c < 256 → hasI (accF f j) c = (hasI f c || (decide (otherC c < j) && hasI f (otherC c)))
  | 0, _ => ⟨hf, fun c h0 h1 => by rw [show accF f 0 = f from rfl, decide_eq_false (by have := other_in h0 h1; omega), Bool.false_and, Bool.or_false]⟩
  | j + 1, h => by
    obtain ⟨i1, i2⟩ := accF_all hf j (by omega)
    cases hK : hasI f (j : Int)
    · rw [accF_no hK]
      refine ⟨i1, fun c h0 h1 => ?_⟩
      rw [i2 c h0 h1]
      by_cases e : otherC c = (j : Int)
      · rw [e, hK, Bool.and_false, Bool.and_false]
      · have : decide (otherC c < (j : Int)) = decide (otherC c < ((j + 1 : Nat) : Int)) := by rw [decide_eq_decide]; omega
        rw [this]
    · rw [accF_yes hK]
      have ho := other_lt (j := j) (by omega)
      refine ⟨wf_add i1 ho.1 ho.2, fun c h0 h1 => ?_⟩
      rw [hasI_add i1 ho.1 ho.2 h0 h1, i2 c h0 h1]
      by_cases e : otherC c = (j : Int)
      · have ec : c = otherC (j : Int) := by rw [← e, other_other]
        rw [e, hK, decide_eq_true ec, decide_eq_true (by omega : (j : Int) < ((j + 1 : Nat) : Int))]
        simp
      · have ec : ¬ c = otherC (j : Int) := fun h => e (by rw [h, other_other])
        have : decide (otherC c < (j : Int)) = decide (otherC c < ((j + 1 : Nat) : Int)) := by rw [decide_eq_decide]; omega
        rw [this, decide_eq_false ec, Bool.or_false]
theorem eq_of (x y : Int) : eqS (byK (ofK x y)) (accAll (ofK x y)) = true :=
  ext_eqS (wf_byK _) (wf_acc _) fun b h0 h1 => by rw [hasI_byK _ h0 h1, hasI_acc _ h0 h1]
theorem eq_or {f g : Nat → Int} (hf : Wf f) (hg : Wf g) : eqS (orS f g) (accAll fun b => hasI f b || hasI g b) = true :=
  ext_eqS (wf_or hf hg) (wf_acc _) fun b h0 h1 => by rw [hasI_or hf hg, hasI_acc _ h0 h1]
theorem eq_and {f g : Nat → Int} (hf : Wf f) (hg : Wf g) : eqS (andS f g) (accAll fun b => hasI f b && hasI g b) = true :=
  ext_eqS (wf_and hf hg) (wf_acc _) fun b h0 h1 => by rw [hasI_and hf hg, hasI_acc _ h0 h1]
theorem eq_not {f : Nat → Int} (hf : Wf f) : eqS (notS f) (accAll fun b => !hasI f b) = true :=
  ext_eqS (wf_not hf) (wf_acc _) fun b h0 h1 => by rw [hasI_not hf h0 h1, hasI_acc _ h0 h1]
theorem eq_fold {f : Nat → Int} (hf : Wf f) : eqS (foldS f) (accFold f) = true :=
  ext_eqS (wf_fold f) (accF_all hf 256 (by omega)).1 fun b h0 h1 => by
    rw [hasI_fold f h0 h1, accFold, (accF_all hf 256 (by omega)).2 b h0 h1, decide_eq_true (by have := other_in h0 h1; omega), Bool.true_and]
end Go.Proofs.Ythloafbgfjhicaa
