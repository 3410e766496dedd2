/- The mathematics of runs: they rise, are apart, and are the set, all together. -/
import Derived.Test.YthloafbgfjhicaaK
namespace Go.Proofs.Ythloafbgfjhicaa
open Go.RowKit
/-- A run's first and last number, out of the flat list. -/
def lo (l : List Int) (i : Nat) : Int := l.getD (i * 2) 0
def hi (l : List Int) (i : Nat) : Int := l.getD (i * 2 + 1) 0
/-- How many numbers the first i runs hold. -/
def sumN (l : List Int) : Nat → Int
  | 0 => 0
  | i + 1 => sumN l i + hi l i - lo l i + 1
theorem getD_new {l : List Int} {x y : Int} {k : Nat} : (l ++ [x, y]).getD k 0 = if k < l.length then l.getD k 0 else if k = l.length then x else if k = l.length + 1 then y else 0 := by
  rw [List.getD_eq_getElem?_getD, List.getD_eq_getElem?_getD]
  by_cases h : k < l.length
  · rw [if_pos h, List.getElem?_append_left h]
  · rw [if_neg h, List.getElem?_append_right (by omega)]
    by_cases e : k = l.length
    · rw [if_pos e, e]; simp
    · rw [if_neg e]
      by_cases e2 : k = l.length + 1
      · rw [if_pos e2, e2]; simp
      · rw [if_neg e2, List.getElem?_eq_none (by simp; omega)]; rfl
theorem getD_on {l : List Int} {x : Int} {k : Nat} (hl : 0 < l.length) : (l.dropLast ++ [x]).getD k 0 = if k + 1 < l.length then l.getD k 0 else if k + 1 = l.length then x else 0 := by
  rw [List.getD_eq_getElem?_getD, List.getD_eq_getElem?_getD]
  by_cases h : k + 1 < l.length
  · rw [if_pos h, List.getElem?_append_left (by simp; omega), List.getElem?_dropLast, if_pos (by omega)]
  · rw [if_neg h, List.getElem?_append_right (by simp; omega)]
    by_cases e : k + 1 = l.length
    · rw [if_pos e]; simp; rw [show k - (l.length - 1) = 0 from by omega]; rfl
    · rw [if_neg e, List.getElem?_eq_none (by simp; omega)]; rfl
theorem sumN_congr {l l' : List Int} : ∀ n : Nat, (∀ i, i < n → lo l i = lo l' i ∧ hi l i = hi l' i) → sumN l n = sumN l' n
  | 0, _ => rfl
  | n + 1, h => by
    have ih := sumN_congr n fun i hi => h i (by omega)
    have e := h n (by omega)
    show sumN l n + hi l n - lo l n + 1 = sumN l' n + hi l' n - lo l' n + 1
    rw [ih, e.1, e.2]
/-- What holds of the runs of the numbers below j. -/
structure Rn (K : Int → Bool) (j : Nat) : Prop where
  len : (flatR K j).length = cntR K j * 2
  ok : ∀ i, i < cntR K j → 0 ≤ lo (flatR K j) i ∧ lo (flatR K j) i ≤ hi (flatR K j) i ∧ hi (flatR K j) i < j
  far : ∀ i, i + 1 < cntR K j → hi (flatR K j) i + 1 < lo (flatR K j) (i + 1)
  has : ∀ b : Int, 0 ≤ b → b < j → (K b = true ↔ ∃ i, i < cntR K j ∧ lo (flatR K j) i ≤ b ∧ b ≤ hi (flatR K j) i)
  last : 0 < cntR K j → K ((j : Int) - 1) = true → hi (flatR K j) (cntR K j - 1) = (j : Int) - 1
  gap : 0 < cntR K j → K ((j : Int) - 1) = false → hi (flatR K j) (cntR K j - 1) < (j : Int) - 1
  sum : sumN (flatR K j) (cntR K j) = (listI K j).length
theorem rn_all {K : Int → Bool} (hK : K (-1) = false) : ∀ j : Nat, Rn K j
  | 0 => ⟨rfl, fun i h => by simp [cntR] at h, fun i h => by simp [cntR] at h, fun b h0 h1 => by omega, fun h => by simp [cntR] at h, fun h => by simp [cntR] at h, rfl⟩
  | j + 1 => by
    have R := rn_all hK j
    have ej : (((j + 1 : Nat) : Int) - 1) = (j : Int) := by omega
    cases h : K (j : Int)
    · obtain ⟨e1, e2⟩ := flatR_no h
      have hhi : ∀ i, i < cntR K j → hi (flatR K j) i < (j : Int) := fun i hi => (R.ok i hi).2.2
      refine ⟨by rw [e1, e2]; exact R.len, ?_, by rw [e1, e2]; exact R.far, ?_, ?_, ?_, by rw [e1, e2, listI_no h]; exact R.sum⟩
      · rw [e1, e2]; intro i hi; have := R.ok i hi; omega
      · rw [e1, e2]; intro b h0 h1
        by_cases e : b = (j : Int)
        · subst e
          rw [h]
          constructor
          · intro x; cases x
          · rintro ⟨i, hi, _, h3⟩; have := hhi i hi; omega
        · exact R.has b h0 (by omega)
      · rw [ej, h]; intro _ x; cases x
      · rw [ej, e1, e2]; intro hn _; exact hhi _ (by omega)
    · cases h' : K ((j : Int) - 1)
      · obtain ⟨e1, e2⟩ := flatR_new h h'
        have old : ∀ i, i < cntR K j → lo (flatR K j ++ [(j : Int), (j : Int)]) i = lo (flatR K j) i ∧ hi (flatR K j ++ [(j : Int), (j : Int)]) i = hi (flatR K j) i := fun i hin => by
          have hl := R.len
          unfold lo hi
          rw [getD_new, getD_new, if_pos (by omega), if_pos (by omega)]
          exact ⟨rfl, rfl⟩
        have new : lo (flatR K j ++ [(j : Int), (j : Int)]) (cntR K j) = j ∧ hi (flatR K j ++ [(j : Int), (j : Int)]) (cntR K j) = j := by
          have hl := R.len
          unfold lo hi
          rw [getD_new, getD_new, if_neg (by omega), if_pos (by omega), if_neg (by omega), if_neg (by omega), if_pos (by omega)]
          exact ⟨rfl, rfl⟩
        refine ⟨by rw [e1, e2]; have := R.len; simp; omega, ?_, ?_, ?_, ?_, ?_, ?_⟩
        · rw [e1, e2]; intro i hi
          by_cases e : i = cntR K j
          · subst e; rw [new.1, new.2]; omega
          · rw [(old i (by omega)).1, (old i (by omega)).2]; have := R.ok i (by omega); omega
        · rw [e1, e2]; intro i hi
          by_cases e : i + 1 = cntR K j
          · rw [e, new.1, (old i (by omega)).2]
            have g := R.gap (by omega) h'
            rw [show cntR K j - 1 = i from by omega] at g
            omega
          · rw [(old i (by omega)).2, (old (i + 1) (by omega)).1]; exact R.far i (by omega)
        · rw [e1, e2]; intro b h0 h1
          by_cases e : b = (j : Int)
          · subst e
            rw [h]
            exact ⟨fun _ => ⟨cntR K j, by omega, by rw [new.1]; omega, by rw [new.2]; omega⟩, fun _ => rfl⟩
          · rw [R.has b h0 (by omega)]
            constructor
            · rintro ⟨i, hi, h2, h3⟩; exact ⟨i, by omega, by rw [(old i hi).1]; exact h2, by rw [(old i hi).2]; exact h3⟩
            · rintro ⟨i, hi, h2, h3⟩
              by_cases e' : i = cntR K j
              · subst e'; rw [new.1] at h2; rw [new.2] at h3; omega
              · rw [(old i (by omega)).1] at h2; rw [(old i (by omega)).2] at h3; exact ⟨i, by omega, h2, h3⟩
        · rw [ej, e1, e2]; intro _ _; rw [Nat.add_sub_cancel, new.2]
        · rw [ej, h]; intro _ x; cases x
        · rw [e1, e2, listI_yes h]
          show sumN _ (cntR K j) + hi _ (cntR K j) - lo _ (cntR K j) + 1 = _
          rw [new.1, new.2, sumN_congr (cntR K j) old, R.sum]; simp
      · obtain ⟨e1, e2⟩ := flatR_on h h'
        have hpos := cntR_pos hK h'
        have hl := R.len
        have old : ∀ i, i < cntR K j → lo ((flatR K j).dropLast ++ [(j : Int)]) i = lo (flatR K j) i := fun i hi => by
          unfold lo
          rw [getD_on (by omega), if_pos (by omega)]
        have old2 : ∀ i, i + 1 < cntR K j → hi ((flatR K j).dropLast ++ [(j : Int)]) i = hi (flatR K j) i := fun i h => by
          unfold hi
          rw [getD_on (by omega), if_pos (by omega)]
        have new : hi ((flatR K j).dropLast ++ [(j : Int)]) (cntR K j - 1) = j := by
          unfold hi
          rw [getD_on (by omega), if_neg (by omega), if_pos (by omega)]
        have was := R.last hpos h'
        refine ⟨by rw [e1, e2]; simp; omega, ?_, ?_, ?_, ?_, ?_, ?_⟩
        · rw [e1, e2]; intro i hi
          rw [old i hi]
          have o := R.ok i hi
          by_cases e : i = cntR K j - 1
          · subst e; rw [new]; omega
          · rw [old2 i (by omega)]; omega
        · rw [e1, e2]; intro i hi
          rw [old2 i hi, old (i + 1) hi]; exact R.far i hi
        · rw [e1, e2]; intro b h0 h1
          by_cases e : b = (j : Int)
          · subst e
            rw [h]
            refine ⟨fun _ => ⟨cntR K j - 1, by omega, ?_, by rw [new]; omega⟩, fun _ => rfl⟩
            rw [old _ (by omega)]; have := R.ok (cntR K j - 1) (by omega); omega
          · rw [R.has b h0 (by omega)]
            constructor
            · rintro ⟨i, hi, h2, h3⟩
              refine ⟨i, hi, by rw [old i hi]; exact h2, ?_⟩
              by_cases e' : i = cntR K j - 1
              · subst e'; rw [new]; omega
              · rw [old2 i (by omega)]; exact h3
            · rintro ⟨i, hi, h2, h3⟩
              rw [old i hi] at h2
              refine ⟨i, hi, h2, ?_⟩
              by_cases e' : i = cntR K j - 1
              · subst e'; rw [was]; omega
              · rw [old2 i (by omega)] at h3; exact h3
        · rw [ej, e1, e2]; intro _ _; exact new
        · rw [ej, h]; intro _ x; cases x
        · rw [e1, e2, listI_yes h]
          obtain ⟨m, hm⟩ : ∃ m, cntR K j = m + 1 := ⟨cntR K j - 1, by omega⟩
          have s := R.sum
          rw [hm] at s new was ⊢
          rw [Nat.add_sub_cancel] at new was
          have s' : sumN (flatR K j) m + hi (flatR K j) m - lo (flatR K j) m + 1 = (listI K j).length := s
          show sumN _ m + hi _ m - lo _ m + 1 = _
          rw [new, old m (by omega), sumN_congr (l' := flatR K j) m (fun i hi => ⟨old i (by omega), old2 i (by omega)⟩)]
          simp; omega
/-- The first i runs, all together. -/
def unionS (l : List Int) : Nat → Nat → Int
  | 0 => fun _ => 0
  | i + 1 => orS (unionS l i) (byK (ofK (lo l i) (hi l i)))
theorem wf_union (l : List Int) : ∀ i, Wf (unionS l i)
  | 0 => wf0
  | i + 1 => wf_or (wf_union l i) (wf_byK _)
theorem hasI_union (l : List Int) {b : Int} (h0 : 0 ≤ b) (h1 : b < 256) : ∀ n, (hasI (unionS l n) b = true ↔ ∃ i, i < n ∧ lo l i ≤ b ∧ b ≤ hi l i)
  | 0 => by
    rw [show unionS l 0 = fun _ => 0 from rfl, hasI_0 h0 h1]
    exact ⟨fun h => absurd h (by simp), fun ⟨i, h, _⟩ => absurd h (by omega)⟩
  | n + 1 => by
    have ih := hasI_union l h0 h1 n
    rw [show unionS l (n + 1) = orS (unionS l n) (byK (ofK (lo l n) (hi l n))) from rfl, hasI_or (wf_union l n) (wf_byK _), hasI_byK _ h0 h1, Bool.or_eq_true, ih, ofK, Bool.and_eq_true, decide_eq_true_eq, decide_eq_true_eq]
    constructor
    · rintro (⟨i, h, h2⟩ | h)
      · exact ⟨i, by omega, h2⟩
      · exact ⟨n, by omega, h⟩
    · rintro ⟨i, h, h2⟩
      by_cases e : i = n
      · subst e; exact Or.inr h2
      · exact Or.inl ⟨i, by omega, h2⟩
theorem hasI_m1 (f : Nat → Int) : hasI f (-1) = false := hasI_out (by omega)
theorem rn_set (f : Nat → Int) : Rn (hasI f) 256 := rn_all (hasI_m1 f) 256
/-- A set is its runs, all together. -/
theorem union_eq {f : Nat → Int} (hf : Wf f) : eqS (unionS (runsS f) (runsN f)) f = true :=
  ext_eqS (wf_union _ _) hf fun b h0 h1 => by
    rw [Bool.eq_iff_iff, hasI_union _ h0 h1]
    exact ((rn_set f).has b h0 (by omega)).symm
theorem sum_eq (f : Nat → Int) : sumN (runsS f) (runsN f) = ((listS f).length : Int) := (rn_set f).sum
theorem sum_bd (f : Nat → Int) : ∀ i, i ≤ runsN f → 0 ≤ sumN (runsS f) i ∧ sumN (runsS f) i ≤ 256 * (i : Int)
  | 0, _ => ⟨Int.le_refl _, Int.le_refl _⟩
  | i + 1, h => by
    have ih := sum_bd f i (by omega)
    have o := (rn_set f).ok i h
    change 0 ≤ lo (runsS f) i ∧ lo (runsS f) i ≤ hi (runsS f) i ∧ hi (runsS f) i < (256 : Nat) at o
    show 0 ≤ sumN (runsS f) i + hi (runsS f) i - lo (runsS f) i + 1 ∧ sumN (runsS f) i + hi (runsS f) i - lo (runsS f) i + 1 ≤ _
    omega
theorem runsN_le (f : Nat → Int) : runsN f ≤ 256 := cntR_le _ _
end Go.Proofs.Ythloafbgfjhicaa
