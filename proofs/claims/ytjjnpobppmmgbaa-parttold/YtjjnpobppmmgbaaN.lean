/- The mathematics of numbering classes in the order of their smallest members. -/
namespace Go.Proofs.Ytjjnpobppmmgbaa
/-- The smallest of the numbers up to b that is alike to b. -/
def fstR (R : Nat → Nat → Bool) (b : Nat) : Nat := ((List.range b).find? fun a => R a b).getD b
/-- How many classes begin below n. -/
def cntR (R : Nat → Nat → Bool) : Nat → Nat
  | 0 => 0
  | n + 1 => cntR R n + if fstR R n = n then 1 else 0
/-- The class of b. -/
def clsR (R : Nat → Nat → Bool) (b : Nat) : Nat := cntR R (fstR R b)
structure Eqv (R : Nat → Nat → Bool) : Prop where
  refl : ∀ a, R a a = true
  symm : ∀ a b, R a b = true → R b a = true
  trans : ∀ a b c, R a b = true → R b c = true → R a c = true
theorem fst_cases (R : Nat → Nat → Bool) (b : Nat) : (fstR R b = b ∧ ∀ a, a < b → R a b = false) ∨ (fstR R b < b ∧ R (fstR R b) b = true ∧ ∀ a, a < fstR R b → R a b = false) := by
  unfold fstR
  cases h : (List.range b).find? fun a => R a b with
  | none =>
    refine Or.inl ⟨rfl, fun a ha => ?_⟩
    have := List.find?_eq_none.1 h a (List.mem_range.2 ha)
    simpa using this
  | some x =>
    have h1 := List.find?_some h
    have h2 := List.mem_range.1 (List.mem_of_find?_eq_some h)
    refine Or.inr ⟨h2, h1, fun a ha => ?_⟩
    obtain ⟨_, as, bs, h3, h4⟩ := List.find?_eq_some_iff_append.1 h
    have ha' : a ∈ List.range b := List.mem_range.2 (Nat.lt_trans ha h2)
    rw [h3] at ha'
    rcases List.mem_append.1 ha' with h5 | h5
    · have := h4 a h5; simpa using this
    · have hp : (List.range b).Pairwise (· < ·) := List.pairwise_lt_range
      rw [h3] at hp
      have h6 := (List.pairwise_append.1 hp).2.1
      simp only [Option.getD_some] at ha
      rcases List.mem_cons.1 h5 with h8 | h8
      · omega
      · have := List.rel_of_pairwise_cons h6 h8; omega
theorem fst_le (R : Nat → Nat → Bool) (b : Nat) : fstR R b ≤ b := by
  rcases fst_cases R b with ⟨h, _⟩ | ⟨h, _⟩ <;> omega
theorem fst_rel {R : Nat → Nat → Bool} (E : Eqv R) (b : Nat) : R (fstR R b) b = true := by
  rcases fst_cases R b with ⟨h, _⟩ | ⟨_, h, _⟩
  · rw [h]; exact E.refl b
  · exact h
theorem fst_min {R : Nat → Nat → Bool} {a b : Nat} (h : a < fstR R b) : R a b = false := by
  rcases fst_cases R b with ⟨h1, h2⟩ | ⟨_, _, h2⟩
  · exact h2 a (by omega)
  · exact h2 a h
theorem fst_new {R : Nat → Nat → Bool} {b : Nat} (h : ∀ a, a < b → R a b = false) : fstR R b = b := by
  rcases fst_cases R b with ⟨h1, _⟩ | ⟨h1, h2, _⟩
  · exact h1
  · rw [h _ h1] at h2; cases h2
theorem fst_at {R : Nat → Nat → Bool} {a b : Nat} (hab : a < b) (h : R a b = true) (hm : ∀ c, c < a → R c b = false) : fstR R b = a := by
  rcases Nat.lt_trichotomy (fstR R b) a with h1 | h1 | h1
  · rcases fst_cases R b with ⟨h2, _⟩ | ⟨_, h3, _⟩
    · omega
    · rw [hm _ h1] at h3; cases h3
  · exact h1
  · rw [fst_min h1] at h; cases h
theorem fst_eq {R : Nat → Nat → Bool} (E : Eqv R) {a b : Nat} (h : R a b = true) : fstR R a = fstR R b := by
  rcases Nat.lt_trichotomy (fstR R a) (fstR R b) with h1 | h1 | h1
  · have := fst_min h1
    rw [E.trans _ _ _ (fst_rel E a) h] at this; cases this
  · exact h1
  · have := fst_min h1
    rw [E.trans _ _ _ (fst_rel E b) (E.symm _ _ h)] at this; cases this
theorem fst_fst {R : Nat → Nat → Bool} (E : Eqv R) (b : Nat) : fstR R (fstR R b) = fstR R b := fst_eq E (fst_rel E b)
theorem cnt_new {R : Nat → Nat → Bool} {n : Nat} (h : fstR R n = n) : cntR R (n + 1) = cntR R n + 1 := by
  show cntR R n + (if fstR R n = n then 1 else 0) = _; rw [if_pos h]
theorem cnt_old {R : Nat → Nat → Bool} {n : Nat} (h : fstR R n ≠ n) : cntR R (n + 1) = cntR R n := by
  show cntR R n + (if fstR R n = n then 1 else 0) = _; rw [if_neg h]; rfl
theorem cnt_mono (R : Nat → Nat → Bool) {a b : Nat} (h : a ≤ b) : cntR R a ≤ cntR R b := by
  induction b with
  | zero => have : a = 0 := by omega
            subst this; exact Nat.le_refl _
  | succ b ih =>
    rcases Nat.lt_or_ge b a with h1 | h1
    · have : a = b + 1 := by omega
      subst this; exact Nat.le_refl _
    · exact Nat.le_trans (ih h1) (Nat.le_add_right _ _)
theorem cnt_lt {R : Nat → Nat → Bool} {a b : Nat} (h : a < b) (hn : fstR R a = a) : cntR R a < cntR R b := by
  have := cnt_mono R (show a + 1 ≤ b from h)
  rw [cnt_new hn] at this
  omega
theorem cnt_le (R : Nat → Nat → Bool) (n : Nat) : cntR R n ≤ n := by
  induction n with
  | zero => exact Nat.le_refl _
  | succ n ih =>
    show cntR R n + (if fstR R n = n then 1 else 0) ≤ _
    split <;> omega
theorem fst_zero (R : Nat → Nat → Bool) : fstR R 0 = 0 := rfl
theorem cnt_pos (R : Nat → Nat → Bool) {n : Nat} (h : 0 < n) : 0 < cntR R n := cnt_lt h (fst_zero R)
theorem cls_new {R : Nat → Nat → Bool} {b : Nat} (h : fstR R b = b) : clsR R b = cntR R b := by unfold clsR; rw [h]
theorem cls_eq {R : Nat → Nat → Bool} (E : Eqv R) {a b : Nat} (h : R a b = true) : clsR R a = clsR R b := by unfold clsR; rw [fst_eq E h]
theorem cls_lt {R : Nat → Nat → Bool} (E : Eqv R) {b n : Nat} (h : b < n) : clsR R b < cntR R n := cnt_lt (Nat.lt_of_le_of_lt (fst_le R b) h) (fst_fst E b)
theorem cls_le {R : Nat → Nat → Bool} (b : Nat) : clsR R b ≤ b := Nat.le_trans (cnt_le R _) (fst_le R b)
theorem cls_inj {R : Nat → Nat → Bool} (E : Eqv R) {a b : Nat} (h : clsR R a = clsR R b) : R a b = true := by
  have e : fstR R a = fstR R b := by
    rcases Nat.lt_trichotomy (fstR R a) (fstR R b) with h1 | h1 | h1
    · have := cnt_lt h1 (fst_fst E a); unfold clsR at h; omega
    · exact h1
    · have := cnt_lt h1 (fst_fst E b); unfold clsR at h; omega
  exact E.trans _ _ _ (E.symm _ _ (fst_rel E a)) (e ▸ fst_rel E b)
theorem cls_iff {R : Nat → Nat → Bool} (E : Eqv R) (a b : Nat) : R a b = decide (clsR R a = clsR R b) := by
  cases h : R a b
  · refine (decide_eq_false fun e => ?_).symm
    rw [cls_inj E e] at h; cases h
  · exact (decide_eq_true (cls_eq E h)).symm
/-- Each class below the count begins somewhere. -/
theorem cls_surj {R : Nat → Nat → Bool} : ∀ (n k : Nat), k < cntR R n → ∃ a, a < n ∧ fstR R a = a ∧ clsR R a = k
  | 0, _, h => by cases h
  | n + 1, k, h => by
    by_cases hn : fstR R n = n
    · rw [cnt_new hn] at h
      rcases Nat.lt_or_ge k (cntR R n) with h1 | h1
      · obtain ⟨a, ha, hb⟩ := cls_surj n k h1
        exact ⟨a, by omega, hb⟩
      · exact ⟨n, by omega, hn, by rw [cls_new hn]; omega⟩
    · rw [cnt_old hn] at h
      obtain ⟨a, ha, hb⟩ := cls_surj n k h
      exact ⟨a, by omega, hb⟩
theorem fst_congr {R R' : Nat → Nat → Bool} {n : Nat} (h : ∀ a b, a < n → b < n → R a b = R' a b) {b : Nat} (hb : b < n) : fstR R b = fstR R' b := by
  rcases fst_cases R b with ⟨h1, h2⟩ | ⟨h1, h2, h3⟩
  · rw [h1]; exact (fst_new fun a ha => by rw [← h a b (by omega) hb]; exact h2 a ha).symm
  · exact (fst_at h1 (by rw [← h _ b (by omega) hb]; exact h2) (fun c hc => by rw [← h c b (by omega) hb]; exact h3 c hc)).symm
theorem cnt_congr {R R' : Nat → Nat → Bool} {n : Nat} (h : ∀ a b, a < n → b < n → R a b = R' a b) : ∀ {m : Nat}, m ≤ n → cntR R m = cntR R' m
  | 0, _ => rfl
  | m + 1, hm => by
    show cntR R m + _ = cntR R' m + _
    rw [cnt_congr h (by omega : m ≤ n), fst_congr h (by omega : m < n)]
theorem cls_congr {R R' : Nat → Nat → Bool} {n : Nat} (h : ∀ a b, a < n → b < n → R a b = R' a b) {b : Nat} (hb : b < n) : clsR R b = clsR R' b := by
  unfold clsR
  rw [fst_congr h hb]
  exact cnt_congr h (Nat.le_of_lt (Nat.lt_of_le_of_lt (fst_le R' b) hb))
/-- A finer likeness has no fewer classes. -/
theorem cnt_finer {R R' : Nat → Nat → Bool} (h : ∀ a b, R a b = true → R' a b = true) : ∀ n, cntR R' n ≤ cntR R n
  | 0 => Nat.le_refl _
  | n + 1 => by
    have ih := cnt_finer h n
    by_cases hn : fstR R' n = n
    · have : fstR R n = n := fst_new fun a ha => by
        cases hR : R a n
        · rfl
        · have h1 := h _ _ hR
          rw [fst_min (R := R') (a := a) (b := n) (by rw [hn]; exact ha)] at h1; cases h1
      rw [cnt_new hn, cnt_new this]; omega
    · rw [cnt_old hn]
      exact Nat.le_trans ih (cnt_mono R (Nat.le_succ n))
/-- The class of a number, out of one that is alike and stands ahead of it; or, if there is none, the count. -/
theorem cls_old {R : Nat → Nat → Bool} (E : Eqv R) {a b : Nat} (hab : a < b) (h : R a b = true) : clsR R b = clsR R a ∧ cntR R (b + 1) = cntR R b := by
  refine ⟨(cls_eq E h).symm, cnt_old fun e => ?_⟩
  rw [fst_min (R := R) (a := a) (b := b) (by rw [e]; exact hab)] at h; cases h
theorem cls_fresh {R : Nat → Nat → Bool} {b : Nat} (h : ∀ a, a < b → R a b = false) : clsR R b = cntR R b ∧ cntR R (b + 1) = cntR R b + 1 :=
  ⟨cls_new (fst_new h), cnt_new (fst_new h)⟩
end Go.Proofs.Ytjjnpobppmmgbaa
