/- The mathematics of a set's four words: which bytes are in what is made. -/
import Derived.Test.YthloafbgfjhicaaE
namespace Go.Proofs.Ythloafbgfjhicaa
open Go.RowKit
/-- Four words of 64 bits. -/
def Wf (f : Nat → Int) : Prop := ∀ i, i < 4 → 0 ≤ f i ∧ f i < 18446744073709551616
theorem nat_of {x : Int} (h : 0 ≤ x ∧ x < 18446744073709551616) : ∃ n : Nat, x = (n : Int) ∧ n < 18446744073709551616 := ⟨x.toNat, by omega, by omega⟩
theorem and1_bit {x : Int} (h : 0 ≤ x ∧ x < 18446744073709551616) (k : Nat) : (bits .and .u64 (x / 2 ^ k) 1 == 1) = x.toNat.testBit k := by
  obtain ⟨n, rfl, hn⟩ := nat_of h
  have e1 : ((n : Int) / 2 ^ k) = ((n / 2 ^ k : Nat) : Int) := by simp
  have hl : n / 2 ^ k < 18446744073709551616 := Nat.lt_of_le_of_lt (Nat.div_le_self _ _) hn
  rw [e1, show (1 : Int) = ((1 : Nat) : Int) from rfl, u64_and_nat _ _ hl (by omega), Nat.and_one_is_mod, Int.toNat_natCast, Nat.testBit_eq_decide_div_mod_eq]
  rw [Bool.eq_iff_iff]; simp; omega
theorem or_bit {x y : Int} (hx : 0 ≤ x ∧ x < 18446744073709551616) (hy : 0 ≤ y ∧ y < 18446744073709551616) :
    (0 ≤ bits .or .u64 x y ∧ bits .or .u64 x y < 18446744073709551616) ∧ ∀ k, (bits .or .u64 x y).toNat.testBit k = (x.toNat.testBit k || y.toNat.testBit k) := by
  obtain ⟨n, rfl, hn⟩ := nat_of hx
  obtain ⟨m, rfl, hm⟩ := nat_of hy
  rw [u64_or_nat _ _ hn hm]
  have := Nat.or_lt_two_pow (n := 64) hn hm
  exact ⟨by omega, fun k => by simp⟩
theorem and_bit {x y : Int} (hx : 0 ≤ x ∧ x < 18446744073709551616) (hy : 0 ≤ y ∧ y < 18446744073709551616) :
    (0 ≤ bits .and .u64 x y ∧ bits .and .u64 x y < 18446744073709551616) ∧ ∀ k, (bits .and .u64 x y).toNat.testBit k = (x.toNat.testBit k && y.toNat.testBit k) := by
  obtain ⟨n, rfl, hn⟩ := nat_of hx
  obtain ⟨m, rfl, hm⟩ := nat_of hy
  rw [u64_and_nat _ _ hn hm]
  have := Nat.and_lt_two_pow n (n := 64) hm
  exact ⟨by omega, fun k => by simp⟩
theorem umax : IntKind.u64.max = ((18446744073709551615 : Nat) : Int) := by decide +kernel
theorem not_bit {x : Int} (hx : 0 ≤ x ∧ x < 18446744073709551616) :
    (0 ≤ bits .xor .u64 IntKind.u64.max x ∧ bits .xor .u64 IntKind.u64.max x < 18446744073709551616) ∧ ∀ k, (bits .xor .u64 IntKind.u64.max x).toNat.testBit k = (decide (k < 64) ^^ x.toNat.testBit k) := by
  obtain ⟨n, rfl, hn⟩ := nat_of hx
  rw [umax, u64_xor_nat _ _ (by omega) hn]
  have := Nat.xor_lt_two_pow (x := 18446744073709551615) (n := 64) (by omega) hn
  refine ⟨by omega, fun k => ?_⟩
  rw [Int.toNat_natCast, Nat.testBit_xor, show 18446744073709551615 = 2 ^ 64 - 1 from rfl, Nat.testBit_two_pow_sub_one, Int.toNat_natCast]
theorem pow_wrap {j : Nat} (h : j < 64) : IntKind.u64.wrap (2 ^ j) = ((2 ^ j : Nat) : Int) ∧ 2 ^ j < 18446744073709551616 := by
  have h1 : 2 ^ j < 2 ^ 64 := Nat.pow_lt_pow_right (by omega) h
  refine ⟨?_, h1⟩
  rw [IntKind.wrap_u64, show ((2 : Int) ^ j) = ((2 ^ j : Nat) : Int) from by simp]
  generalize 2 ^ j = m at *
  omega
theorem wordI_bit (K : Int → Bool) (i : Nat) : ∀ j, j ≤ 64 → (0 ≤ wordI K i j ∧ wordI K i j < 18446744073709551616) ∧ ∀ k, (wordI K i j).toNat.testBit k = (decide (k < j) && K ((i : Int) * 64 + (k : Int)))
  | 0, _ => ⟨by simp [wordI], fun k => by simp [wordI]⟩
  | j + 1, h => by
    obtain ⟨ih1, ih2⟩ := wordI_bit K i j (by omega)
    cases hK : K ((i : Int) * 64 + (j : Int))
    · rw [wordI_no hK]
      refine ⟨ih1, fun k => ?_⟩
      rw [ih2]
      by_cases e : k = j
      · subst e; simp [hK]
      · have : decide (k < j) = decide (k < j + 1) := by rw [decide_eq_decide]; omega
        rw [this]
    · rw [wordI_yes hK]
      obtain ⟨p1, p2⟩ := pow_wrap (j := j) (by omega)
      rw [p1]
      obtain ⟨o1, o2⟩ := or_bit ih1 (y := ((2 ^ j : Nat) : Int)) (by generalize 2 ^ j = m at *; omega)
      refine ⟨o1, fun k => ?_⟩
      rw [o2, ih2, Int.toNat_natCast, Nat.testBit_two_pow]
      by_cases e : j = k
      · subst e; simp [hK]
      · have : decide (k < j) = decide (k < j + 1) := by rw [decide_eq_decide]; omega
        rw [this]; simp [e]
theorem hasI_bit {f : Nat → Int} (hf : Wf f) {b : Int} (h0 : 0 ≤ b) (h1 : b < 256) : hasI f b = (f (b / 64).toNat).toNat.testBit (b % 64).toNat := by
  rw [hasI_in h0 h1, and1_bit (hf _ (by omega))]
theorem wf_or {f g : Nat → Int} (hf : Wf f) (hg : Wf g) : Wf (orS f g) := fun i hi => (or_bit (hf i hi) (hg i hi)).1
theorem wf_and {f g : Nat → Int} (hf : Wf f) (hg : Wf g) : Wf (andS f g) := fun i hi => (and_bit (hf i hi) (hg i hi)).1
theorem wf_not {f : Nat → Int} (hf : Wf f) : Wf (notS f) := fun i hi => (not_bit (hf i hi)).1
theorem wf_byK (K : Int → Bool) : Wf (byK K) := fun i _ => (wordI_bit K i 64 (by omega)).1
theorem hasI_or {f g : Nat → Int} (hf : Wf f) (hg : Wf g) (b : Int) : hasI (orS f g) b = (hasI f b || hasI g b) := by
  by_cases h : 0 ≤ b ∧ b < 256
  · rw [hasI_bit (wf_or hf hg) h.1 h.2, hasI_bit hf h.1 h.2, hasI_bit hg h.1 h.2]
    exact (or_bit (hf _ (by omega)) (hg _ (by omega))).2 _
  · rw [hasI_out h, hasI_out h, hasI_out h]; rfl
theorem hasI_and {f g : Nat → Int} (hf : Wf f) (hg : Wf g) (b : Int) : hasI (andS f g) b = (hasI f b && hasI g b) := by
  by_cases h : 0 ≤ b ∧ b < 256
  · rw [hasI_bit (wf_and hf hg) h.1 h.2, hasI_bit hf h.1 h.2, hasI_bit hg h.1 h.2]
    exact (and_bit (hf _ (by omega)) (hg _ (by omega))).2 _
  · rw [hasI_out h, hasI_out h, hasI_out h]; rfl
theorem hasI_not {f : Nat → Int} (hf : Wf f) {b : Int} (h0 : 0 ≤ b) (h1 : b < 256) : hasI (notS f) b = !hasI f b := by
  rw [hasI_bit (wf_not hf) h0 h1, hasI_bit hf h0 h1]
  refine ((not_bit (hf _ (by omega))).2 _).trans ?_
  rw [decide_eq_true (by omega : (b % 64).toNat < 64)]; simp
theorem hasI_byK (K : Int → Bool) {b : Int} (h0 : 0 ≤ b) (h1 : b < 256) : hasI (byK K) b = K b := by
  rw [hasI_bit (wf_byK K) h0 h1]
  refine ((wordI_bit K _ 64 (by omega)).2 _).trans ?_
  rw [decide_eq_true (by omega : (b % 64).toNat < 64), Bool.true_and]
  congr 1; omega
theorem ext_word {f g : Nat → Int} (hf : Wf f) (hg : Wf g) (h : ∀ b : Int, 0 ≤ b → b < 256 → hasI f b = hasI g b) (i : Nat) (hi : i < 4) : f i = g i := by
  have e : (f i).toNat = (g i).toNat := by
    refine Nat.eq_of_testBit_eq fun k => ?_
    by_cases hk : k < 64
    · have := h ((i : Int) * 64 + (k : Int)) (by omega) (by omega)
      rw [hasI_bit hf (by omega) (by omega), hasI_bit hg (by omega) (by omega)] at this
      have e1 : (((i : Int) * 64 + (k : Int)) / 64).toNat = i := by omega
      have e2 : (((i : Int) * 64 + (k : Int)) % 64).toNat = k := by omega
      rw [e1, e2] at this; exact this
    · have l : ∀ x : Int, 0 ≤ x ∧ x < 18446744073709551616 → x.toNat.testBit k = false := fun x hx => by
        refine Nat.testBit_lt_two_pow ?_
        have h2 : 2 ^ 64 ≤ 2 ^ k := Nat.pow_le_pow_right (by omega) (by omega)
        have h3 : (2 : Nat) ^ 64 = 18446744073709551616 := rfl
        rw [h3] at h2
        generalize 2 ^ k = m at *
        omega
      rw [l _ (hf i hi), l _ (hg i hi)]
  have a := hf i hi
  have b := hg i hi
  omega
theorem ext_eqS {f g : Nat → Int} (hf : Wf f) (hg : Wf g) (h : ∀ b : Int, 0 ≤ b → b < 256 → hasI f b = hasI g b) : eqS f g = true := by
  have := ext_word hf hg h
  simp [eqS, this 0 (by omega), this 1 (by omega), this 2 (by omega), this 3 (by omega)]
end Go.Proofs.Ythloafbgfjhicaa
