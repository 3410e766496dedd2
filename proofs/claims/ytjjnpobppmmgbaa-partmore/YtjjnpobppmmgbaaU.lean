/- The least bytes of classes: the first of each, rising. -/
import Derived.Test.YtjjnpobppmmgbaaW
namespace Go.Proofs.Ytjjnpobppmmgbaa
open Go.RowKit
theorem listC_getD {R : Nat → Nat → Bool} {n i : Nat} (h : i < n) : (listC R n).getD i 0 = (clsR R i : Int) := by
  simp [listC, List.getD_eq_getElem?_getD, h]
/-- The least byte of class c. -/
theorem least_cls {R : Nat → Nat → Bool} (E : Eqv R) {n c : Nat} (h : c < cntR R n) : ∃ a : Nat, a < n ∧ leastI (listC R n) c = a ∧ clsR R a = c ∧ cntR R a = c := by
  obtain ⟨a, ha, hf, hc⟩ := cls_surj n c h
  refine ⟨a, ha, ?_, hc, by rw [← cls_new hf]; exact hc⟩
  refine leastI_at (by rw [listC_length]; exact ha) (by rw [listC_getD ha, hc]) fun d hd => ?_
  rw [listC_getD (by omega)]
  intro e
  have h1 : R d a = true := cls_inj E (by omega)
  rw [fst_min (R := R) (a := d) (b := a) (by rw [hf]; exact hd)] at h1
  cases h1
/-- Least bytes rise. -/
theorem least_rise {R : Nat → Nat → Bool} {a b c : Nat} (ha : cntR R a = c) (hb : cntR R b = c + 1) : a < b := by
  rcases Nat.lt_or_ge a b with h | h
  · exact h
  · have := cnt_mono R h; omega
theorem row_of_block {w : World} {p : Nat} {R : Nat → Nat → Bool} (h : w.heap[p]? = some (.cells (rowN (clsR R)) 3 (0, 0))) :
    w.ownsRow p 3 1 (.slice (some ⟨p, 0, none⟩) 256 256) (listC R 256).length ((listC R 256).map (Value.int .i64)) := by
  rw [listC_length]
  refine ⟨by simp [listC_length], Or.inr ⟨p, 256, _, rfl, Nat.le_refl _, h, Nat.le_refl _, by unfold maxLen; omega, by rw [rowN_size], ?_⟩⟩
  rw [← rowN_list, List.take_of_length_le (by simp [rowN])]
theorem leastL_get {zs : List Int} {N c : Nat} (h : c < N) : ((leastL zs N).map (Value.int .i64))[c]? = some (.int .i64 (leastI zs c)) := by simp [leastL, h]
end Go.Proofs.Ytjjnpobppmmgbaa
