/- The law SetTurned answers true at every input, over the landed code: the mathematics and the walk. -/
import Derived.Test.YthloafbgfjhicaaP
namespace Go.Proofs.Ythloafbgfjhicaa
open Go.RowKit
/-- A set that is folded. -/
def foldS (f : Nat → Int) : Nat → Int := byK (foldK f)
theorem wf_fold (f : Nat → Int) : Wf (foldS f) := wf_byK _
theorem hasI_fold (f : Nat → Int) {b : Int} (h0 : 0 ≤ b) (h1 : b < 256) : hasI (foldS f) b = (hasI f b || hasI f (otherC b)) := by
  rw [foldS, hasI_byK _ h0 h1]; rfl
theorem other_other (b : Int) : otherC (otherC b) = b := by
  unfold otherC
  by_cases h1 : 97 ≤ b ∧ b ≤ 122
  · rw [if_pos h1, if_neg (by omega), if_pos (by omega)]; omega
  · rw [if_neg h1]
    by_cases h2 : 65 ≤ b ∧ b ≤ 90
    · rw [if_pos h2, if_pos (by omega)]; omega
    · rw [if_neg h2, if_neg h1, if_neg h2]
theorem not_not_eq {f : Nat → Int} (hf : Wf f) : eqS (notS (notS f)) f = true :=
  ext_eqS (wf_not (wf_not hf)) hf fun b h0 h1 => by rw [hasI_not (wf_not hf) h0 h1, hasI_not hf h0 h1, Bool.not_not]
theorem not_or_eq {f g : Nat → Int} (hf : Wf f) (hg : Wf g) : eqS (notS (orS f g)) (andS (notS f) (notS g)) = true :=
  ext_eqS (wf_not (wf_or hf hg)) (wf_and (wf_not hf) (wf_not hg)) fun b h0 h1 => by
    rw [hasI_not (wf_or hf hg) h0 h1, hasI_or hf hg, hasI_and (wf_not hf) (wf_not hg), hasI_not hf h0 h1, hasI_not hg h0 h1, Bool.not_or]
theorem fold_fold_eq (f : Nat → Int) : eqS (foldS (foldS f)) (foldS f) = true :=
  ext_eqS (wf_fold _) (wf_fold _) fun b h0 h1 => by
    rw [hasI_fold _ h0 h1, hasI_fold f h0 h1, hasI_fold f (other_in h0 h1).1 (other_in h0 h1).2, other_other]
    cases hasI f b <;> cases hasI f (otherC b) <;> rfl
theorem or_fold_eq {f : Nat → Int} (hf : Wf f) : eqS (orS (foldS f) f) (foldS f) = true :=
  ext_eqS (wf_or (wf_fold _) hf) (wf_fold _) fun b h0 h1 => by
    rw [hasI_or (wf_fold _) hf, hasI_fold f h0 h1]
    cases hasI f b <;> cases hasI f (otherC b) <;> rfl
theorem and_not_eq {f : Nat → Int} (hf : Wf f) : eqS (andS f (notS f)) (fun _ => 0) = true :=
  ext_eqS (wf_and hf (wf_not hf)) wf0 fun b h0 h1 => by
    rw [hasI_and hf (wf_not hf), hasI_not hf h0 h1, hasI_0 h0 h1]
    cases hasI f b <;> rfl
theorem keep12 {w w1 : World} {p q r : Nat} {f g k : Nat → Int} (hpl : p < w.heap.size) (hql : q < w.heap.size) (hrl : r < w.heap.size) (hp : w.heap[p]? = some (.cells (row4 f) 24 (0, 0))) (hq : w.heap[q]? = some (.cells (row4 g) 24 (0, 0))) (hr : w.heap[r]? = some (.cells (row4 k) 24 (0, 0))) (h : Below w.heap.size w w1) :
    Below w.heap.size w w1 ∧ w1.cell? ⟨p, 0, none⟩ = some (.int .u64 (f 0)) ∧ w1.cell? ⟨p, 1, none⟩ = some (.int .u64 (f 1)) ∧ w1.cell? ⟨p, 2, none⟩ = some (.int .u64 (f 2)) ∧ w1.cell? ⟨p, 3, none⟩ = some (.int .u64 (f 3)) ∧
      w1.cell? ⟨q, 0, none⟩ = some (.int .u64 (g 0)) ∧ w1.cell? ⟨q, 1, none⟩ = some (.int .u64 (g 1)) ∧ w1.cell? ⟨q, 2, none⟩ = some (.int .u64 (g 2)) ∧ w1.cell? ⟨q, 3, none⟩ = some (.int .u64 (g 3)) ∧
      w1.cell? ⟨r, 0, none⟩ = some (.int .u64 (k 0)) ∧ w1.cell? ⟨r, 1, none⟩ = some (.int .u64 (k 1)) ∧ w1.cell? ⟨r, 2, none⟩ = some (.int .u64 (k 2)) ∧ w1.cell? ⟨r, 3, none⟩ = some (.int .u64 (k 3)) := by
  have hc1 := (h.block p hpl).trans hp
  have hd1 := (h.block q hql).trans hq
  have he1 := (h.block r hrl).trans hr
  exact ⟨h, cell4 hc1 0 (by omega), cell4 hc1 1 (by omega), cell4 hc1 2 (by omega), cell4 hc1 3 (by omega), cell4 hd1 0 (by omega), cell4 hd1 1 (by omega), cell4 hd1 2 (by omega), cell4 hd1 3 (by omega), cell4 he1 0 (by omega), cell4 he1 1 (by omega), cell4 he1 2 (by omega), cell4 he1 3 (by omega)⟩
set_option maxRecDepth 100000 in
set_option maxHeartbeats 4000000 in
theorem turned_core (f g k kk : Nat → Int) (w : World)
    (hk : Hid (∀ w, Calls Try.prog 19 #[SV f] w fun e w' => e = .returned (SV k) ∧ Below w.heap.size w w')) (hkk : Hid (∀ w, Calls Try.prog 19 #[SV k] w fun e w' => e = .returned (SV kk) ∧ Below w.heap.size w w'))
    (q1 : ∀ wx, Sem.run Try.prog (binOp .eql 24 (SV (notS (notS f))) (SV f)) wx = .ok (.bool true) wx)
    (q2 : ∀ wx, Sem.run Try.prog (binOp .eql 24 (SV (notS (orS f g))) (SV (andS (notS f) (notS g)))) wx = .ok (.bool true) wx)
    (q3 : ∀ wx, Sem.run Try.prog (binOp .eql 24 (SV kk) (SV k)) wx = .ok (.bool true) wx)
    (q4 : ∀ wx, Sem.run Try.prog (binOp .eql 24 (SV (orS k f)) (SV k)) wx = .ok (.bool true) wx)
    (q5 : ∀ wx, Sem.run Try.prog (binOp .eql 24 (SV (andS f (notS f))) (.agg #[.int .u64 0, .int .u64 0, .int .u64 0, .int .u64 0])) wx = .ok (.bool true) wx) :
    Calls Try.prog 5 #[SV f, SV g] w fun e w' => e = .returned (.bool true) ∧ Below w.heap.size w w' := by
  go_enter Try.func5, Try.ntmps5
  go_wp2_with fail
  refine (awake_any _).mono ?_
  rintro e w1 ⟨rfl, hb1⟩
  have HP := Lib.hid ((hb1.block w.heap.size (by simp <;> omega)).trans (heap_alloc2_old _ _ _))
  have HQ := Lib.hid ((hb1.block (w.heap.size + 1) (by simp <;> omega)).trans (heap_alloc2_new _ _ _))
  have hl : w.heap.size + 2 ≤ w1.heap.size := by have := hb1.size; simp at this; omega
  have hB1 : Below w.heap.size w w1 := (((Below.refl _ _).alloc (Nat.le_refl _) _).alloc (by simp) _).trans (hb1.mono (by simp <;> omega))
  obtain ⟨_, c0, c1, c2, c3, d0, d1, d2, d3⟩ := keep8 (by omega) (by omega) HP.out HQ.out (Below.refl _ _)
  clear hb1
  go_wp2_with fail
  refine (hk.out _).mono ?_
  rintro e w2 ⟨rfl, hb2⟩
  have HP2 := Lib.hid ((hb2.block w.heap.size (by omega)).trans HP.out)
  have HQ2 := Lib.hid ((hb2.block (w.heap.size + 1) (by omega)).trans HQ.out)
  have hB2 : Below w.heap.size w w2 := hB1.trans (hb2.mono hB1.size)
  have hl2 : w.heap.size + 2 ≤ w2.heap.size := Nat.le_trans hl hb2.size
  clear c0 c1 c2 c3 d0 d1 d2 d3 HP HQ hl hB1 hb2
  go_wp2_with fail
  have HR3 := Lib.hid (heap_alloc_new w2 (.cells (row4 k) 24 (0, 0)))
  have HP3 := Lib.hid ((Below.heap_alloc w2 (.cells (row4 k) 24 (0, 0)) w.heap.size (by omega)).trans HP2.out)
  have HQ3 := Lib.hid ((Below.heap_alloc w2 (.cells (row4 k) 24 (0, 0)) (w.heap.size + 1) (by omega)).trans HQ2.out)
  have hB3 : Below w.heap.size w (w2.alloc (.cells (row4 k) 24 (0, 0))) := hB2.alloc (by omega) _
  have hz3 : (w2.alloc (.cells (row4 k) 24 (0, 0))).heap.size = w2.heap.size + 1 := by simp
  have hpl : w.heap.size < (w2.alloc (.cells (row4 k) 24 (0, 0))).heap.size := by omega
  have hql : w.heap.size + 1 < (w2.alloc (.cells (row4 k) 24 (0, 0))).heap.size := by omega
  have hrl : w2.heap.size < (w2.alloc (.cells (row4 k) 24 (0, 0))).heap.size := by omega
  clear HP2 HQ2 hB2 hz3
  generalize w2.alloc (.cells (row4 k) 24 (0, 0)) = w3 at *
  generalize w2.heap.size = r at *
  clear hl2
  have hg24 := guard24
  go_region_held3 (fun w' => Below w3.heap.size w3 w' ∧ w'.cell? ⟨w.heap.size, 0, none⟩ = some (.int .u64 (f 0)) ∧ w'.cell? ⟨w.heap.size, 1, none⟩ = some (.int .u64 (f 1)) ∧ w'.cell? ⟨w.heap.size, 2, none⟩ = some (.int .u64 (f 2)) ∧ w'.cell? ⟨w.heap.size, 3, none⟩ = some (.int .u64 (f 3)) ∧ w'.cell? ⟨w.heap.size + 1, 0, none⟩ = some (.int .u64 (g 0)) ∧ w'.cell? ⟨w.heap.size + 1, 1, none⟩ = some (.int .u64 (g 1)) ∧ w'.cell? ⟨w.heap.size + 1, 2, none⟩ = some (.int .u64 (g 2)) ∧ w'.cell? ⟨w.heap.size + 1, 3, none⟩ = some (.int .u64 (g 3)) ∧ w'.cell? ⟨r, 0, none⟩ = some (.int .u64 (k 0)) ∧ w'.cell? ⟨r, 1, none⟩ = some (.int .u64 (k 1)) ∧ w'.cell? ⟨r, 2, none⟩ = some (.int .u64 (k 2)) ∧ w'.cell? ⟨r, 3, none⟩ = some (.int .u64 (k 3)))
    ((refine keep12 hpl hql hrl HP3.out HQ3.out HR3.out ?_; first | assumption | exact (Below.refl _ _).drew))
    (first
      | (go_at_call 17; go_split_ands; refine (fromB (w := w3) (not_any _ _) ?_).mono ?_; assumption; rintro e wz ⟨rfl, hBz⟩)
      | (go_at_call 13; go_split_ands; refine (fromB (w := w3) (or_any _ _ _) ?_).mono ?_; assumption; rintro e wz ⟨rfl, hBz⟩)
      | (go_at_call 15; go_split_ands; refine (fromB (w := w3) (and_any _ _ _) ?_).mono ?_; assumption; rintro e wz ⟨rfl, hBz⟩)
      | (go_at_call 19; go_split_ands; refine (fromB (w := w3) (hkk.out _) ?_).mono ?_; assumption; rintro e wz ⟨rfl, hBz⟩))
  go_wp2
  go_ret
  exact ⟨rfl, hB3.trans (hBz.mono hB3.size)⟩
theorem turned_any (f g : Nat → Int) (hf : Wf f) (hg : Wf g) (w : World) :
    Calls Try.prog 5 #[SV f, SV g] w fun e w' => e = .returned (.bool true) ∧ Below w.heap.size w w' :=
  turned_core f g (foldS f) (foldS (foldS f)) w (Lib.hid fun w => fold_any f w) (Lib.hid fun w => fold_any (foldS f) w)
    (fun wx => (eql24 _ _ wx).trans (by rw [not_not_eq hf])) (fun wx => (eql24 _ _ wx).trans (by rw [not_or_eq hf hg])) (fun wx => (eql24 _ _ wx).trans (by rw [fold_fold_eq f]))
    (fun wx => (eql24 _ _ wx).trans (by rw [or_fold_eq hf])) (fun wx => (eql24 _ (fun _ => 0) wx).trans (by rw [and_not_eq hf]))
end Go.Proofs.Ythloafbgfjhicaa
