/- The law SetMakes answers true at every input, over the landed code: the walk. -/
import Derived.Test.YthloafbgfjhicaaI
namespace Go.Proofs.Ythloafbgfjhicaa
open Go.RowKit
set_option maxRecDepth 100000 in
set_option maxHeartbeats 8000000 in
theorem makes_core (f g o1 o2 o3 o4 o5 o6 o7 o8 o9 o10 : Nat → Int) (a x y : Int) (w : World)
    (k11 : Hid (∀ w, Calls Try.prog 11 #[.int .i64 x, .int .i64 y] w fun e w' => e = .returned (SV o1) ∧ Below w.heap.size w w'))
    (k12 : Hid (∀ w, Calls Try.prog 12 #[.int .i64 x, .int .i64 y] w fun e w' => e = .returned (SV o2) ∧ Below w.heap.size w w'))
    (k13 : Hid (∀ w, Calls Try.prog 13 #[SV f, SV g] w fun e w' => e = .returned (SV o3) ∧ Below w.heap.size w w'))
    (k14 : Hid (∀ w, Calls Try.prog 14 #[SV f, SV g] w fun e w' => e = .returned (SV o4) ∧ Below w.heap.size w w'))
    (k15 : Hid (∀ w, Calls Try.prog 15 #[SV f, SV g] w fun e w' => e = .returned (SV o5) ∧ Below w.heap.size w w'))
    (k16 : Hid (∀ w, Calls Try.prog 16 #[SV f, SV g] w fun e w' => e = .returned (SV o6) ∧ Below w.heap.size w w'))
    (k17 : Hid (∀ w, Calls Try.prog 17 #[SV f] w fun e w' => e = .returned (SV o7) ∧ Below w.heap.size w w'))
    (k18 : Hid (∀ w, Calls Try.prog 18 #[SV f] w fun e w' => e = .returned (SV o8) ∧ Below w.heap.size w w'))
    (k19 : Hid (∀ w, Calls Try.prog 19 #[SV f] w fun e w' => e = .returned (SV o9) ∧ Below w.heap.size w w'))
    (k20 : Hid (∀ w, Calls Try.prog 20 #[SV f] w fun e w' => e = .returned (SV o10) ∧ Below w.heap.size w w'))
    (q1 : ∀ wx, Sem.run Try.prog (binOp .eql 24 (SV o1) (SV o2)) wx = .ok (.bool true) wx)
    (q2 : ∀ wx, Sem.run Try.prog (binOp .eql 24 (SV o3) (SV o4)) wx = .ok (.bool true) wx)
    (q3 : ∀ wx, Sem.run Try.prog (binOp .eql 24 (SV o5) (SV o6)) wx = .ok (.bool true) wx)
    (q4 : ∀ wx, Sem.run Try.prog (binOp .eql 24 (SV o7) (SV o8)) wx = .ok (.bool true) wx)
    (q5 : ∀ wx, Sem.run Try.prog (binOp .eql 24 (SV o9) (SV o10)) wx = .ok (.bool true) wx) :
    Calls Try.prog 3 #[SV f, SV g, .int .i64 a, .int .i64 x, .int .i64 y] w fun e w' => e = .returned (.bool true) ∧ Below w.heap.size w w' := by
  go_enter Try.func3, Try.ntmps3
  go_wp2_with fail
  have HP := Lib.hid (heap_alloc2_old w (.cells (row4 f) 24 (0, 0)) (.cells (row4 g) 24 (0, 0)))
  have HQ := Lib.hid (heap_alloc2_new w (.cells (row4 f) 24 (0, 0)) (.cells (row4 g) 24 (0, 0)))
  have hB : Below w.heap.size w ((w.alloc (.cells (row4 f) 24 (0, 0))).alloc (.cells (row4 g) 24 (0, 0))) := ((Below.refl _ _).alloc (Nat.le_refl _) _).alloc (by simp) _
  have hpl : w.heap.size < ((w.alloc (.cells (row4 f) 24 (0, 0))).alloc (.cells (row4 g) 24 (0, 0))).heap.size := by simp; omega
  have hql : w.heap.size + 1 < ((w.alloc (.cells (row4 f) 24 (0, 0))).alloc (.cells (row4 g) 24 (0, 0))).heap.size := by simp
  generalize (w.alloc (.cells (row4 f) 24 (0, 0))).alloc (.cells (row4 g) 24 (0, 0)) = w2 at *
  have hg24 := guard24
  go_region_held3 (fun w' => Below w2.heap.size w2 w' ∧ w'.cell? ⟨w.heap.size, 0, none⟩ = some (.int .u64 (f 0)) ∧ w'.cell? ⟨w.heap.size, 1, none⟩ = some (.int .u64 (f 1)) ∧ w'.cell? ⟨w.heap.size, 2, none⟩ = some (.int .u64 (f 2)) ∧ w'.cell? ⟨w.heap.size, 3, none⟩ = some (.int .u64 (f 3)) ∧ w'.cell? ⟨w.heap.size + 1, 0, none⟩ = some (.int .u64 (g 0)) ∧ w'.cell? ⟨w.heap.size + 1, 1, none⟩ = some (.int .u64 (g 1)) ∧ w'.cell? ⟨w.heap.size + 1, 2, none⟩ = some (.int .u64 (g 2)) ∧ w'.cell? ⟨w.heap.size + 1, 3, none⟩ = some (.int .u64 (g 3)))
    ((refine keep8 hpl hql HP.out HQ.out ?_; first | assumption | exact (Below.refl _ _).drew))
    (first
      | (go_at_call 8; go_split_ands; refine (fromB (w := w2) (awake_any _) ?_).mono ?_; assumption; rintro e wz ⟨rfl, hBz⟩)
      | (go_at_call 9; go_split_ands; refine (fromB (w := w2) (has_any f a _) ?_).mono ?_; assumption; rintro e wz ⟨rfl, hBz⟩)
      | (go_at_call 10; go_split_ands; refine (fromB (w := w2) (refhas_any f a _) ?_).mono ?_; assumption; rintro e wz ⟨rfl, hBz⟩)
      | (go_at_call 11; go_split_ands; refine (fromB (w := w2) (k11.out _) ?_).mono ?_; assumption; rintro e wz ⟨rfl, hBz⟩)
      | (go_at_call 12; go_split_ands; refine (fromB (w := w2) (k12.out _) ?_).mono ?_; assumption; rintro e wz ⟨rfl, hBz⟩)
      | (go_at_call 13; go_split_ands; refine (fromB (w := w2) (k13.out _) ?_).mono ?_; assumption; rintro e wz ⟨rfl, hBz⟩)
      | (go_at_call 14; go_split_ands; refine (fromB (w := w2) (k14.out _) ?_).mono ?_; assumption; rintro e wz ⟨rfl, hBz⟩)
      | (go_at_call 15; go_split_ands; refine (fromB (w := w2) (k15.out _) ?_).mono ?_; assumption; rintro e wz ⟨rfl, hBz⟩)
      | (go_at_call 16; go_split_ands; refine (fromB (w := w2) (k16.out _) ?_).mono ?_; assumption; rintro e wz ⟨rfl, hBz⟩)
      | (go_at_call 17; go_split_ands; refine (fromB (w := w2) (k17.out _) ?_).mono ?_; assumption; rintro e wz ⟨rfl, hBz⟩)
      | (go_at_call 18; go_split_ands; refine (fromB (w := w2) (k18.out _) ?_).mono ?_; assumption; rintro e wz ⟨rfl, hBz⟩)
      | (go_at_call 19; go_split_ands; refine (fromB (w := w2) (k19.out _) ?_).mono ?_; assumption; rintro e wz ⟨rfl, hBz⟩)
      | (go_at_call 20; go_split_ands; refine (fromB (w := w2) (k20.out _) ?_).mono ?_; assumption; rintro e wz ⟨rfl, hBz⟩))
  go_wp2
  go_ret
  exact ⟨rfl, hB.trans (hBz.mono hB.size)⟩
theorem makes_any (f g : Nat → Int) (hf : Wf f) (hg : Wf g) (a x y : Int) (w : World) :
    Calls Try.prog 3 #[SV f, SV g, .int .i64 a, .int .i64 x, .int .i64 y] w fun e w' => e = .returned (.bool true) ∧ Below w.heap.size w w' :=
  makes_core f g _ _ _ _ _ _ _ _ _ _ a x y w (Lib.hid fun w => of_any x y w) (Lib.hid fun w => refof_any x y w) (Lib.hid fun w => or_any f g w) (Lib.hid fun w => refor_any f g w) (Lib.hid fun w => and_any f g w) (Lib.hid fun w => refand_any f g w)
    (Lib.hid fun w => not_any f w) (Lib.hid fun w => refnot_any f w) (Lib.hid fun w => fold_any f w) (Lib.hid fun w => reffold_any f w)
    (fun wx => (eql24 _ _ wx).trans (by rw [eq_of x y])) (fun wx => (eql24 _ _ wx).trans (by rw [eq_or hf hg])) (fun wx => (eql24 _ _ wx).trans (by rw [eq_and hf hg])) (fun wx => (eql24 _ _ wx).trans (by rw [eq_not hf])) (fun wx => (eql24 (foldS f) _ wx).trans (by rw [eq_fold hf]))
end Go.Proofs.Ythloafbgfjhicaa
