/- Contracts of the document's own answers of layer 1: add, other, Of, Or, And, Not, Fold. -/
import Derived.Test.YthloafbgfjhicaaM
import Derived.Deep.RegionHeld3
namespace Go.Proofs.Ythloafbgfjhicaa
open Go.RowKit
/-- A set with the byte b. -/
def addS (f : Nat → Int) (b : Int) (i : Nat) : Int := if i = (b / 64).toNat then bits .or .u64 (f (b / 64).toNat) (IntKind.u64.wrap (2 ^ (b % 64).toNat)) else f i
theorem row_set (f : Nat → Int) (i : Nat) (hi : i < 4) (x : Int) : (row4 f).setIfInBounds i (.int .u64 x) = row4 fun j => if j = i then x else f j := by
  match i, hi with
  | 0, _ => simp
  | 1, _ => simp
  | 2, _ => simp
  | 3, _ => simp
set_option maxHeartbeats 400000 in
theorem add_any (f : Nat → Int) (b : Int) (h0 : 0 ≤ b) (h1 : b < 256) (w : World) :
    Calls Try.prog 29 #[SV f, .int .i64 b] w fun e w' => e = .returned (SV (addS f b)) ∧ Below w.heap.size w w' := by
  have hq : 0 ≤ b / 64 := by omega
  have hq4 : b / 64 < 4 := by omega
  have hr : 0 ≤ b % 64 := by omega
  go_enter Try.func29, Try.ntmps29
  go_wp2
  have HP := Lib.hid (heap_alloc2_old w (.cells (row4 f) 24 (0, 0)) (.cells (row4 fun _ => 0) 24 (0, 0)))
  have HQ := Lib.hid (heap_alloc2_new w (.cells (row4 f) 24 (0, 0)) (.cells (row4 fun _ => 0) 24 (0, 0)))
  have hB : Below w.heap.size w ((w.alloc (.cells (row4 f) 24 (0, 0))).alloc (.cells (row4 fun _ => 0) 24 (0, 0))) := ((Below.refl _ _).alloc (Nat.le_refl _) _).alloc (by simp) _
  generalize (w.alloc (.cells (row4 f) 24 (0, 0))).alloc (.cells (row4 fun _ => 0) 24 (0, 0)) = w2 at *
  have cp := cell4 HP.out (b / 64).toNat (by omega)
  have fp := frozen_of_row _ _ (b / 64).toNat _ _ HP.out
  have HS : Hid ((w2.setCell ⟨w.heap.size, (b / 64).toNat, none⟩ (.int .u64 (bits .or .u64 (f (b / 64).toNat) (IntKind.u64.wrap (2 ^ (b % 64).toNat))))).heap[w.heap.size]? = some (.cells (row4 (addS f b)) 24 (0, 0))) :=
    Lib.hid ((heap_setCell_same w2 _ _ _ _ _ HP.out).trans (by rw [row_set f _ (by omega)]; rfl))
  have HT := Lib.hid ((heap_setCell_other w2 ⟨w.heap.size, (b / 64).toNat, none⟩ (w.heap.size + 1) (.int .u64 (bits .or .u64 (f (b / 64).toNat) (IntKind.u64.wrap (2 ^ (b % 64).toNat)))) (by dsimp only; omega)).trans HQ.out)
  have hB2 := Lib.hid (hB.setCell (p := ⟨w.heap.size, (b / 64).toNat, none⟩) (Nat.le_refl _) (.int .u64 (bits .or .u64 (f (b / 64).toNat) (IntKind.u64.wrap (2 ^ (b % 64).toNat)))))
  go_region
  clear cp fp hB HP HQ
  generalize w2.setCell ⟨w.heap.size, (b / 64).toNat, none⟩ (.int .u64 (bits .or .u64 (f (b / 64).toNat) (IntKind.u64.wrap (2 ^ (b % 64).toNat)))) = w3 at *
  have c0 := cell4 HS.out 0 (by omega)
  have c1 := cell4 HS.out 1 (by omega)
  have c2 := cell4 HS.out 2 (by omega)
  have c3 := cell4 HS.out 3 (by omega)
  have d0 := cell4 HT.out 0 (by omega)
  have d1 := cell4 HT.out 1 (by omega)
  have d2 := cell4 HT.out 2 (by omega)
  have d3 := cell4 HT.out 3 (by omega)
  have f0 := frozen_of_row _ _ 0 _ _ HT.out
  have f1 := frozen_of_row _ _ 1 _ _ HT.out
  have f2 := frozen_of_row _ _ 2 _ _ HT.out
  have f3 := frozen_of_row _ _ 3 _ _ HT.out
  have HR := Lib.hid (stored4 (addS f b) HT.out)
  go_wp2
  refine bodyPost_ret (v := SV (addS f b)) (ret4 Try.results29 rfl (by exact HR.out)) rfl ⟨rfl, ?_⟩
  exact ((((hB2.out.setCell (by simp) _).setCell (by simp) _).setCell (by simp) _).setCell (by simp) _).drew
end Go.Proofs.Ythloafbgfjhicaa
