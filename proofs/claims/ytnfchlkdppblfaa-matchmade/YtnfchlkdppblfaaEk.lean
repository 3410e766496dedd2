/- Steps as they are built: their seven cells; contracts of newStep and isOptional. -/
import Derived.Test.YtnfchlkdppblfaaEj
import Derived.Test.YtnfchlkdppblfaaMe
namespace Go.Proofs.Ytnfchlkdppblfaa
open Go.RowKit Go.Maps Go
theorem cell7 {w : World} {g : Nat} {k : Int} {s : Nat → Int} {v m : Value} {e : Nat} (h : w.heap[g]? = some (.cells (row7 k s v m) e (0, 0))) :
    w.cell? ⟨g, 0, none⟩ = some (.int .i64 k) ∧ w.cell? ⟨g, 1, none⟩ = some (.int .u64 (s 0)) ∧ w.cell? ⟨g, 2, none⟩ = some (.int .u64 (s 1)) ∧ w.cell? ⟨g, 3, none⟩ = some (.int .u64 (s 2)) ∧
    w.cell? ⟨g, 4, none⟩ = some (.int .u64 (s 3)) ∧ w.cell? ⟨g, 5, none⟩ = some v ∧ w.cell? ⟨g, 6, none⟩ = some m :=
  ⟨cell_of_row w g 0 _ _ _ h, cell_of_row w g 1 _ _ _ h, cell_of_row w g 2 _ _ _ h, cell_of_row w g 3 _ _ _ h, cell_of_row w g 4 _ _ _ h, cell_of_row w g 5 _ _ _ h, cell_of_row w g 6 _ _ _ h⟩
theorem frozen7 {w : World} {g : Nat} {k : Int} {s : Nat → Int} {v m : Value} {e : Nat} (hr : w.heap[g]? = some (.cells (row7 k s v m) e (0, 0))) : w.frozen? ⟨g, 0, none⟩ = false ∧ w.frozen? ⟨g, 1, none⟩ = false ∧ w.frozen? ⟨g, 2, none⟩ = false ∧ w.frozen? ⟨g, 3, none⟩ = false ∧ w.frozen? ⟨g, 4, none⟩ = false ∧ w.frozen? ⟨g, 5, none⟩ = false ∧ w.frozen? ⟨g, 6, none⟩ = false :=
  ⟨frozen_of_row _ _ 0 _ _ hr, frozen_of_row _ _ 1 _ _ hr, frozen_of_row _ _ 2 _ _ hr, frozen_of_row _ _ 3 _ _ hr, frozen_of_row _ _ 4 _ _ hr, frozen_of_row _ _ 5 _ _ hr, frozen_of_row _ _ 6 _ _ hr⟩
abbrev put7 (w : World) (g : Nat) (k : Int) (s : Nat → Int) (v m : Value) : World :=
  ((((((w.setCell ⟨g, 0, none⟩ (.int .i64 k)).setCell ⟨g, 1, none⟩ (.int .u64 (s 0))).setCell ⟨g, 2, none⟩ (.int .u64 (s 1))).setCell ⟨g, 3, none⟩ (.int .u64 (s 2))).setCell ⟨g, 4, none⟩ (.int .u64 (s 3))).setCell ⟨g, 5, none⟩ v).setCell ⟨g, 6, none⟩ m
set_option maxRecDepth 100000 in
theorem stored7 {w : World} {g : Nat} {z : Nat → Int} (k : Int) (s : Nat → Int) (v m : Value) {k0 : Int} {v0 m0 : Value} {e : Nat} (h : w.heap[g]? = some (.cells (row7 k0 z v0 m0) e (0, 0))) :
    (put7 w g k s v m).heap[g]? = some (.cells (row7 k s v m) e (0, 0)) := by
  have h1 := heap_setCell_same w g 0 _ _ (.int .i64 k) h
  have h2 := heap_setCell_same _ g 1 _ _ (.int .u64 (s 0)) h1
  have h3 := heap_setCell_same _ g 2 _ _ (.int .u64 (s 1)) h2
  have h4 := heap_setCell_same _ g 3 _ _ (.int .u64 (s 2)) h3
  have h5 := heap_setCell_same _ g 4 _ _ (.int .u64 (s 3)) h4
  have h6 := heap_setCell_same _ g 5 _ _ v h5
  have h7 := heap_setCell_same _ g 6 _ _ m h6
  rw [h7]; simp
theorem put7_grown (w : World) (g : Nat) (k : Int) (s : Nat → Int) (v m : Value) : w.grownBy (put7 w g k s v m) (some g) :=
  grownBy_trans (grownBy_trans (grownBy_trans (grownBy_trans (grownBy_trans (grownBy_trans (setCell_grown w g 0 _) (setCell_grown _ g 1 _)) (setCell_grown _ g 2 _)) (setCell_grown _ g 3 _)) (setCell_grown _ g 4 _)) (setCell_grown _ g 5 _)) (setCell_grown _ g 6 _)
theorem put7_size (w : World) (g : Nat) (k : Int) (s : Nat → Int) (v m : Value) : (put7 w g k s v m).heap.size = w.heap.size := by simp
theorem put7_below (w : World) {B g : Nat} (hg : B ≤ g) (k : Int) (s : Nat → Int) (v m : Value) : Below B w (put7 w g k s v m) :=
  ((((((((Below.refl B w).setCell hg _).setCell hg _).setCell hg _).setCell hg _).setCell hg _).setCell hg _).setCell hg _)
set_option maxRecDepth 100000 in
theorem info51s : (Try.prog.info? 49).map (·.size) = some 7 := by kernel_rfl
set_option maxRecDepth 100000 in
theorem info51 : (Try.prog.info? 49).map (fun i => (i.zero, i.size, i.bytes)) = some (some (stepV 0 z0 (.slice none 0 0) (.map none)), 7, 72) := by kernel_rfl
set_option maxRecDepth 100000 in
theorem ret7 {fn : Func} {p : Tmp} (h : fn.results = #[.cell p 49]) {tmps : Array Value} {w : World} {g : Nat} {k : Int} {s : Nat → Int} {v m : Value} (hp : tmps.getD p undef = .pointer (some ⟨g, 0, none⟩)) (hg : w.heap[g]? = some (.cells (row7 k s v m) 49 (0, 0))) :
    (results fn tmps).run Try.prog w = .ok (stepV k s v m) w :=
  results_cell_row h tmps w g 49 _ _ _ hp hg Try.underlying49 rfl info51s
set_option maxRecDepth 100000 in
set_option maxHeartbeats 400000 in
theorem newStep_any (k : Int) (a : Option Addr) (n cap : Nat) (w : World) : Calls Try.prog 31 #[.int .i64 k, .slice a n cap] w fun e w' => e = .returned (stepV k z0 (.slice a n cap) (.map (some (w.heap.size + 1)))) ∧ Below w.heap.size w w' ∧ w'.heap[w.heap.size + 1]? = some (.map #[] 0) ∧ w.heap.size + 2 ≤ w'.heap.size := by
  have hmm := @run_makeMap Try.prog
  go_enter Try.func31, Try.ntmps31
  go_wp2_with fail
  exact bodyPost_ret (v := stepV k z0 (.slice a n cap) (.map (some (w.heap.size + 1)))) (ret7 (s := z0) Try.results31 rfl (heap_alloc2_old _ _ _)) rfl ⟨rfl, alloc2_below _ _ _, heap_alloc2_new _ _ _, by simp⟩
def isOptB (t : St) : Bool := decide (t.k = 4) && decide ((t.kid 1).k = 1)
theorem isOptB_iff (t : St) : isOptB t = true ↔ isOpt t := by simp [isOptB, isOpt]
set_option maxRecDepth 100000 in
set_option maxHeartbeats 400000 in
theorem isOptional_any (g o : Nat) (t : St) (w : World) (B : Nat) (h7 : At7 w g o t) (hlv : SLv w B t) (hs : Shp t) : Calls Try.prog 53 #[.pointer (some ⟨g, o, none⟩)] w fun e w' => e = .returned (.bool (isOptB t)) ∧ w' = w := by
  obtain ⟨c0, c1, c2, c3, c4, c5, c6⟩ := h7
  by_cases hk : t.k = 4
  · have hn : 2 ≤ t.n := by have := hs.kinds; omega
    obtain ⟨ga, off, ha, hga, hk7⟩ := hlv.row (by omega)
    have hcap := hlv.caps
    have h1 := (hk7 1 (by omega)).1
    rw [ha] at c5
    rw [hk] at c0
    obtain ⟨n, hnn⟩ : ∃ n, n = t.n := ⟨_, rfl⟩
    obtain ⟨cap, hcp⟩ : ∃ cap, cap = t.cap := ⟨_, rfl⟩
    obtain ⟨k1, hk1⟩ : ∃ k1, k1 = (t.kid 1).k := ⟨_, rfl⟩
    rw [← hnn, ← hcp] at c5 hcap
    rw [← hnn] at hn
    rw [← hk1, Nat.one_mul] at h1
    have hX : isOptB t = decide (k1 = 1) := by simp [isOptB, hk, hk1]
    obtain ⟨x, hx⟩ : ∃ x, x = isOptB t := ⟨_, rfl⟩
    rw [← hx] at hX ⊢
    have HX := Lib.hid hX
    have hnm : n ≤ maxLen := Nat.le_trans hcap.1 hcap.2.1
    unfold maxLen at hnm
    have hin : (1 : Int) < (n : Int) := by omega
    clear hx hX hk1 hcp hnn hk7 ha hs hlv hk c1 c2 c3 c4 c6 hcap hga
    by_cases h11 : k1 = 1
    · subst h11
      go_enter Try.func53, Try.ntmps53
      go_wp2
      go_ret
      exact ⟨ret_bool HX.out.symm, rfl⟩
    · have h11' : (k1 == 1) = false := by simp [h11]
      go_enter Try.func53, Try.ntmps53
      go_wp2
      go_ret
      exact ⟨ret_bool (by rw [HX.out]; simp [h11]), rfl⟩
  · have HX := Lib.hid (show isOptB t = false by simp [isOptB, hk])
    have hk' : (t.k == 4) = false := by simp [hk]
    clear hs hlv c1 c2 c3 c4 c5 c6
    go_enter Try.func53, Try.ntmps53
    go_wp2
    go_ret
    exact ⟨ret_bool HX.out.symm, rfl⟩
end Go.Proofs.Ytnfchlkdppblfaa
