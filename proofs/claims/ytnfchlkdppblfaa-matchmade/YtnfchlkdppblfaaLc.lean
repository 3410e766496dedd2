/- The law's own char and first look (awake). -/
import Derived.Test.YtnfchlkdppblfaaLb
namespace Go.Proofs.Ytnfchlkdppblfaa
open Go.RowKit
set_option maxRecDepth 100000 in
theorem wf_z0 : Wf z0 := fun i _ => by simp [z0]
set_option maxRecDepth 100000 in
theorem stored8 {w : World} {g : Nat} {z : Nat → Int} (k : Int) (s : Nat → Int) (lo hi : Int) (v : Value) {k0 : Int} {lo0 hi0 : Int} {v0 : Value} (h : w.heap[g]? = some (.cells (row8 k0 z lo0 hi0 v0) 30 (0, 0))) :
    ((((((((w.setCell ⟨g, 0, none⟩ (.int .i64 k)).setCell ⟨g, 1, none⟩ (.int .u64 (s 0))).setCell ⟨g, 2, none⟩ (.int .u64 (s 1))).setCell ⟨g, 3, none⟩ (.int .u64 (s 2))).setCell ⟨g, 4, none⟩ (.int .u64 (s 3))).setCell ⟨g, 5, none⟩ (.int .i64 lo)).setCell ⟨g, 6, none⟩ (.int .i64 hi)).setCell ⟨g, 7, none⟩ v).heap[g]? = some (.cells (row8 k s lo hi v) 30 (0, 0)) := by
  have h1 := heap_setCell_same w g 0 _ _ (.int .i64 k) h
  have h2 := heap_setCell_same _ g 1 _ _ (.int .u64 (s 0)) h1
  have h3 := heap_setCell_same _ g 2 _ _ (.int .u64 (s 1)) h2
  have h4 := heap_setCell_same _ g 3 _ _ (.int .u64 (s 2)) h3
  have h5 := heap_setCell_same _ g 4 _ _ (.int .u64 (s 3)) h4
  have h6 := heap_setCell_same _ g 5 _ _ (.int .i64 lo) h5
  have h7 := heap_setCell_same _ g 6 _ _ (.int .i64 hi) h6
  have h8 := heap_setCell_same _ g 7 _ _ v h7
  rw [h8]; simp
set_option maxRecDepth 100000 in
theorem info27s : (Try.prog.info? 30).map (·.size) = some 8 := by kernel_rfl
set_option maxRecDepth 100000 in
theorem ret8 {fn : Func} {p : Tmp} (h : fn.results = #[.cell p 30]) {tmps : Array Value} {w : World} {g : Nat} {k : Int} {s : Nat → Int} {lo hi : Int} {v : Value} (hp : tmps.getD p undef = .pointer (some ⟨g, 0, none⟩)) (hg : w.heap[g]? = some (.cells (row8 k s lo hi v) 30 (0, 0))) :
    (results fn tmps).run Try.prog w = .ok (nodeV k s lo hi v) w :=
  results_cell_row h tmps w g 30 _ _ _ hp hg Try.underlying30 rfl info27s
set_option maxRecDepth 100000 in
set_option maxHeartbeats 2000000 in
theorem char_any (b : Int) (w : World) : Calls Try.prog 16 #[.int .i64 b] w fun e w' => e = .returned (nodeV 2 (sE b b) 0 0 (.slice none 0 0)) ∧ Below w.heap.size w w' := by
  obtain ⟨f, hf⟩ : ∃ f, f = sE b b := ⟨_, rfl⟩
  rw [← hf]
  have HOF := Lib.hid (fun w => (refof_any b b w).mono (fun e w' h => (show e = .returned (SV f) ∧ Below w.heap.size w w' from ⟨by rw [h.1, hf], h.2⟩)))
  clear hf
  go_enter Try.func16, Try.ntmps16
  go_wp2_with fail
  refine (HOF.out _).mono ?_
  rintro e w1 ⟨rfl, hb1⟩
  have hr : w1.heap[w.heap.size]? = some (.cells (row8 0 z0 0 0 (.slice none 0 0)) 30 (0, 0)) := box_kept hb1
  have hB := box_below hb1
  obtain ⟨d0, d1, d2, d3, d4, d5, d6, d7⟩ := cell8 hr
  have f0 := frozen_of_row _ _ 0 _ _ hr
  have f1 := frozen_of_row _ _ 1 _ _ hr
  have f2 := frozen_of_row _ _ 2 _ _ hr
  have f3 := frozen_of_row _ _ 3 _ _ hr
  have f4 := frozen_of_row _ _ 4 _ _ hr
  have f5 := frozen_of_row _ _ 5 _ _ hr
  have f6 := frozen_of_row _ _ 6 _ _ hr
  have f7 := frozen_of_row _ _ 7 _ _ hr
  have HR := Lib.hid (stored8 2 f 0 0 (.slice none 0 0) hr)
  clear hr hb1
  go_wp2
  refine bodyPost_ret (v := nodeV 2 f 0 0 (.slice none 0 0)) (ret8 Try.results16 rfl HR.out) rfl ⟨rfl, ?_⟩
  exact (((((((hB.setCell (by simp) _).setCell (by simp) _).setCell (by simp) _).setCell (by simp) _).setCell (by simp) _).setCell (by simp) _).setCell (by simp) _).setCell (by simp) _
set_option maxRecDepth 100000 in
theorem lives_leaf (w : World) (B : Nat) {s : Nat → Int} (hs : Wf s) : Lives w B (leafT s) := ⟨hs, Nat.le_refl _, by unfold maxLen; omega, fun h => by omega, fun i h => by omega⟩
set_option maxRecDepth 100000 in
theorem lives_zero (w : World) (B : Nat) : Lives w B zeroT := ⟨wf_z0, Nat.le_refl _, by unfold maxLen; omega, fun h => by omega, fun i h => by omega⟩
end Go.Proofs.Ytnfchlkdppblfaa
