/- The law's own char and first look (awake). -/
import Derived.Test.YtadiphijfbpcnaaDoorLb
namespace Go.Proofs.YtadiphijfbpcnaaDoor
open Go.RowKit
theorem stored8 {w : World} {g : Nat} {z : Nat → Int} (k : Int) (s : Nat → Int) (lo hi : Int) (v : Value) {k0 : Int} {lo0 hi0 : Int} {v0 : Value} (h : w.heap[g]? = some (.cells (row8 k0 z lo0 hi0 v0) 27 (0, 0))) :
    ((((((((w.setCell ⟨g, 0, none⟩ (.int .i64 k)).setCell ⟨g, 1, none⟩ (.int .u64 (s 0))).setCell ⟨g, 2, none⟩ (.int .u64 (s 1))).setCell ⟨g, 3, none⟩ (.int .u64 (s 2))).setCell ⟨g, 4, none⟩ (.int .u64 (s 3))).setCell ⟨g, 5, none⟩ (.int .i64 lo)).setCell ⟨g, 6, none⟩ (.int .i64 hi)).setCell ⟨g, 7, none⟩ v).heap[g]? = some (.cells (row8 k s lo hi v) 27 (0, 0)) := by
  have h1 := heap_setCell_same w g 0 _ _ (.int .i64 k) h
  have h2 := heap_setCell_same _ g 1 _ _ (.int .u64 (s 0)) h1
  have h3 := heap_setCell_same _ g 2 _ _ (.int .u64 (s 1)) h2
  have h4 := heap_setCell_same _ g 3 _ _ (.int .u64 (s 2)) h3
  have h5 := heap_setCell_same _ g 4 _ _ (.int .u64 (s 3)) h4
  have h6 := heap_setCell_same _ g 5 _ _ (.int .i64 lo) h5
  have h7 := heap_setCell_same _ g 6 _ _ (.int .i64 hi) h6
  have h8 := heap_setCell_same _ g 7 _ _ v h7
  rw [h8]; simp
theorem info27s : (Tryd.prog.info? 27).map (·.size) = some 8 := by kernel_rfl
theorem ret8 {fn : Func} {p : Tmp} (h : fn.results = #[.cell p 27]) {tmps : Array Value} {w : World} {g : Nat} {k : Int} {s : Nat → Int} {lo hi : Int} {v : Value} (hp : tmps.getD p undef = .pointer (some ⟨g, 0, none⟩)) (hg : w.heap[g]? = some (.cells (row8 k s lo hi v) 27 (0, 0))) :
    (results fn tmps).run Tryd.prog w = .ok (nodeV k s lo hi v) w :=
  results_cell_row h tmps w g 27 _ _ _ hp hg Tryd.underlying27 rfl info27s
set_option maxRecDepth 100000 in
set_option maxHeartbeats 2000000 in
theorem char_any (b : Int) (w : World) : Calls Tryd.prog 13 #[.int .i64 b] w fun e w' => e = .returned (nodeV 2 (sE b b) 0 0 (.slice none 0 0)) ∧ Below w.heap.size w w' := by
  obtain ⟨f, hf⟩ : ∃ f, f = sE b b := ⟨_, rfl⟩
  rw [← hf]
  have HOF := Lib.hid (fun w => (refof_any b b w).mono (fun e w' h => (show e = .returned (SV f) ∧ Below w.heap.size w w' from ⟨by rw [h.1, hf], h.2⟩)))
  clear hf
  go_enter Tryd.func13, Tryd.ntmps13
  go_wp2_with fail
  refine (HOF.out _).mono ?_
  rintro e w1 ⟨rfl, hb1⟩
  have hr : w1.heap[w.heap.size]? = some (.cells (row8 0 z0 0 0 (.slice none 0 0)) 27 (0, 0)) := box_kept hb1
  have hB := box_below hb1
  obtain ⟨d0, d1, d2, d3, d4, d5, d6, d7⟩ := cell8 hr
  have f0 := frozen_of_row _ _ 0 _ _ hr
  have f1 := frozen_of_row _ _ 1 _ _ hr
  have f2 := frozen_of_row _ _ 2 _ _ hr
  have f3 := frozen_of_row _ _ 3 _ _ hr
  have f4 := frozen_of_row _ _ 4 _ _ hr
  have f5 := frozen_of_row _ _ 5 _ _ hr
  have f6 := frozen_of_row _ _ 6 _ _ hr
  have f7 := frozen_of_row _ _ 7 _ _ hr
  have HR := Lib.hid (stored8 2 f 0 0 (.slice none 0 0) hr)
  clear hr hb1
  go_wp2
  refine bodyPost_ret (v := nodeV 2 f 0 0 (.slice none 0 0)) (ret8 Tryd.results13 rfl HR.out) rfl ⟨rfl, ?_⟩
  exact (((((((hB.setCell (by simp) _).setCell (by simp) _).setCell (by simp) _).setCell (by simp) _).setCell (by simp) _).setCell (by simp) _).setCell (by simp) _).setCell (by simp) _
theorem lives_leaf (w : World) (B : Nat) {s : Nat → Int} (hs : Wf s) : Lives w B (leafT s) := ⟨hs, Nat.le_refl _, by unfold maxLen; omega, fun h => by omega, fun i h => by omega⟩
theorem lives_zero (w : World) (B : Nat) : Lives w B zeroT := ⟨wf_z0, Nat.le_refl _, by unfold maxLen; omega, fun h => by omega, fun i h => by omega⟩
/-- The two rows and the box of awake's pattern. -/
abbrev rowA (g : Nat → Int) : Array Value := row8 2 g 0 0 (.slice none 0 0)
abbrev rowB (f : Nat → Int) (q1 : Nat) : Array Value := #[.int .i64 2, .int .u64 (f 0), .int .u64 (f 1), .int .u64 (f 2), .int .u64 (f 3), .int .i64 0, .int .i64 0, .slice none 0 0, .int .i64 5, .int .u64 0, .int .u64 0, .int .u64 0, .int .u64 0, .int .i64 0, .int .i64 (-1), .slice (some ⟨q1, 0, none⟩) 1 1]
theorem aw_lives {w : World} {f g : Nat → Int} (hf : Wf f) (hgg : Wf g) {B q1 q2 : Nat} (h1 : q1 < B) (h2 : q2 < B) (hA : w.heap[q1]? = some (.cells (rowA g) 27 (0, 0))) (hBB : w.heap[q2]? = some (.cells (rowB f q1) 27 (0, 0))) : Lives w B (awG f g q1 q2) ∧ Lives w B (repG g q1) := by
  have hrep : Lives w B (repG g q1) := by
    refine ⟨wf_z0, Nat.le_refl _, by unfold maxLen; omega, fun _ => ⟨q1, 0, rfl, h1, fun i hi => ?_⟩, fun i hi => lives_leaf w B hgg⟩
    obtain rfl : i = 0 := by omega
    exact cell8 hA
  refine ⟨⟨wf_z0, Nat.le_refl _, by unfold maxLen; omega, fun _ => ⟨q2, 0, rfl, h2, fun i hi => ?_⟩, fun i hi => ?_⟩, hrep⟩
  · match i, hi with
    | 0, _ => exact ⟨cell_of_row w q2 0 _ _ _ hBB, cell_of_row w q2 1 _ _ _ hBB, cell_of_row w q2 2 _ _ _ hBB, cell_of_row w q2 3 _ _ _ hBB, cell_of_row w q2 4 _ _ _ hBB, cell_of_row w q2 5 _ _ _ hBB, cell_of_row w q2 6 _ _ _ hBB, cell_of_row w q2 7 _ _ _ hBB⟩
    | 1, _ => exact ⟨cell_of_row w q2 8 _ _ _ hBB, cell_of_row w q2 9 _ _ _ hBB, cell_of_row w q2 10 _ _ _ hBB, cell_of_row w q2 11 _ _ _ hBB, cell_of_row w q2 12 _ _ _ hBB, cell_of_row w q2 13 _ _ _ hBB, cell_of_row w q2 14 _ _ _ hBB, cell_of_row w q2 15 _ _ _ hBB⟩
  · match i, hi with
    | 0, _ => exact lives_leaf w B hf
    | 1, _ => exact hrep
theorem keepW {wq w1 : World} {f : Nat → Int} {p q2 q1 : Nat} (hp : p < wq.heap.size) (hq : q2 < wq.heap.size) (hbp : wq.heap[p]? = some (.cells (row8 3 z0 0 0 (.slice (some ⟨q2, 0, none⟩) 2 2)) 27 (0, 0))) (hbq : wq.heap[q2]? = some (.cells (rowB f q1) 27 (0, 0))) (h : Below wq.heap.size wq w1) :
    Below wq.heap.size wq w1 ∧ w1.cell? ⟨p, 0, none⟩ = some (.int .i64 3) ∧ w1.cell? ⟨p, 1, none⟩ = some (.int .u64 0) ∧ w1.cell? ⟨p, 2, none⟩ = some (.int .u64 0) ∧ w1.cell? ⟨p, 3, none⟩ = some (.int .u64 0) ∧ w1.cell? ⟨p, 4, none⟩ = some (.int .u64 0) ∧ w1.cell? ⟨p, 5, none⟩ = some (.int .i64 0) ∧ w1.cell? ⟨p, 6, none⟩ = some (.int .i64 0) ∧ w1.cell? ⟨p, 7, none⟩ = some (.slice (some ⟨q2, 0, none⟩) 2 2) ∧
      w1.cell? ⟨q2, 8, none⟩ = some (.int .i64 5) ∧ w1.cell? ⟨q2, 9, none⟩ = some (.int .u64 0) ∧ w1.cell? ⟨q2, 10, none⟩ = some (.int .u64 0) ∧ w1.cell? ⟨q2, 11, none⟩ = some (.int .u64 0) ∧ w1.cell? ⟨q2, 12, none⟩ = some (.int .u64 0) ∧ w1.cell? ⟨q2, 13, none⟩ = some (.int .i64 0) ∧ w1.cell? ⟨q2, 14, none⟩ = some (.int .i64 (-1)) ∧ w1.cell? ⟨q2, 15, none⟩ = some (.slice (some ⟨q1, 0, none⟩) 1 1) := by
  obtain ⟨a0, a1, a2, a3, a4, a5, a6, a7⟩ := cell8 ((h.block p hp).trans hbp)
  have hb := (h.block q2 hq).trans hbq
  exact ⟨h, a0, a1, a2, a3, a4, a5, a6, a7, cell_of_row w1 q2 8 _ _ _ hb, cell_of_row w1 q2 9 _ _ _ hb, cell_of_row w1 q2 10 _ _ _ hb, cell_of_row w1 q2 11 _ _ _ hb, cell_of_row w1 q2 12 _ _ _ hb, cell_of_row w1 q2 13 _ _ _ hb, cell_of_row w1 q2 14 _ _ _ hb, cell_of_row w1 q2 15 _ _ _ hb⟩
theorem min2 : ((min 1000000 2 : Nat) : Int) = 2 := by simp
set_option maxRecDepth 100000 in
set_option maxHeartbeats 8000000 in
theorem awake_any (w : World) : Calls Tryd.prog 8 #[] w fun e w' => e = .returned (.bool true) ∧ Below w.heap.size w w' := by
  obtain ⟨f, hf⟩ : ∃ f, f = sE 97 97 := ⟨_, rfl⟩
  obtain ⟨g, hg⟩ : ∃ g, g = sE 98 99 := ⟨_, rfl⟩
  have HAL := Lib.hid (aw_all f g hf hg)
  have HCH := Lib.hid (fun w => (char_any 97 w).mono (fun e w' h => (show e = .returned (nodeV 2 f 0 0 (.slice none 0 0)) ∧ Below w.heap.size w w' from ⟨by rw [h.1, hf], h.2⟩)))
  have HOF := Lib.hid (fun w => (refof_any 98 99 w).mono (fun e w' h => (show e = .returned (SV g) ∧ Below w.heap.size w w' from ⟨by rw [h.1, hg], h.2⟩)))
  clear hf hg
  go_enter Tryd.func8, Tryd.ntmps8
  go_wp2_with fail
  refine (HCH.out _).mono ?_
  rintro e w1 ⟨rfl, hb1⟩
  go_wp2_with fail
  refine (HOF.out _).mono ?_
  rintro e w2 ⟨rfl, hb2⟩
  have hB2 := hb1.trans (hb2.mono hb1.size)
  clear hb1 hb2
  go_wp2_with fail
  obtain ⟨q, hq⟩ : ∃ q, q = w2.heap.size := ⟨_, rfl⟩
  have HA3 := Lib.hid (heap_alloc3_a w2 (.cells (rowA g) 27) (.cells (rowB f w2.heap.size) 27) (.cells (row8 3 z0 0 0 (.slice (some ⟨w2.heap.size + 1, 0, none⟩) 2 2)) 27))
  have HB3 := Lib.hid (heap_alloc3_b w2 (.cells (rowA g) 27) (.cells (rowB f w2.heap.size) 27) (.cells (row8 3 z0 0 0 (.slice (some ⟨w2.heap.size + 1, 0, none⟩) 2 2)) 27))
  have HC3 := Lib.hid (heap_alloc3_c w2 (.cells (rowA g) 27) (.cells (rowB f w2.heap.size) 27) (.cells (row8 3 z0 0 0 (.slice (some ⟨w2.heap.size + 1, 0, none⟩) 2 2)) 27))
  have hB3 := hB2.trans ((below_alloc3 w2 (.cells (rowA g) 27) (.cells (rowB f w2.heap.size) 27) (.cells (row8 3 z0 0 0 (.slice (some ⟨w2.heap.size + 1, 0, none⟩) 2 2)) 27)).mono hB2.size)
  have hsz3 : (((w2.alloc (.cells (rowA g) 27)).alloc (.cells (rowB f w2.heap.size) 27)).alloc (.cells (row8 3 z0 0 0 (.slice (some ⟨w2.heap.size + 1, 0, none⟩) 2 2)) 27)).heap.size = w2.heap.size + 3 := by simp
  generalize hw3 : ((w2.alloc (.cells (rowA g) 27)).alloc (.cells (rowB f w2.heap.size) 27)).alloc (.cells (row8 3 z0 0 0 (.slice (some ⟨w2.heap.size + 1, 0, none⟩) 2 2)) 27) = w3 at *
  rw [← hq] at HA3 HB3 HC3 hsz3 ⊢
  clear hw3
  obtain ⟨r, hr⟩ : ∃ r, r = q + 1 := ⟨_, rfl⟩
  obtain ⟨⟨wf, wg⟩, ⟨al1, al2, al3⟩, al4, al5, al6, al7⟩ := HAL.out q r
  have hq1 : q < w3.heap.size := by omega
  have hq2 : r < w3.heap.size := by omega
  have hq3 : r + 1 < w3.heap.size := by omega
  rw [show q + 2 = r + 1 by omega] at HC3
  rw [← hr] at HB3 HC3 ⊢
  clear hr
  have HLV := Lib.hid (aw_lives wf wg hq1 hq2 HA3.out HB3.out)
  have HW := Lib.hid wf
  have A1 := Lib.hid al1
  have A2 := Lib.hid al2
  have A3 := Lib.hid al3
  have A4 := Lib.hid al4
  have A5 := Lib.hid al5
  have A6 := Lib.hid al6
  have A7 := Lib.hid al7
  clear al1 al2 al3 al4 al5 al6 al7 wf wg hsz3 HA3 hq1 hB2 hq HAL HOF
  refine (print_any (awG f g q r) w3 HLV.out.1).mono ?_
  rintro e w4 ⟨rfl, hb4⟩
  rw [A7.out]
  have hB4 := hB3.trans (hb4.mono hB3.size)
  have HB4 := Lib.hid ((hb4.block _ hq2).trans HB3.out)
  have HC4 := Lib.hid ((hb4.block _ hq3).trans HC3.out)
  have HLV4 := Lib.hid (And.intro (HLV.out.1.now hb4) (HLV.out.2.now hb4))
  clear hb4 hB3 HB3 HC3 hq2 hq3 HLV
  go_wp2_with fail
  refine (print_any zeroT _ (lives_zero _ _)).mono ?_
  rintro e w5 ⟨rfl, hb5⟩
  rw [zero_print]
  have hB5 := hB4.trans (hb5.mono hB4.size)
  have HB5 := Lib.hid ((hb5.block _ (Array.getElem?_eq_some_iff.1 HB4.out).1).trans HB4.out)
  have HC5 := Lib.hid ((hb5.block _ (Array.getElem?_eq_some_iff.1 HC4.out).1).trans HC4.out)
  have hp5 := (Array.getElem?_eq_some_iff.1 HC5.out).1
  have hr5 := (Array.getElem?_eq_some_iff.1 HB5.out).1
  have HLV5 := Lib.hid (And.intro (HLV4.out.1.now hb5) (HLV4.out.2.now hb5))
  clear hb5 hB4 HB4 HC4 HLV4
  go_wp2_with fail
  obtain ⟨_, a0, a1, a2, a3, a4, a5, a6, a7, b0, b1, b2, b3, b4, b5, b6, b7⟩ := keepW hp5 hr5 HC5.out HB5.out (Below.refl _ w5)
  go_region_held3 (fun w' => Below w5.heap.size w5 w' ∧ w'.cell? ⟨r + 1, 0, none⟩ = some (.int .i64 3) ∧ w'.cell? ⟨r + 1, 1, none⟩ = some (.int .u64 0) ∧ w'.cell? ⟨r + 1, 2, none⟩ = some (.int .u64 0) ∧ w'.cell? ⟨r + 1, 3, none⟩ = some (.int .u64 0) ∧ w'.cell? ⟨r + 1, 4, none⟩ = some (.int .u64 0) ∧ w'.cell? ⟨r + 1, 5, none⟩ = some (.int .i64 0) ∧ w'.cell? ⟨r + 1, 6, none⟩ = some (.int .i64 0) ∧ w'.cell? ⟨r + 1, 7, none⟩ = some (.slice (some ⟨r, 0, none⟩) 2 2) ∧
      w'.cell? ⟨r, 8, none⟩ = some (.int .i64 5) ∧ w'.cell? ⟨r, 9, none⟩ = some (.int .u64 0) ∧ w'.cell? ⟨r, 10, none⟩ = some (.int .u64 0) ∧ w'.cell? ⟨r, 11, none⟩ = some (.int .u64 0) ∧ w'.cell? ⟨r, 12, none⟩ = some (.int .u64 0) ∧ w'.cell? ⟨r, 13, none⟩ = some (.int .i64 0) ∧ w'.cell? ⟨r, 14, none⟩ = some (.int .i64 (-1)) ∧ w'.cell? ⟨r, 15, none⟩ = some (.slice (some ⟨q, 0, none⟩) 1 1))
    ((refine keepW hp5 hr5 HC5.out HB5.out ?_; first | assumption | exact (Below.refl _ _).drew))
    (first
      | (go_at_call 12; go_split_ands; refine (fromB (w := w5) ((right_any (awG f g q r) _ (HLV5.out.1.now ?_)).mono (fun e w' h => (show e = .returned (.bool true) ∧ _ from ⟨by rw [h.1, A1.out], h.2⟩))) ?_).mono ?_; assumption; assumption; rintro e wz ⟨rfl, hBz⟩)
      | (go_at_call 17; go_split_ands; refine (fromB (w := w5) ((size_any (awG f g q r) _ (HLV5.out.1.now ?_) A2.out A3.out).mono (fun e w' h => (show e = .returned (.int .i64 2) ∧ _ from ⟨by rw [h.1, A4.out, min2], h.2⟩))) ?_).mono ?_; assumption; assumption; rintro e wz ⟨rfl, hBz⟩)
      | (go_at_call_of 18 r; go_split_ands; refine (fromB (w := w5) ((nulltop_any (awG f g q r) _ (HLV5.out.1.now ?_)).mono (fun e w' h => (show e = .returned (.bool false) ∧ _ from ⟨by rw [h.1, A5.out, Bool.and_false], h.2⟩))) ?_).mono ?_; assumption; assumption; rintro e wz ⟨rfl, hBz⟩)
      | (go_at_call 18; go_split_ands; refine (fromB (w := w5) ((nulltop_any (repG g q) _ (HLV5.out.2.now ?_)).mono (fun e w' h => (show e = .returned (.bool true) ∧ _ from ⟨by rw [h.1, A6.out], h.2⟩))) ?_).mono ?_; assumption; assumption; rintro e wz ⟨rfl, hBz⟩)
      | (go_at_call_of 15 f; go_split_ands; refine (fromB (w := w5) ((same_any (awG f g q r) (leafT f) _ (HLV5.out.1.now ?_) (lives_leaf _ _ HW.out) A3.out).mono (fun e w' h => (show e = .returned (.bool false) ∧ _ from ⟨by rw [h.1, aw_other'], h.2⟩))) ?_).mono ?_; assumption; assumption; rintro e wz ⟨rfl, hBz⟩)
      | (go_at_call 13; go_split_ands; refine (fromB (w := w5) (HCH.out _) ?_).mono ?_; assumption; rintro e wz ⟨rfl, hBz⟩)
      | (go_at_call 15; go_split_ands; refine (fromB (w := w5) ((same_any (awG f g q r) (awG f g q r) _ (HLV5.out.1.now ?_) (HLV5.out.1.now ?_) A3.out).mono (fun e w' h => (show e = .returned (.bool true) ∧ _ from ⟨by rw [h.1, same_self], h.2⟩))) ?_).mono ?_; assumption; assumption; assumption; rintro e wz ⟨rfl, hBz⟩))
  have hB6 := hB5.trans (hBz.mono hB5.size)
  clear hBz a0 a1 a2 a3 a4 a5 a6 a7 b0 b1 b2 b3 b4 b5 b6 b7
  go_wp2
  go_ret
  exact ⟨rfl, hB6⟩
end Go.Proofs.YtadiphijfbpcnaaDoor
