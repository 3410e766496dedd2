/- The law SetParts answers true at every input, over the landed code: the walk. -/
import Derived.Test.YthloafbgfjhicaaW
namespace Go.Proofs.Ythloafbgfjhicaa
open Go.RowKit
/-- Two sets that lie in memory, in every world that has turned nothing of them. -/
theorem keep8 {w w1 : World} {p q : Nat} {f g : Nat → Int} (hpl : p < w.heap.size) (hql : q < w.heap.size) (hp : w.heap[p]? = some (.cells (row4 f) 24 (0, 0))) (hq : w.heap[q]? = some (.cells (row4 g) 24 (0, 0))) (h : Below w.heap.size w w1) :
    Below w.heap.size w w1 ∧ w1.cell? ⟨p, 0, none⟩ = some (.int .u64 (f 0)) ∧ w1.cell? ⟨p, 1, none⟩ = some (.int .u64 (f 1)) ∧ w1.cell? ⟨p, 2, none⟩ = some (.int .u64 (f 2)) ∧ w1.cell? ⟨p, 3, none⟩ = some (.int .u64 (f 3)) ∧
      w1.cell? ⟨q, 0, none⟩ = some (.int .u64 (g 0)) ∧ w1.cell? ⟨q, 1, none⟩ = some (.int .u64 (g 1)) ∧ w1.cell? ⟨q, 2, none⟩ = some (.int .u64 (g 2)) ∧ w1.cell? ⟨q, 3, none⟩ = some (.int .u64 (g 3)) := by
  have hc1 := (h.block p hpl).trans hp
  have hd1 := (h.block q hql).trans hq
  exact ⟨h, cell4 hc1 0 (by omega), cell4 hc1 1 (by omega), cell4 hc1 2 (by omega), cell4 hc1 3 (by omega), cell4 hd1 0 (by omega), cell4 hd1 1 (by omega), cell4 hd1 2 (by omega), cell4 hd1 3 (by omega)⟩
set_option maxRecDepth 100000 in
set_option maxHeartbeats 4000000 in
theorem parts_in (f g : Nat → Int) (b : Int) (w : World) (h0 : 0 ≤ b) (h1 : b < 256) (x y : Bool) (hx : hasI f b = x) (hy : hasI g b = y) (ho : hasI (orS f g) b = (x || y)) (ha : hasI (andS f g) b = (x && y)) (hn : hasI (notS f) b = !x) (hof : hasI (byK (ofK b b)) b = true) :
    Calls Try.prog 7 #[SV f, SV g, .int .i64 b] w fun e w' => e = .returned (.bool true) ∧ Below w.heap.size w w' := by
  cases x <;> cases y <;> simp at ho ha hn
  all_goals
    go_enter Try.func7, Try.ntmps7
    go_wp2_with fail
    refine (awake_any _).mono ?_
    rintro e w1 ⟨rfl, hb1⟩
    have HP := Lib.hid ((hb1.block w.heap.size (by simp <;> omega)).trans (heap_alloc2_old _ _ _))
    have HQ := Lib.hid ((hb1.block (w.heap.size + 1) (by simp <;> omega)).trans (heap_alloc2_new _ _ _))
    have hl : w.heap.size + 2 ≤ w1.heap.size := by have := hb1.size; simp at this; omega
    have hB1 : Below w.heap.size w w1 := (((Below.refl _ _).alloc (Nat.le_refl _) _).alloc (by simp) _).trans (hb1.mono (by simp <;> omega))
    have hpl : w.heap.size < w1.heap.size := by omega
    have hql : w.heap.size + 1 < w1.heap.size := by omega
    clear hb1 hl
    go_wp2_with fail
    go_region_held3 (fun w' => Below w1.heap.size w1 w' ∧ w'.cell? ⟨w.heap.size, 0, none⟩ = some (.int .u64 (f 0)) ∧ w'.cell? ⟨w.heap.size, 1, none⟩ = some (.int .u64 (f 1)) ∧ w'.cell? ⟨w.heap.size, 2, none⟩ = some (.int .u64 (f 2)) ∧ w'.cell? ⟨w.heap.size, 3, none⟩ = some (.int .u64 (f 3)) ∧ w'.cell? ⟨w.heap.size + 1, 0, none⟩ = some (.int .u64 (g 0)) ∧ w'.cell? ⟨w.heap.size + 1, 1, none⟩ = some (.int .u64 (g 1)) ∧ w'.cell? ⟨w.heap.size + 1, 2, none⟩ = some (.int .u64 (g 2)) ∧ w'.cell? ⟨w.heap.size + 1, 3, none⟩ = some (.int .u64 (g 3)))
      ((refine keep8 hpl hql HP.out HQ.out ?_; first | assumption | exact (Below.refl _ _).drew))
      ((go_at_call 9; go_split_ands; refine (fromB (w := w1) (has_any _ _ _) ?_).mono ?_; assumption; rintro e wz ⟨rfl, hBz⟩))
    obtain ⟨_, c0, c1, c2, c3, d0, d1, d2, d3⟩ := keep8 hpl hql HP.out HQ.out hBz
    go_wp2_with (first
      | (go_at_call 9; refine (fromB (w := w1) (has_any _ _ _) ?_).mono ?_; assumption; rintro e wy ⟨rfl, hBy⟩; obtain ⟨_, c0, c1, c2, c3, d0, d1, d2, d3⟩ := keep8 hpl hql HP.out HQ.out hBy)
      | (go_at_call 13; refine (fromB (w := w1) (or_any f g _) ?_).mono ?_; assumption; rintro e wy ⟨rfl, hBy⟩; obtain ⟨_, c0, c1, c2, c3, d0, d1, d2, d3⟩ := keep8 hpl hql HP.out HQ.out hBy)
      | (go_at_call 15; refine (fromB (w := w1) (and_any f g _) ?_).mono ?_; assumption; rintro e wy ⟨rfl, hBy⟩; obtain ⟨_, c0, c1, c2, c3, d0, d1, d2, d3⟩ := keep8 hpl hql HP.out HQ.out hBy)
      | (go_at_call 17; refine (fromB (w := w1) (not_any f _) ?_).mono ?_; assumption; rintro e wy ⟨rfl, hBy⟩; obtain ⟨_, c0, c1, c2, c3, d0, d1, d2, d3⟩ := keep8 hpl hql HP.out HQ.out hBy)
      | (go_at_call 11; refine (fromB (w := w1) (of_any b b _) ?_).mono ?_; assumption; rintro e wy ⟨rfl, hBy⟩; obtain ⟨_, c0, c1, c2, c3, d0, d1, d2, d3⟩ := keep8 hpl hql HP.out HQ.out hBy))
    go_ret
    exact ⟨rfl, hB1.trans (hBy.mono hB1.size)⟩
set_option maxRecDepth 100000 in
set_option maxHeartbeats 4000000 in
theorem parts_low (f g : Nat → Int) (b : Int) (w : World) (h0 : b < 0) (hx : hasI f b = false) (hy : hasI g b = false) (ho : hasI (orS f g) b = false) (ha : hasI (andS f g) b = false) (hn : hasI (notS f) b = false) (hof : hasI (byK (ofK b b)) b = false) :
    Calls Try.prog 7 #[SV f, SV g, .int .i64 b] w fun e w' => e = .returned (.bool true) ∧ Below w.heap.size w w' := by
  go_enter Try.func7, Try.ntmps7
  go_wp2_with fail
  refine (awake_any _).mono ?_
  rintro e w1 ⟨rfl, hb1⟩
  have HP := Lib.hid ((hb1.block w.heap.size (by simp <;> omega)).trans (heap_alloc2_old _ _ _))
  have HQ := Lib.hid ((hb1.block (w.heap.size + 1) (by simp <;> omega)).trans (heap_alloc2_new _ _ _))
  have hl : w.heap.size + 2 ≤ w1.heap.size := by have := hb1.size; simp at this; omega
  have hB1 : Below w.heap.size w w1 := (((Below.refl _ _).alloc (Nat.le_refl _) _).alloc (by simp) _).trans (hb1.mono (by simp <;> omega))
  have hpl : w.heap.size < w1.heap.size := by omega
  have hql : w.heap.size + 1 < w1.heap.size := by omega
  clear hb1 hl
  go_wp2_with fail
  go_region_held3 (fun w' => Below w1.heap.size w1 w' ∧ w'.cell? ⟨w.heap.size, 0, none⟩ = some (.int .u64 (f 0)) ∧ w'.cell? ⟨w.heap.size, 1, none⟩ = some (.int .u64 (f 1)) ∧ w'.cell? ⟨w.heap.size, 2, none⟩ = some (.int .u64 (f 2)) ∧ w'.cell? ⟨w.heap.size, 3, none⟩ = some (.int .u64 (f 3)) ∧ w'.cell? ⟨w.heap.size + 1, 0, none⟩ = some (.int .u64 (g 0)) ∧ w'.cell? ⟨w.heap.size + 1, 1, none⟩ = some (.int .u64 (g 1)) ∧ w'.cell? ⟨w.heap.size + 1, 2, none⟩ = some (.int .u64 (g 2)) ∧ w'.cell? ⟨w.heap.size + 1, 3, none⟩ = some (.int .u64 (g 3)))
    ((refine keep8 hpl hql HP.out HQ.out ?_; first | assumption | exact (Below.refl _ _).drew))
    ((go_at_call 9; go_split_ands; refine (fromB (w := w1) (has_any _ _ _) ?_).mono ?_; assumption; rintro e wz ⟨rfl, hBz⟩))
  obtain ⟨_, c0, c1, c2, c3, d0, d1, d2, d3⟩ := keep8 hpl hql HP.out HQ.out hBz
  go_wp2_with (first
    | (go_at_call 9; refine (fromB (w := w1) (has_any _ _ _) ?_).mono ?_; assumption; rintro e wy ⟨rfl, hBy⟩; obtain ⟨_, c0, c1, c2, c3, d0, d1, d2, d3⟩ := keep8 hpl hql HP.out HQ.out hBy)
    | (go_at_call 13; refine (fromB (w := w1) (or_any f g _) ?_).mono ?_; assumption; rintro e wy ⟨rfl, hBy⟩; obtain ⟨_, c0, c1, c2, c3, d0, d1, d2, d3⟩ := keep8 hpl hql HP.out HQ.out hBy)
    | (go_at_call 15; refine (fromB (w := w1) (and_any f g _) ?_).mono ?_; assumption; rintro e wy ⟨rfl, hBy⟩; obtain ⟨_, c0, c1, c2, c3, d0, d1, d2, d3⟩ := keep8 hpl hql HP.out HQ.out hBy)
    | (go_at_call 17; refine (fromB (w := w1) (not_any f _) ?_).mono ?_; assumption; rintro e wy ⟨rfl, hBy⟩; obtain ⟨_, c0, c1, c2, c3, d0, d1, d2, d3⟩ := keep8 hpl hql HP.out HQ.out hBy)
    | (go_at_call 11; refine (fromB (w := w1) (of_any b b _) ?_).mono ?_; assumption; rintro e wy ⟨rfl, hBy⟩; obtain ⟨_, c0, c1, c2, c3, d0, d1, d2, d3⟩ := keep8 hpl hql HP.out HQ.out hBy))
  go_ret
  exact ⟨rfl, hB1.trans (hBy.mono hB1.size)⟩
set_option maxRecDepth 100000 in
set_option maxHeartbeats 4000000 in
theorem parts_high (f g : Nat → Int) (b : Int) (w : World) (h0 : 256 ≤ b) (hx : hasI f b = false) (hy : hasI g b = false) (ho : hasI (orS f g) b = false) (ha : hasI (andS f g) b = false) (hn : hasI (notS f) b = false) (hof : hasI (byK (ofK b b)) b = false) :
    Calls Try.prog 7 #[SV f, SV g, .int .i64 b] w fun e w' => e = .returned (.bool true) ∧ Below w.heap.size w w' := by
  go_enter Try.func7, Try.ntmps7
  go_wp2_with fail
  refine (awake_any _).mono ?_
  rintro e w1 ⟨rfl, hb1⟩
  have HP := Lib.hid ((hb1.block w.heap.size (by simp <;> omega)).trans (heap_alloc2_old _ _ _))
  have HQ := Lib.hid ((hb1.block (w.heap.size + 1) (by simp <;> omega)).trans (heap_alloc2_new _ _ _))
  have hl : w.heap.size + 2 ≤ w1.heap.size := by have := hb1.size; simp at this; omega
  have hB1 : Below w.heap.size w w1 := (((Below.refl _ _).alloc (Nat.le_refl _) _).alloc (by simp) _).trans (hb1.mono (by simp <;> omega))
  have hpl : w.heap.size < w1.heap.size := by omega
  have hql : w.heap.size + 1 < w1.heap.size := by omega
  clear hb1 hl
  go_wp2_with fail
  go_region_held3 (fun w' => Below w1.heap.size w1 w' ∧ w'.cell? ⟨w.heap.size, 0, none⟩ = some (.int .u64 (f 0)) ∧ w'.cell? ⟨w.heap.size, 1, none⟩ = some (.int .u64 (f 1)) ∧ w'.cell? ⟨w.heap.size, 2, none⟩ = some (.int .u64 (f 2)) ∧ w'.cell? ⟨w.heap.size, 3, none⟩ = some (.int .u64 (f 3)) ∧ w'.cell? ⟨w.heap.size + 1, 0, none⟩ = some (.int .u64 (g 0)) ∧ w'.cell? ⟨w.heap.size + 1, 1, none⟩ = some (.int .u64 (g 1)) ∧ w'.cell? ⟨w.heap.size + 1, 2, none⟩ = some (.int .u64 (g 2)) ∧ w'.cell? ⟨w.heap.size + 1, 3, none⟩ = some (.int .u64 (g 3)))
    ((refine keep8 hpl hql HP.out HQ.out ?_; first | assumption | exact (Below.refl _ _).drew))
    ((go_at_call 9; go_split_ands; refine (fromB (w := w1) (has_any _ _ _) ?_).mono ?_; assumption; rintro e wz ⟨rfl, hBz⟩))
  obtain ⟨_, c0, c1, c2, c3, d0, d1, d2, d3⟩ := keep8 hpl hql HP.out HQ.out hBz
  go_wp2_with (first
    | (go_at_call 9; refine (fromB (w := w1) (has_any _ _ _) ?_).mono ?_; assumption; rintro e wy ⟨rfl, hBy⟩; obtain ⟨_, c0, c1, c2, c3, d0, d1, d2, d3⟩ := keep8 hpl hql HP.out HQ.out hBy)
    | (go_at_call 13; refine (fromB (w := w1) (or_any f g _) ?_).mono ?_; assumption; rintro e wy ⟨rfl, hBy⟩; obtain ⟨_, c0, c1, c2, c3, d0, d1, d2, d3⟩ := keep8 hpl hql HP.out HQ.out hBy)
    | (go_at_call 15; refine (fromB (w := w1) (and_any f g _) ?_).mono ?_; assumption; rintro e wy ⟨rfl, hBy⟩; obtain ⟨_, c0, c1, c2, c3, d0, d1, d2, d3⟩ := keep8 hpl hql HP.out HQ.out hBy)
    | (go_at_call 17; refine (fromB (w := w1) (not_any f _) ?_).mono ?_; assumption; rintro e wy ⟨rfl, hBy⟩; obtain ⟨_, c0, c1, c2, c3, d0, d1, d2, d3⟩ := keep8 hpl hql HP.out HQ.out hBy)
    | (go_at_call 11; refine (fromB (w := w1) (of_any b b _) ?_).mono ?_; assumption; rintro e wy ⟨rfl, hBy⟩; obtain ⟨_, c0, c1, c2, c3, d0, d1, d2, d3⟩ := keep8 hpl hql HP.out HQ.out hBy))
  go_ret
  exact ⟨rfl, hB1.trans (hBy.mono hB1.size)⟩
theorem parts_any (f g : Nat → Int) (hf : Wf f) (hg : Wf g) (b : Int) (w : World) :
    Calls Try.prog 7 #[SV f, SV g, .int .i64 b] w fun e w' => e = .returned (.bool true) ∧ Below w.heap.size w w' := by
  rcases (show (0 ≤ b ∧ b < 256) ∨ b < 0 ∨ 256 ≤ b from by omega) with ⟨h0, h1⟩ | h | h
  · exact parts_in f g b w h0 h1 _ _ rfl rfl (hasI_or hf hg b) (hasI_and hf hg b) (hasI_not hf h0 h1) ((hasI_byK _ h0 h1).trans (by simp [ofK]))
  · exact parts_low f g b w h (hasI_out (by omega)) (hasI_out (by omega)) (hasI_out (by omega)) (hasI_out (by omega)) (hasI_out (by omega)) (hasI_out (by omega))
  · exact parts_high f g b w h (hasI_out (by omega)) (hasI_out (by omega)) (hasI_out (by omega)) (hasI_out (by omega)) (hasI_out (by omega)) (hasI_out (by omega))
end Go.Proofs.Ythloafbgfjhicaa
