/- Contract of set.Fold over the landed code. No conditions. -/
import Derived.Test.YthloafbgfjhicaaB
import Derived.Deep.RegionHeld3
namespace Go.Proofs.Ythloafbgfjhicaa
open Go.RowKit
/-- A letter's other case; the number itself, if it is no letter. -/
def otherC (b : Int) : Int := if 97 ≤ b ∧ b ≤ 122 then b - 32 else if 65 ≤ b ∧ b ≤ 90 then b + 32 else b
set_option maxHeartbeats 400000 in
theorem other_any (b : Int) (w : World) :
    Calls Try.prog 35 #[.int .i64 b] w fun e w' => e = .returned (.int .i64 (otherC b)) ∧ w = w' := by
  by_cases h1 : 97 ≤ b ∧ b ≤ 122
  · obtain ⟨h1a, h1b⟩ := h1
    have HX : Hid (otherC b = b - 32) := Lib.hid (if_pos ⟨h1a, h1b⟩)
    go_enter Try.func35, Try.ntmps35
    go_wp2
    go_ret
    exact ⟨ret_int (by rw [HX.out]; omega), rfl⟩
  · by_cases h2 : 65 ≤ b ∧ b ≤ 90
    · have HX : Hid (otherC b = b + 32) := Lib.hid ((if_neg h1).trans (if_pos h2))
      obtain ⟨h2a, h2b⟩ := h2
      clear h1
      go_enter Try.func35, Try.ntmps35
      go_wp2
      go_ret
      exact ⟨ret_int (by rw [HX.out]; omega), rfl⟩
    · have HX : Hid (otherC b = b) := Lib.hid ((if_neg h1).trans (if_neg h2))
      rcases (show b < 65 ∨ (90 < b ∧ b < 97) ∨ 122 < b from by omega) with g | ⟨g, g'⟩ | g <;> clear h1 h2
      all_goals
        go_enter Try.func35, Try.ntmps35
        go_wp2
        go_ret
        exact ⟨ret_int (by rw [HX.out]), rfl⟩
/-- A contract read from an elder world on. -/
theorem fromB {k : Nat} {args : Array Value} {w wx : World} {E : Ending} (h : Calls Try.prog k args wx fun e w' => e = E ∧ Below wx.heap.size wx w') (hB : Below w.heap.size w wx) :
    Calls Try.prog k args wx fun e w' => e = E ∧ Below w.heap.size w w' :=
  h.mono fun _ _ ⟨he, hb⟩ => ⟨he, hB.trans (hb.mono hB.size)⟩
theorem keep4 {w w1 : World} {p : Nat} {f : Nat → Int} (hpl : p < w.heap.size) (hc : w.heap[p]? = some (.cells (row4 f) 24 (0, 0))) (h : Below w.heap.size w w1) :
    Below w.heap.size w w1 ∧ w1.cell? ⟨p, 0, none⟩ = some (.int .u64 (f 0)) ∧ w1.cell? ⟨p, 1, none⟩ = some (.int .u64 (f 1)) ∧ w1.cell? ⟨p, 2, none⟩ = some (.int .u64 (f 2)) ∧ w1.cell? ⟨p, 3, none⟩ = some (.int .u64 (f 3)) := by
  have hc1 := (h.block p hpl).trans hc
  exact ⟨h, cell4 hc1 0 (by omega), cell4 hc1 1 (by omega), cell4 hc1 2 (by omega), cell4 hc1 3 (by omega)⟩
/-- What Fold's closure answers. -/
def foldK (f : Nat → Int) (b : Int) : Bool := hasI f b || hasI f (otherC b)
set_option maxHeartbeats 400000 in
theorem fold1_any (f : Nat → Int) (b : Int) (p : Nat) (w : World) (hpl : p < w.heap.size) (hp : w.heap[p]? = some (.cells (row4 f) 24 (0, 0))) :
    Calls Try.prog 34 #[.int .i64 b, .pointer (some ⟨p, 0, none⟩)] w fun e w' => e = .returned (.bool (foldK f b)) ∧ Below w.heap.size w w' := by
  have HP := Lib.hid hp
  clear hp
  cases hX : hasI f b
  · have HX : Hid (foldK f b = hasI f (otherC b)) := Lib.hid (by simp [foldK, hX])
    go_enter Try.func34, Try.ntmps34
    go_wp2
    go_region_held3 (fun w' => Below w.heap.size w w' ∧ w'.cell? ⟨p, 0, none⟩ = some (.int .u64 (f 0)) ∧ w'.cell? ⟨p, 1, none⟩ = some (.int .u64 (f 1)) ∧ w'.cell? ⟨p, 2, none⟩ = some (.int .u64 (f 2)) ∧ w'.cell? ⟨p, 3, none⟩ = some (.int .u64 (f 3)))
      ((refine keep4 hpl HP.out ?_; first | assumption | exact (Below.refl _ _).drew))
      (first | (go_at_call 9; go_split_ands; refine (fromB (w := w) (has_any f _ _) ?_).mono ?_; assumption; rintro e w1 ⟨rfl, hB1⟩) | (go_at_call 35; refine (other_any _ _).mono ?_; rintro e w1 ⟨rfl, rfl⟩))
    go_wp2
    go_ret
    exact ⟨ret_bool HX.out.symm, hB1⟩
  · have HX : Hid (foldK f b = true) := Lib.hid (by simp [foldK, hX])
    obtain ⟨_, c0, c1, c2, c3⟩ := keep4 hpl HP.out (Below.refl _ _)
    go_enter Try.func34, Try.ntmps34
    go_wp2
    first
      | (go_region_with ((go_at_call 9; refine (fromB (w := w) (has_any f _ _) (Below.refl _ _).drew).mono ?_; rintro e w1 ⟨rfl, hB1⟩)))
      | fail
    all_goals
      go_wp2
      go_ret
      exact ⟨ret_bool HX.out.symm, hB1⟩
set_option maxHeartbeats 400000 in
theorem fold_any (f : Nat → Int) (w : World) :
    Calls Try.prog 19 #[SV f] w fun e w' => e = .returned (SV (byK (foldK f))) ∧ Below w.heap.size w w' := by
  go_enter Try.func19, Try.ntmps19
  go_wp2_with fail
  refine (ofBytes_any 34 enters34 _ (foldK f) _ ?_).mono ?_
  · refine Lib.hid ?_
    intro b w1 _ _ hb
    exact fold1_any f b _ w1 (by have := hb.size; simp at this; omega) ((hb.block _ (by simp <;> omega)).trans (heap_alloc2_old _ _ _))
  · rintro e w1 ⟨rfl, hb⟩
    have hr : w1.heap[w.heap.size + 1]? = some (.cells (row4 fun _ => 0) 24 (0, 0)) := (hb.block _ (by simp <;> omega)).trans (heap_alloc2_new _ _ _)
    have hB : Below w.heap.size w w1 := (((Below.refl _ _).alloc (Nat.le_refl _) _).alloc (by simp) _).trans (hb.mono (by simp <;> omega))
    have d0 := cell4 hr 0 (by omega)
    have d1 := cell4 hr 1 (by omega)
    have d2 := cell4 hr 2 (by omega)
    have d3 := cell4 hr 3 (by omega)
    have f0 := frozen_of_row _ _ 0 _ _ hr
    have f1 := frozen_of_row _ _ 1 _ _ hr
    have f2 := frozen_of_row _ _ 2 _ _ hr
    have f3 := frozen_of_row _ _ 3 _ _ hr
    have HR := Lib.hid (stored4 (byK (foldK f)) hr)
    clear hr hb
    go_wp2
    refine bodyPost_ret (v := SV (byK (foldK f))) (ret4 Try.results19 rfl HR.out) rfl ⟨rfl, ?_⟩
    exact (((hB.setCell (by simp) _).setCell (by simp) _).setCell (by simp) _).setCell (by simp) _
end Go.Proofs.Ythloafbgfjhicaa
