/- Sets of bytes: contracts of the landed code's Or, Not, Fold. No conditions. Carried over from stage 1. -/
import Derived.Test.YtnloepanbjgbaaaGreatDoorD
namespace Go.Proofs.YtnloepanbjgbaaaGreatDoor
open Go.RowKit
set_option maxRecDepth 100000 in
theorem enters142 : Enters 142 := fun _ _ => by kernel_rfl
set_option maxRecDepth 100000 in
theorem enters125 : Enters 125 := fun _ _ => by kernel_rfl
set_option maxRecDepth 100000 in
theorem enters140 : Enters 140 := fun _ _ => by kernel_rfl
def orS (f g : Nat → Int) (i : Nat) : Int := bits .or .u64 (f i) (g i)
/-- The complement, word by word. -/
def notS (f : Nat → Int) (i : Nat) : Int := bits .xor .u64 IntKind.u64.max (f i)
set_option maxRecDepth 100000 in
set_option maxHeartbeats 400000 in
theorem or1_any (f g : Nat → Int) (i p q : Nat) (hi : i < 4) (w : World) (hp : w.heap[p]? = some (.cells (row4 f) 28 (0, 0))) (hq : w.heap[q]? = some (.cells (row4 g) 28 (0, 0))) :
    Calls Tryz.prog 142 #[.int .i64 i, .pointer (some ⟨p, 0, none⟩), .pointer (some ⟨q, 0, none⟩)] w fun e w' => e = .returned (.int .u64 (orS f g i)) ∧ Below w.heap.size w w' := by
  have cp := cell4 hp i hi
  have cq := cell4 hq i hi
  have hi' : (i : Int) < 4 := by omega
  clear hp hq
  go_enter Tryz.func142, Tryz.ntmps142
  go_wp2
  go_quiet (fail)
  go_wp2
  go_ret
  exact ⟨rfl, below_drewN (Below.refl _ _) _⟩
set_option maxRecDepth 100000 in
set_option maxHeartbeats 400000 in
theorem or_any (f g : Nat → Int) (w : World) :
    Calls Tryz.prog 135 #[SV f, SV g] w fun e w' => e = .returned (SV (orS f g)) ∧ Below w.heap.size w w' := by
  go_enter Tryz.func135, Tryz.ntmps135
  go_wp2_with fail
  refine (ofWords_any 142 enters142 _ (orS f g) _ ?_).mono ?_
  · refine Lib.hid ?_
    intro i w1 hi hb
    exact or1_any f g i _ _ hi w1 ((hb.block _ (by simp <;> omega)).trans (heap_alloc3_a _ _ _ _)) ((hb.block _ (by simp <;> omega)).trans (heap_alloc3_b _ _ _ _))
  · rintro e w1 ⟨rfl, hb⟩
    have hr : w1.heap[w.heap.size + 2]? = some (.cells (row4 fun _ => 0) 28 (0, 0)) := (hb.block _ (by simp <;> omega)).trans (heap_alloc3_c _ _ _ _)
    have hB : Below w.heap.size w w1 := ((((Below.refl _ _).alloc (Nat.le_refl _) _).alloc (by simp <;> omega) _).alloc (by simp <;> omega) _).trans (hb.mono (by simp <;> omega))
    have d0 := cell4 hr 0 (by omega)
    have d1 := cell4 hr 1 (by omega)
    have d2 := cell4 hr 2 (by omega)
    have d3 := cell4 hr 3 (by omega)
    have f0 := frozen_of_row _ _ 0 _ _ hr
    have f1 := frozen_of_row _ _ 1 _ _ hr
    have f2 := frozen_of_row _ _ 2 _ _ hr
    have f3 := frozen_of_row _ _ 3 _ _ hr
    have HR := Lib.hid (stored4 (orS f g) hr)
    clear hr hb
    go_wp2
    refine bodyPost_ret (v := SV (orS f g)) (ret4 Tryz.results135 rfl HR.out) rfl ⟨rfl, ?_⟩
    exact (((hB.setCell (by simp <;> omega) _).setCell (by simp <;> omega) _).setCell (by simp <;> omega) _).setCell (by simp <;> omega) _
set_option maxRecDepth 100000 in
set_option maxHeartbeats 400000 in
theorem not1_any (f : Nat → Int) (i p : Nat) (hi : i < 4) (w : World) (hp : w.heap[p]? = some (.cells (row4 f) 28 (0, 0))) :
    Calls Tryz.prog 125 #[.int .i64 i, .pointer (some ⟨p, 0, none⟩)] w fun e w' => e = .returned (.int .u64 (notS f i)) ∧ Below w.heap.size w w' := by
  have cp := cell4 hp i hi
  have hi' : (i : Int) < 4 := by omega
  clear hp
  go_enter Tryz.func125, Tryz.ntmps125
  go_wp2
  go_ret
  exact ⟨rfl, Below.refl _ _⟩
set_option maxRecDepth 100000 in
set_option maxHeartbeats 400000 in
theorem not_any (f : Nat → Int) (w : World) :
    Calls Tryz.prog 111 #[SV f] w fun e w' => e = .returned (SV (notS f)) ∧ Below w.heap.size w w' := by
  go_enter Tryz.func111, Tryz.ntmps111
  go_wp2_with fail
  refine (ofWords_any 125 enters125 _ (notS f) _ ?_).mono ?_
  · refine Lib.hid ?_
    intro i w1 hi hb
    exact not1_any f i _ hi w1 ((hb.block _ (by simp <;> omega)).trans (heap_alloc2_old _ _ _))
  · rintro e w1 ⟨rfl, hb⟩
    have hr : w1.heap[w.heap.size + 1]? = some (.cells (row4 fun _ => 0) 28 (0, 0)) := (hb.block _ (by simp <;> omega)).trans (heap_alloc2_new _ _ _)
    have hB : Below w.heap.size w w1 := (((Below.refl _ _).alloc (Nat.le_refl _) _).alloc (by simp) _).trans (hb.mono (by simp <;> omega))
    have d0 := cell4 hr 0 (by omega)
    have d1 := cell4 hr 1 (by omega)
    have d2 := cell4 hr 2 (by omega)
    have d3 := cell4 hr 3 (by omega)
    have f0 := frozen_of_row _ _ 0 _ _ hr
    have f1 := frozen_of_row _ _ 1 _ _ hr
    have f2 := frozen_of_row _ _ 2 _ _ hr
    have f3 := frozen_of_row _ _ 3 _ _ hr
    have HR := Lib.hid (stored4 (notS f) hr)
    clear hr hb
    go_wp2
    refine bodyPost_ret (v := SV (notS f)) (ret4 Tryz.results111 rfl HR.out) rfl ⟨rfl, ?_⟩
    exact (((hB.setCell (by simp) _).setCell (by simp) _).setCell (by simp) _).setCell (by simp) _
set_option maxRecDepth 100000 in
theorem wf_or {f g : Nat → Int} (hf : Wf f) (hg : Wf g) : Wf (orS f g) := fun i hi => (or_bit (hf i hi) (hg i hi)).1
set_option maxRecDepth 100000 in
theorem wf_not {f : Nat → Int} (hf : Wf f) : Wf (notS f) := fun i hi => (not_bit (hf i hi)).1
set_option maxRecDepth 100000 in
theorem hasI_or {f g : Nat → Int} (hf : Wf f) (hg : Wf g) (b : Int) : hasI (orS f g) b = (hasI f b || hasI g b) := by
  by_cases h : 0 ≤ b ∧ b < 256
  · rw [hasI_bit (wf_or hf hg) h.1 h.2, hasI_bit hf h.1 h.2, hasI_bit hg h.1 h.2]
    exact (or_bit (hf _ (by omega)) (hg _ (by omega))).2 _
  · rw [hasI_out h, hasI_out h, hasI_out h]; rfl
set_option maxRecDepth 100000 in
theorem hasI_not {f : Nat → Int} (hf : Wf f) {b : Int} (h0 : 0 ≤ b) (h1 : b < 256) : hasI (notS f) b = !hasI f b := by
  rw [hasI_bit (wf_not hf) h0 h1, hasI_bit hf h0 h1]
  refine ((not_bit (hf _ (by omega))).2 _).trans ?_
  rw [decide_eq_true (by omega : (b % 64).toNat < 64)]; simp
/-- A letter's other case; the number itself, if it is no letter. -/
def otherC (b : Int) : Int := if 97 ≤ b ∧ b ≤ 122 then b - 32 else if 65 ≤ b ∧ b ≤ 90 then b + 32 else b
set_option maxRecDepth 100000 in
set_option maxHeartbeats 400000 in
theorem other_any (b : Int) (w : World) :
    Calls Tryz.prog 141 #[.int .i64 b] w fun e w' => e = .returned (.int .i64 (otherC b)) ∧ w = w' := by
  by_cases h1 : 97 ≤ b ∧ b ≤ 122
  · obtain ⟨h1a, h1b⟩ := h1
    have HX : Hid (otherC b = b - 32) := Lib.hid (if_pos ⟨h1a, h1b⟩)
    go_enter Tryz.func141, Tryz.ntmps141
    go_wp2
    go_ret
    exact ⟨ret_int (by rw [HX.out]; omega), rfl⟩
  · by_cases h2 : 65 ≤ b ∧ b ≤ 90
    · have HX : Hid (otherC b = b + 32) := Lib.hid ((if_neg h1).trans (if_pos h2))
      obtain ⟨h2a, h2b⟩ := h2
      clear h1
      go_enter Tryz.func141, Tryz.ntmps141
      go_wp2
      go_ret
      exact ⟨ret_int (by rw [HX.out]; omega), rfl⟩
    · have HX : Hid (otherC b = b) := Lib.hid ((if_neg h1).trans (if_neg h2))
      rcases (show b < 65 ∨ (90 < b ∧ b < 97) ∨ 122 < b from by omega) with g | ⟨g, g'⟩ | g <;> clear h1 h2
      all_goals
        go_enter Tryz.func141, Tryz.ntmps141
        go_wp2
        go_ret
        exact ⟨ret_int (by rw [HX.out]), rfl⟩
/-- What Fold's closure answers. -/
def foldK (f : Nat → Int) (b : Int) : Bool := hasI f b || hasI f (otherC b)
set_option maxRecDepth 100000 in
set_option maxHeartbeats 400000 in
theorem fold1_any (f : Nat → Int) (b : Int) (p : Nat) (w : World) (hpl : p < w.heap.size) (hp : w.heap[p]? = some (.cells (row4 f) 28 (0, 0))) :
    Calls Tryz.prog 140 #[.int .i64 b, .pointer (some ⟨p, 0, none⟩)] w fun e w' => e = .returned (.bool (foldK f b)) ∧ Below w.heap.size w w' := by
  have HP := Lib.hid hp
  clear hp
  cases hX : hasI f b
  · have HX : Hid (foldK f b = hasI f (otherC b)) := Lib.hid (by simp [foldK, hX])
    go_enter Tryz.func140, Tryz.ntmps140
    go_wp2
    go_region_held3 (fun w' => Below w.heap.size w w' ∧ w'.cell? ⟨p, 0, none⟩ = some (.int .u64 (f 0)) ∧ w'.cell? ⟨p, 1, none⟩ = some (.int .u64 (f 1)) ∧ w'.cell? ⟨p, 2, none⟩ = some (.int .u64 (f 2)) ∧ w'.cell? ⟨p, 3, none⟩ = some (.int .u64 (f 3)))
      ((refine keep4 hpl HP.out ?_; first | assumption | exact (Below.refl _ _).drew))
      (first | (go_at_call 78; go_split_ands; refine (fromB (w := w) (has_any f _ _) ?_).mono ?_; assumption; rintro e w1 ⟨rfl, hB1⟩) | (go_at_call 141; refine (other_any _ _).mono ?_; rintro e w1 ⟨rfl, rfl⟩))
    go_wp2
    go_ret
    exact ⟨ret_bool HX.out.symm, hB1⟩
  · have HX : Hid (foldK f b = true) := Lib.hid (by simp [foldK, hX])
    obtain ⟨_, c0, c1, c2, c3⟩ := keep4 hpl HP.out (Below.refl _ _)
    go_enter Tryz.func140, Tryz.ntmps140
    go_wp2
    first
      | (go_region_with ((go_at_call 78; refine (fromB (w := w) (has_any f _ _) (Below.refl _ _).drew).mono ?_; rintro e w1 ⟨rfl, hB1⟩)))
      | fail
    all_goals
      go_wp2
      go_ret
      exact ⟨ret_bool HX.out.symm, hB1⟩
set_option maxRecDepth 100000 in
set_option maxHeartbeats 400000 in
theorem fold_any (f : Nat → Int) (w : World) :
    Calls Tryz.prog 129 #[SV f] w fun e w' => e = .returned (SV (byK (foldK f))) ∧ Below w.heap.size w w' := by
  go_enter Tryz.func129, Tryz.ntmps129
  go_wp2_with fail
  refine (ofBytes_any 140 enters140 _ (foldK f) _ ?_).mono ?_
  · refine Lib.hid ?_
    intro b w1 _ _ hb
    exact fold1_any f b _ w1 (by have := hb.size; simp at this; omega) ((hb.block _ (by simp <;> omega)).trans (heap_alloc2_old _ _ _))
  · rintro e w1 ⟨rfl, hb⟩
    have hr : w1.heap[w.heap.size + 1]? = some (.cells (row4 fun _ => 0) 28 (0, 0)) := (hb.block _ (by simp <;> omega)).trans (heap_alloc2_new _ _ _)
    have hB : Below w.heap.size w w1 := (((Below.refl _ _).alloc (Nat.le_refl _) _).alloc (by simp) _).trans (hb.mono (by simp <;> omega))
    have d0 := cell4 hr 0 (by omega)
    have d1 := cell4 hr 1 (by omega)
    have d2 := cell4 hr 2 (by omega)
    have d3 := cell4 hr 3 (by omega)
    have f0 := frozen_of_row _ _ 0 _ _ hr
    have f1 := frozen_of_row _ _ 1 _ _ hr
    have f2 := frozen_of_row _ _ 2 _ _ hr
    have f3 := frozen_of_row _ _ 3 _ _ hr
    have HR := Lib.hid (stored4 (byK (foldK f)) hr)
    clear hr hb
    go_wp2
    refine bodyPost_ret (v := SV (byK (foldK f))) (ret4 Tryz.results129 rfl HR.out) rfl ⟨rfl, ?_⟩
    exact (((hB.setCell (by simp) _).setCell (by simp) _).setCell (by simp) _).setCell (by simp) _
end Go.Proofs.YtnloepanbjgbaaaGreatDoor
