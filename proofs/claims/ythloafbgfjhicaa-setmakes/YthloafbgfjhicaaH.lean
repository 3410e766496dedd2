/- Contracts of the document's own answer Fold of layer 1. -/
import Derived.Test.YthloafbgfjhicaaG
import Derived.Test.YthloafbgfjhicaaK
namespace Go.Proofs.Ythloafbgfjhicaa
open Go.RowKit
set_option maxHeartbeats 400000 in
theorem refother_any (b : Int) (w : World) :
    Calls Try.prog 36 #[.int .i64 b] w fun e w' => e = .returned (.int .i64 (otherC b)) ∧ w = w' := by
  by_cases h1 : 97 ≤ b ∧ b ≤ 122
  · obtain ⟨h1a, h1b⟩ := h1
    have HX : Hid (otherC b = b - 32) := Lib.hid (if_pos ⟨h1a, h1b⟩)
    go_enter Try.func36, Try.ntmps36
    go_wp2
    go_ret
    exact ⟨ret_int (by rw [HX.out]), rfl⟩
  · by_cases h2 : 65 ≤ b ∧ b ≤ 90
    · have HX : Hid (otherC b = b + 32) := Lib.hid ((if_neg h1).trans (if_pos h2))
      obtain ⟨h2a, h2b⟩ := h2
      clear h1
      go_enter Try.func36, Try.ntmps36
      go_wp2
      go_ret
      exact ⟨ret_int (by rw [HX.out]), rfl⟩
    · have HX : Hid (otherC b = b) := Lib.hid ((if_neg h1).trans (if_neg h2))
      rcases (show b < 65 ∨ (90 < b ∧ b < 97) ∨ 122 < b from by omega) with g | ⟨g, g'⟩ | g <;> clear h1 h2
      all_goals
        go_enter Try.func36, Try.ntmps36
        go_wp2
        go_ret
        exact ⟨ret_int (by rw [HX.out]), rfl⟩
/-- A set with the other cases of its letters below j. -/
def accF (f : Nat → Int) : Nat → Nat → Int
  | 0 => f
  | j + 1 => if hasI f (j : Int) then addS (accF f j) (otherC (j : Int)) else accF f j
theorem accF_yes {f : Nat → Int} {j : Nat} (h : hasI f (j : Int) = true) : accF f (j + 1) = addS (accF f j) (otherC (j : Int)) := by
  show (if _ then _ else _) = _; rw [h]; rfl
theorem accF_no {f : Nat → Int} {j : Nat} (h : hasI f (j : Int) = false) : accF f (j + 1) = accF f j := by
  show (if _ then _ else _) = _; rw [h]; rfl
def accFold (f : Nat → Int) : Nat → Int := accF f 256
theorem other_lt {j : Nat} (h : j < 256) : 0 ≤ otherC (j : Int) ∧ otherC (j : Int) < 256 := other_in (by omega) (by omega)
set_option maxRecDepth 100000 in
set_option maxHeartbeats 4000000 in
theorem reffold_any (f : Nat → Int) (w : World) :
    Calls Try.prog 20 #[SV f] w fun e w' => e = .returned (SV (accFold f)) ∧ Below w.heap.size w w' := by
  go_enter Try.func20, Try.ntmps20
  go_wp2
  go_loopw [4] (fun c wr => ∃ j : Nat, j ≤ 256 ∧ c = .int .i64 j ∧ wr.heap[w.heap.size]? = some (.cells (row4 f) 24 (0, 0)) ∧ wr.heap[w.heap.size + 1]? = some (.cells (row4 fun _ => 0) 24 (0, 0)) ∧ wr.heap[w.heap.size + 2]? = some (.cells (row4 (accF f j)) 24 (0, 0)) ∧ w.heap.size + 3 ≤ wr.heap.size ∧ Below w.heap.size w wr) (fun c _ => 256 - (intOf c).toNat)
  case atStart => exact ⟨0, by omega, rfl, heap_alloc3_a _ _ _ _, heap_alloc3_b _ _ _ _, heap_alloc3_c _ _ _ _, by simp, below_alloc3 _ _ _ _⟩
  case round =>
    obtain ⟨j, hj, rfl, h0, h1, h2, hl, hb⟩ := hrel
    by_cases hlt : j < 256
    · have H0 := Lib.hid h0
      have H1 := Lib.hid h1
      have H2 := Lib.hid h2
      clear h0 h1 h2
      have c0 := cell4 H0.out 0 (by omega)
      have c1 := cell4 H0.out 1 (by omega)
      have c2 := cell4 H0.out 2 (by omega)
      have c3 := cell4 H0.out 3 (by omega)
      cases hx : hasI f (j : Int)
      · have HK := Lib.hid (accF_no hx)
        go_wp2_with fail
        refine (refhas_any f (j : Int) _).mono ?_
        rintro e w1 ⟨rfl, hc1⟩
        clear c0 c1 c2 c3
        go_wp2
        go_roundw
        case rel => exact ⟨j + 1, by omega, by go_num, (hc1.block _ (by omega)).trans H0.out, (hc1.block _ (by omega)).trans H1.out, by rw [HK.out]; exact (hc1.block _ (by omega)).trans H2.out, Nat.le_trans hl hc1.size, hb.trans (hc1.mono hb.size)⟩
        case measure => simp [intOf]; omega
      · have HK := Lib.hid (accF_yes hx)
        go_wp2_with fail
        refine (refhas_any f (j : Int) _).mono ?_
        rintro e w1 ⟨rfl, hc1⟩
        clear c0 c1 c2 c3
        have H0q := Lib.hid ((hc1.block (w.heap.size) (by omega)).trans H0.out)
        have H1q := Lib.hid ((hc1.block (w.heap.size + 1) (by omega)).trans H1.out)
        have H2q := Lib.hid ((hc1.block (w.heap.size + 2) (by omega)).trans H2.out)
        have hbq : Below w.heap.size w w1 := hb.trans (hc1.mono hb.size)
        have hlq : w.heap.size + 3 ≤ w1.heap.size := Nat.le_trans hl hc1.size
        have hto := other_lt hlt
        have hto0 := hto.1
        have hto1 := hto.2
        clear hc1 hb hl H0 H1 H2 hto
        have c0 := cell4 H2q.out 0 (by omega)
        have c1 := cell4 H2q.out 1 (by omega)
        have c2 := cell4 H2q.out 2 (by omega)
        have c3 := cell4 H2q.out 3 (by omega)
        go_wp2_with fail
        go_region_with (first
          | (go_at_call 36; refine (refother_any _ _).mono ?_; rintro e wy ⟨rfl, rfl⟩)
          | (go_at_call 29; refine (add_any (accF f j) (otherC (j : Int)) hto0 hto1 _).mono ?_; rintro e wz ⟨rfl, hbz⟩; have hz2 := (hbz.block (w.heap.size + 2) (by simp; omega)).trans H2q.out; have d0 := cell4 hz2 0 (by omega); have d1 := cell4 hz2 1 (by omega); have d2 := cell4 hz2 2 (by omega); have d3 := cell4 hz2 3 (by omega); have f0 := frozen_of_row _ _ 0 _ _ hz2; have f1 := frozen_of_row _ _ 1 _ _ hz2; have f2 := frozen_of_row _ _ 2 _ _ hz2; have f3 := frozen_of_row _ _ 3 _ _ hz2; have HZ2 := Lib.hid hz2; clear hz2))
        all_goals
          go_wp2
          go_roundw
          case rel =>
            have hz0 := (hbz.block w.heap.size (by simp; omega)).trans H0q.out
            have hz1 := (hbz.block (w.heap.size + 1) (by simp; omega)).trans H1q.out
            have hbz' : Below w.heap.size w wz := hbq.trans (Below.trans (Below.refl _ _).drew (hbz.mono (by simp; omega)))
            exact ⟨j + 1, by omega, by go_num, (put4_other wz _ _ _ (by omega)).trans hz0, (put4_other wz _ _ _ (by omega)).trans hz1, by rw [HK.out]; exact stored4 _ HZ2.out, by rw [put4_size]; exact Nat.le_trans hlq hbz.size, put4_below _ hbz' (by omega)⟩
          case measure => simp [intOf]; omega
    · obtain rfl : j = 256 := by omega
      have c0 := cell4 h2 0 (by omega)
      have c1 := cell4 h2 1 (by omega)
      have c2 := cell4 h2 2 (by omega)
      have c3 := cell4 h2 3 (by omega)
      have d0 := cell4 h1 0 (by omega)
      have d1 := cell4 h1 1 (by omega)
      have d2 := cell4 h1 2 (by omega)
      have d3 := cell4 h1 3 (by omega)
      have f0 := frozen_of_row _ _ 0 _ _ h1
      have f1 := frozen_of_row _ _ 1 _ _ h1
      have f2 := frozen_of_row _ _ 2 _ _ h1
      have f3 := frozen_of_row _ _ 3 _ _ h1
      have HR := Lib.hid (stored4 (accF f 256) h1)
      clear h0 h1 h2
      go_wp2
      refine bodyPost_ret (v := SV (accFold f)) (ret4 Try.results20 rfl HR.out) rfl ⟨rfl, ?_⟩
      exact put4_below (accF f 256) hb (by omega)
end Go.Proofs.Ythloafbgfjhicaa
