/- Contracts of the landed code's Right, Print and Null, for any pattern. -/
import Derived.Test.YtbahadgcmaabcaaX
namespace Go.Proofs.Ytbahadgcmaabcaa
open Go.RowKit
/-- Is a pattern valid? -/
def rightB (t : Tr) : Bool := okT t 20 && (decide (cnt t ≤ 1000) && decide (sz t ≤ 200))
set_option maxRecDepth 100000 in
theorem room_ge {t : Tr} : (0 ≤ roomI t 20 1000) ↔ (okT t 20 = true ∧ cnt t ≤ 1000) := by
  unfold roomI
  split
  · rename_i h; exact ⟨fun _ => h, fun _ => by omega⟩
  · rename_i h; exact ⟨fun q => by omega, fun q => absurd q h⟩
set_option maxRecDepth 100000 in
set_option maxHeartbeats 1000000 in
theorem right_any (t : Tr) (w : World) (hL : Lives w w.heap.size t) : Calls Try.prog 25 #[t.val] w fun e w' => e = .returned (.bool (rightB t)) ∧ Below w.heap.size w w' := by
  have HL := Lib.hid hL
  clear hL
  show Calls Try.prog 25 #[nodeV t.k t.s t.lo t.hi (.slice t.a t.n t.cap)] w _
  obtain ⟨r, hr⟩ : ∃ r, r = roomI t 20 1000 := ⟨_, rfl⟩
  have HR := Lib.hid hr
  clear hr
  go_enter Try.func25, Try.ntmps25
  go_wp2_with fail
  refine (room_any t 20 1000 _ (by omega) (by omega) (HL.out.now (alloc_below _ _))).mono ?_
  rintro e w1 ⟨rfl, hb1⟩
  rw [← HR.out]
  have HB1 := Lib.hid (box_below hb1)
  obtain ⟨c0, c1, c2, c3, c4, c5, c6, c7⟩ := cell8 (box_kept hb1)
  clear hb1
  by_cases h0 : 0 ≤ r
  · obtain ⟨k1, k2⟩ := room_ge.1 (by rw [← HR.out]; exact h0)
    have HK1 := Lib.hid k1
    have HK2 := Lib.hid k2
    clear k1 k2
    obtain ⟨z, hz⟩ : ∃ z : Int, z = ((min 1000000 (sz t) : Nat) : Int) := ⟨_, rfl⟩
    have HZ := Lib.hid hz
    clear hz
    go_wp2_with fail
    refine (size_any t w1 (HL.out.now HB1.out) (fit_of_ok HK1.out) (by have := HK2.out; omega)).mono ?_
    rintro e w2 ⟨rfl, hb2⟩
    rw [← HZ.out]
    have HX := Lib.hid (show rightB t = decide (z ≤ 200) by
      unfold rightB; rw [HK1.out, decide_eq_true HK2.out, Bool.true_and, Bool.true_and]
      have : (sz t ≤ 200) ↔ (z ≤ 200) := by have := HZ.out; omega
      exact decide_eq_decide.2 this)
    have HB2 := Lib.hid (HB1.out.trans (hb2.mono HB1.out.size))
    by_cases hz : z ≤ 200
    · go_wp2
      go_ret
      exact ⟨ret_bool (by rw [HX.out, decide_eq_true hz]), HB2.out⟩
    · go_wp2
      go_ret
      exact ⟨ret_bool (by rw [HX.out, decide_eq_false (by omega)]), HB2.out⟩
  · have HX := Lib.hid (show rightB t = false by
      have : ¬ (okT t 20 = true ∧ cnt t ≤ 1000) := fun q => h0 (by rw [HR.out]; exact room_ge.2 q)
      unfold rightB
      cases q : okT t 20
      · rfl
      · rw [decide_eq_false (fun c => this ⟨q, c⟩)]; rfl)
    go_wp2
    go_ret
    exact ⟨ret_bool HX.out.symm, HB1.out⟩
end Go.Proofs.Ytbahadgcmaabcaa
