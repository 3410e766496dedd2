/- Contracts of the landed code's Right, Print and Null, for any pattern. -/
import Derived.Test.YtnfchlkdppblfaaDoorH
import Derived.Test.YtnfchlkdppblfaaDoorI
import Derived.Laws.IdiomStrings
namespace Go.Proofs.YtnfchlkdppblfaaDoor
open Go.RowKit
set_option maxRecDepth 100000 in
theorem write_any (t : Tr) (h : fitT t = true) : Writes t := write_of within_of t h
/-- Is a pattern valid? -/
def rightB (t : Tr) : Bool := okT t 20 && (decide (cnt t ≤ 1000) && decide (sz t ≤ 200))
set_option maxRecDepth 100000 in
theorem room_ge {t : Tr} : (0 ≤ roomI t 20 1000) ↔ (okT t 20 = true ∧ cnt t ≤ 1000) := by
  unfold roomI
  split
  · rename_i h; exact ⟨fun _ => h, fun _ => by omega⟩
  · rename_i h; exact ⟨fun q => by omega, fun q => absurd q h⟩
set_option maxRecDepth 100000 in
set_option maxHeartbeats 1000000 in
theorem right_any (t : Tr) (w : World) (hL : Lives w w.heap.size t) : Calls Tryd.prog 18 #[t.val] w fun e w' => e = .returned (.bool (rightB t)) ∧ Below w.heap.size w w' := by
  have HL := Lib.hid hL
  clear hL
  show Calls Tryd.prog 18 #[nodeV t.k t.s t.lo t.hi (.slice t.a t.n t.cap)] w _
  obtain ⟨r, hr⟩ : ∃ r, r = roomI t 20 1000 := ⟨_, rfl⟩
  have HR := Lib.hid hr
  clear hr
  go_enter Tryd.func18, Tryd.ntmps18
  go_wp2_with fail
  refine (room_any t 20 1000 _ (by omega) (by omega) (HL.out.now (alloc_below _ _))).mono ?_
  rintro e w1 ⟨rfl, hb1⟩
  rw [← HR.out]
  have HB1 := Lib.hid (box_below hb1)
  obtain ⟨c0, c1, c2, c3, c4, c5, c6, c7⟩ := cell8 (box_kept hb1)
  clear hb1
  by_cases h0 : 0 ≤ r
  · obtain ⟨k1, k2⟩ := room_ge.1 (by rw [← HR.out]; exact h0)
    have HK1 := Lib.hid k1
    have HK2 := Lib.hid k2
    clear k1 k2
    obtain ⟨z, hz⟩ : ∃ z : Int, z = ((min 1000000 (sz t) : Nat) : Int) := ⟨_, rfl⟩
    have HZ := Lib.hid hz
    clear hz
    go_wp2_with fail
    refine (size_any t w1 (HL.out.now HB1.out) (fit_of_ok HK1.out) (by have := HK2.out; omega)).mono ?_
    rintro e w2 ⟨rfl, hb2⟩
    rw [← HZ.out]
    have HX := Lib.hid (show rightB t = decide (z ≤ 200) by
      unfold rightB; rw [HK1.out, decide_eq_true HK2.out, Bool.true_and, Bool.true_and]
      have : (sz t ≤ 200) ↔ (z ≤ 200) := by have := HZ.out; omega
      exact decide_eq_decide.2 this)
    have HB2 := Lib.hid (HB1.out.trans (hb2.mono HB1.out.size))
    by_cases hz : z ≤ 200
    · go_wp2
      go_ret
      exact ⟨ret_bool (by rw [HX.out, decide_eq_true hz]), HB2.out⟩
    · go_wp2
      go_ret
      exact ⟨ret_bool (by rw [HX.out, decide_eq_false (by omega)]), HB2.out⟩
  · have HX := Lib.hid (show rightB t = false by
      have : ¬ (okT t 20 = true ∧ cnt t ≤ 1000) := fun q => h0 (by rw [HR.out]; exact room_ge.2 q)
      unfold rightB
      cases q : okT t 20
      · rfl
      · rw [decide_eq_false (fun c => this ⟨q, c⟩)]; rfl)
    go_wp2
    go_ret
    exact ⟨ret_bool HX.out.symm, HB1.out⟩
/-- What is told by Print. -/
def printV (t : Tr) : Value := if rightB t = true then .tuple #[.string ⟨(txt t).toArray⟩, .int .i64 0] else .tuple #[.string ⟨#[]⟩, .int .i64 1]
set_option maxRecDepth 100000 in
theorem conv_any {w : World} {B : Nat} {v : Value} {l : List UInt8} (h : w.ownsRow B 5 1 v l.length (bc l)) : (convert 22 9 v).run Tryd.prog w = .ok (.string ⟨l.toArray⟩) w := by
  by_cases hn : 0 < l.length
  · obtain ⟨g, cap, rfl, _, _, _, _, hc⟩ := row_cells h hn
    refine run_convert_bytes_back w 22 9 5 ⟨g, 0, none⟩ cap l Tryd.underlying22 Tryd.underlying5 Tryd.underlying9 fun j hj => ?_
    rw [WideShapes.add_plain, Nat.zero_add]
    apply hc
    simp [Lib.byteCells, List.getElem?_eq_getElem hj]
  · have : l = [] := List.eq_nil_of_length_eq_zero (by omega)
    subst this
    obtain ⟨_, ⟨rfl, _⟩ | ⟨g, cap, cur, rfl, _⟩⟩ := h
    · rw [run_convert_bytes_string w 22 9 5 none 0 0 Tryd.underlying22 Tryd.underlying5 Tryd.underlying9]; rfl
    · exact run_convert_bytes_back w 22 9 5 ⟨g, 0, none⟩ cap [] Tryd.underlying22 Tryd.underlying5 Tryd.underlying9 fun j hj => absurd hj (by simp)
set_option maxRecDepth 100000 in
set_option maxHeartbeats 1000000 in
theorem print_any (t : Tr) (w : World) (hL : Lives w w.heap.size t) : Calls Tryd.prog 17 #[t.val] w fun e w' => e = .returned (printV t) ∧ Below w.heap.size w w' := by
  have HL := Lib.hid hL
  clear hL
  show Calls Tryd.prog 17 #[nodeV t.k t.s t.lo t.hi (.slice t.a t.n t.cap)] w _
  obtain ⟨r, hr⟩ : ∃ r, r = rightB t := ⟨_, rfl⟩
  unfold printV
  rw [← hr]
  have HR := Lib.hid hr
  clear hr
  go_enter Tryd.func17, Tryd.ntmps17
  go_wp2_with fail
  refine (right_any t _ (HL.out.now (alloc_below _ _))).mono ?_
  rintro e w1 ⟨rfl, hb1⟩
  rw [← HR.out]
  have HB1 := Lib.hid (box_below hb1)
  obtain ⟨c0, c1, c2, c3, c4, c5, c6, c7⟩ := cell8 (box_kept hb1)
  clear hb1
  cases r
  · go_wp2
    go_ret2
    exact ⟨rfl, HB1.out⟩
  · have HRR := Lib.hid (show okT t 20 = true ∧ cnt t ≤ 1000 by
      have := HR.out; unfold rightB at this; have q := this.symm; simp only [Bool.and_eq_true, decide_eq_true_eq] at q; exact ⟨q.1, q.2.1⟩)
    obtain ⟨T, hT⟩ : ∃ T, T = txt t := ⟨_, rfl⟩
    have HT := Lib.hid hT
    clear hT
    go_wp2_with fail
    refine (write_any t (fit_of_ok HRR.out.1) w1.heap.size [] (.slice none 0 0) w1 (HL.out.now HB1.out) (World.ownsRow_nil _ _ _ _) (Nat.le_refl _) (by have := HRR.out.2; simp; omega)).mono ?_
    rintro e w2 ⟨v2, rfl, k1, k2, k3⟩
    rw [← HT.out, List.nil_append] at k1
    have hcv := conv_any k1
    have HB2 := Lib.hid (HB1.out.trans (k2.mono HB1.out.size))
    have HX := Lib.hid (show Ending.returned (if true = true then Value.tuple #[.string ⟨(txt t).toArray⟩, .int .i64 0] else .tuple #[.string ⟨#[]⟩, .int .i64 1]) = .returned (.tuple #[.string ⟨T.toArray⟩, .int .i64 0]) by rw [if_pos rfl, HT.out])
    clear k1 k2 k3
    go_wp2
    go_ret2
    exact ⟨by first | exact HX.out.symm | rfl | (rw [HT.out]; rfl) | (rw [HT.out]; simp), HB2.out⟩
end Go.Proofs.YtnfchlkdppblfaaDoor
