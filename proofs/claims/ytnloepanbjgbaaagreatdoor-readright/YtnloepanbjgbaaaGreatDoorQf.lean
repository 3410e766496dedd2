/- The landed code's class. -/
import Derived.Test.YtnloepanbjgbaaaGreatDoorQe
import Derived.Deep.Cut
namespace Go.Proofs.YtnloepanbjgbaaaGreatDoor
open Go.RowKit
/-- The end of class: the set lies in the box x. -/
theorem put4_rd {w w1 : World} {p q x : Nat} {C : Cx} {k deep cop : Nat} {z : Nat → Int} {o : Obj} (F : Nat → Int) (hM : Rd w1 p C k deep cop) (hG : w.grownBy w1 (some p)) (hx : w1.heap[x]? = some (.cells (row4 z) 28 (0, 0))) (hwx : w.heap.size ≤ x) (hp : p < w.heap.size) (hxq : q ≠ x) (hq : w1.heap[q]? = some o) :
    Rd (put4 w1 x F) p C k deep cop ∧ w.grownBy (put4 w1 x F) (some p) ∧ (put4 w1 x F).heap[x]? = some (.cells (row4 F) 28 (0, 0)) ∧ (put4 w1 x F).heap[q]? = some o := by
  obtain ⟨h1, h2, h3⟩ := fin4 hM hG hp hwx hx F
  exact ⟨h2, h3, h1, (put4_other w1 x q F hxq).trans hq⟩
set_option maxRecDepth 100000 in
set_option maxHeartbeats 4000000 in
theorem class_any (w : World) (p : Nat) (C : Cx) (i deep cop : Nat) (h : Rd w p C i deep cop) (hi : i < C.S.size) : Calls Tryz.prog 109 #[rp p] w (PC w p C deep cop (classP (nx C.S) C.S.size C.fold i)) := by
  have hpq := h.lt
  have hz := h.sz
  have hb0 := alloc_below w (.cells (row8 0 z0 0 0 (.slice none 0 0)) 31)
  have HR0 := Lib.hid (h.below hb0)
  have HW := Lib.hid (wrong_any 22 _ p C i deep cop HR0.out)
  have HG0 := Lib.hid (grown_of_below hb0 (some p))
  have HQ0 := Lib.hid (heap_alloc_new w (.cells (row8 0 z0 0 0 (.slice none 0 0)) 31))
  obtain ⟨R, hR⟩ : ∃ R, R = classP (nx C.S) C.S.size C.fold i := ⟨_, rfl⟩
  rw [← hR]
  unfold classP at hR
  have HE := Lib.hid hR
  clear hR h hb0
  obtain ⟨q, hqq⟩ : ∃ q, q = w.heap.size := ⟨_, rfl⟩
  have hqs : w.heap.size ≤ q := by omega
  rw [← hqq] at HQ0
  obtain ⟨y, hy⟩ : ∃ y, y = nx C.S (i + 1) := ⟨_, rfl⟩
  have HY := Lib.hid hy
  rw [← hy] at HE
  clear hy
  go_enter Tryz.func109, Tryz.ntmps109
  go_wp2_with fail
  refine HW.out.mono ?_
  rintro e w0 ⟨rfl, hw⟩
  rw [hw] at HR0 HG0 HQ0
  rw [← hqq]
  clear hw HW hqq
  obtain ⟨c0, c1, c2, c3, c4, c5⟩ := HR0.out.cells
  have hf := HR0.out.free 3
  have HS := Lib.hid (HR0.out.step (j := i + 1) (by omega) (v := (i : Int) + 1) (by omega))
  have HQ1 := Lib.hid (box_on HQ0.out (show p ≠ q by omega) HS.out.2)
  have HG1 := Lib.hid (gtrans HG0.out HS.out.2)
  go_wp2_with fail
  refine (next_any _ p C (i + 1) deep cop HS.out.1).mono ?_
  rintro e w1 ⟨rfl, hw⟩
  rw [hw] at HS HG1 HQ1
  rw [← HY.out]
  obtain ⟨hR1, _⟩ := HS.out
  clear hw HS c0 c1 c2 c3 c4 c5 hf HR0 HG0 HQ0
  obtain ⟨c0, c1, c2, c3, c4, c5⟩ := hR1.cells
  have hf := hR1.free 3
  have HR1 := Lib.hid hR1
  clear hR1
  by_cases hm : y = 94
  · have hlt := nx_lt (S := C.S) (i := i + 1) (by rw [← HY.out]; omega)
    have HS := Lib.hid (HR1.out.step (j := i + 2) (by omega) (v := (i : Int) + 1 + 1) (by omega))
    have HQ2 := Lib.hid (box_on HQ1.out (show p ≠ q by omega) HS.out.2)
    have HG2 := Lib.hid (gtrans HG1.out HS.out.2)
    simp only [if_pos hm] at HE
    subst hm
    go_wp2_with fail
    refine (items_any _ p C (i + 2) deep cop HS.out.1).mono ?_
    intro e w3 h3
    clear c0 c1 c2 c3 c4 c5 hf HR1 HQ1 HG1
    cases hr3 : itemsP (nx C.S) (C.S.size + 1) (fun _ => 0) (i + 2) with
    | er c k =>
      rw [hr3] at h3
      have HP := Lib.hid (show R = .er c k by rw [HE.out, hr3])
      obtain ⟨hG3, ⟨f, rfl⟩, hk, j3, hR3⟩ := h3
      have hb3 := alloc_below w3 (.cells (row4 f) 28)
      have hQ3 := box_on HQ2.out (show p ≠ q by omega) hG3
      have HX := Lib.hid (fin8r (hR3.below hb3) (gbelow (gtrans HG2.out hG3) hb3) hpq hqs ((hb3.block q (Array.getElem?_eq_some_iff.1 hQ3).1).trans hQ3) 0 z0 0 0 (.slice none 0 0))
      have HQ4 := Lib.hid ((hb3.block q (Array.getElem?_eq_some_iff.1 hQ3).1).trans hQ3)
      obtain ⟨d0, d1, d2, d3, d4, d5, d6, d7⟩ := cell8 (s := z0) HQ4.out
      obtain ⟨f0, f1, f2, f3, f4, f5, f6, f7⟩ := frozen8 (s := z0) HQ4.out
      clear hG3 hR3 hb3 hQ3 hr3 HE HQ2 HG2
      go_wp2
      exact bodyPost_ret (v := .tuple #[nodeV 0 z0 0 0 (.slice none 0 0), errV c k]) (ret8t Tryz.results109 rfl rfl HX.out.1) rfl (by rw [HP.out]; exact ⟨HX.out.2.2, rfl, hk, j3, HX.out.2.1⟩)
    | ok s k =>
      rw [hr3] at h3
      have HP0 := Lib.hid (show R = if eqS (notS (foldB C.fold s)) z0 = true then .er 22 i else .ok (notS (foldB C.fold s)) k by rw [HE.out, hr3])
      obtain ⟨hG3, rfl, hws, hR3⟩ := h3
      have hb3 := alloc_below w3 (.cells (row4 s) 28)
      have hQ3 := box_on HQ2.out (show p ≠ q by omega) hG3
      have hq3 := (Array.getElem?_eq_some_iff.1 hQ3).1
      have HR4 := Lib.hid (hR3.below hb3)
      have HG4 := Lib.hid (gbelow (gtrans HG2.out hG3) hb3)
      have HQ4 := Lib.hid ((hb3.block q hq3).trans hQ3)
      have HX4 := Lib.hid (heap_alloc_new w3 (.cells (row4 s) 28))
      have hw3 := (gtrans HG2.out hG3).size
      obtain ⟨x, hxx⟩ : ∃ x, x = w3.heap.size := ⟨_, rfl⟩
      rw [← hxx] at HX4 hq3 hw3
      have hxs : w.heap.size ≤ x := hw3
      have hxq : q ≠ x := by omega
      have HWS := Lib.hid (wf_foldB C.fold hws)
      have HXX := Lib.hid hxx
      clear hG3 hR3 hb3 hQ3 hr3 HE HQ2 HG2 hws hxx
      go_wp2_with fail
      refine (folded_any s _ p C k deep cop HR4.out).mono ?_
      rintro e w5 ⟨rfl, hb5⟩
      rw [← HXX.out]
      have H5R := Lib.hid (HR4.out.below hb5)
      have H5G := Lib.hid (gbelow HG4.out hb5)
      have H5Q := Lib.hid ((hb5.block _ (Array.getElem?_eq_some_iff.1 HQ4.out).1).trans HQ4.out)
      have H5X := Lib.hid ((hb5.block _ (Array.getElem?_eq_some_iff.1 HX4.out).1).trans HX4.out)
      clear hb5 HR4 HG4 HQ4 HX4 HXX
      generalize foldB C.fold s = F at *
      obtain ⟨hR6, hG6, hX6, hQ6⟩ := put4_rd F H5R.out H5G.out H5X.out hxs hpq hxq H5Q.out
      have HR6 := Lib.hid hR6
      have HG6 := Lib.hid hG6
      have HX6 := Lib.hid hX6
      have HQ6 := Lib.hid hQ6
      obtain ⟨⟨d0, d1, d2, d3⟩, f0, f1, f2, f3⟩ := open4 H5X.out
      obtain ⟨⟨k0, k1, k2, k3⟩, _⟩ := open4 hX6
      clear hR6 hG6 hX6 hQ6
      go_wp2_with fail
      refine (not_any F _).mono ?_
      rintro e w6 ⟨rfl, hb6⟩
      have H6R := Lib.hid (HR6.out.below hb6)
      have H6G := Lib.hid (gbelow HG6.out hb6)
      have H6Q := Lib.hid ((hb6.block _ (Array.getElem?_eq_some_iff.1 HQ6.out).1).trans HQ6.out)
      have H6X := Lib.hid ((hb6.block _ (Array.getElem?_eq_some_iff.1 HX6.out).1).trans HX6.out)
      have HWF := Lib.hid (wf_not HWS.out)
      have HP := HP0
      clear hb6 HR6 HG6 HQ6 HX6 d0 d1 d2 d3 f0 f1 f2 f3 k0 k1 k2 k3 HWS HP0 H5R H5G H5X H5Q
      generalize notS F = F2 at *
      obtain ⟨hR7, hG7, hX7, hQ7⟩ := put4_rd F2 H6R.out H6G.out H6X.out hxs hpq hxq H6Q.out
      have HE7 := Lib.hid (class_end (R := R) hR7 hG7 hpq hqs hQ7 HWF.out (show i ≤ C.S.size by omega) HP.out)
      have HX7 := Lib.hid hX7
      have HQ7 := Lib.hid hQ7
      clear hR7 hG7 hX7 hQ7
      obtain ⟨⟨d0, d1, d2, d3⟩, f0, f1, f2, f3⟩ := open4 H6X.out
      obtain ⟨e0, e1, e2, e3, e4, e5, e6, e7⟩ := cell8 (s := z0) HQ7.out
      obtain ⟨g0, g1, g2, g3, g4, g5, g6, g7⟩ := frozen8 (s := z0) HQ7.out
      obtain ⟨⟨k0, k1, k2, k3⟩, _⟩ := open4 HX7.out
      cases he : eqS F2 z0
      · have hq := eqS_z F2 he
        have HZ := Lib.hid (HE7.out.1 he)
        clear he HE7
        go_wp2
        exact bodyPost_ret (v := .tuple #[nodeV 2 F2 0 0 (.slice none 0 0), .nilIface]) (ret8t Tryz.results109 rfl rfl HZ.out.2) rfl HZ.out.1
      · have hq := eqS_z F2 he
        have HZ := Lib.hid (HE7.out.2 he)
        clear he HE7
        go_wp2
        exact bodyPost_ret (v := .tuple #[nodeV 0 z0 0 0 (.slice none 0 0), errV 22 i]) (ret8t Tryz.results109 rfl rfl HZ.out.2) rfl HZ.out.1
  · have hm' : (y == 94) = false := by simp [hm]
    simp only [if_neg hm] at HE
    have HQ2 := HQ1
    have HG2 := HG1
    go_wp2_with fail
    refine (items_any _ p C (i + 1) deep cop HR1.out).mono ?_
    intro e w3 h3
    clear c0 c1 c2 c3 c4 c5 hf HR1 HQ1 HG1
    cases hr3 : itemsP (nx C.S) (C.S.size + 1) (fun _ => 0) (i + 1) with
    | er c k =>
      rw [hr3] at h3
      have HP := Lib.hid (show R = .er c k by rw [HE.out, hr3])
      obtain ⟨hG3, ⟨f, rfl⟩, hk, j3, hR3⟩ := h3
      have hb3 := alloc_below w3 (.cells (row4 f) 28)
      have hQ3 := box_on HQ2.out (show p ≠ q by omega) hG3
      have HX := Lib.hid (fin8r (hR3.below hb3) (gbelow (gtrans HG2.out hG3) hb3) hpq hqs ((hb3.block q (Array.getElem?_eq_some_iff.1 hQ3).1).trans hQ3) 0 z0 0 0 (.slice none 0 0))
      have HQ4 := Lib.hid ((hb3.block q (Array.getElem?_eq_some_iff.1 hQ3).1).trans hQ3)
      obtain ⟨d0, d1, d2, d3, d4, d5, d6, d7⟩ := cell8 (s := z0) HQ4.out
      obtain ⟨f0, f1, f2, f3, f4, f5, f6, f7⟩ := frozen8 (s := z0) HQ4.out
      clear hG3 hR3 hb3 hQ3 hr3 HE HQ2 HG2
      go_wp2
      exact bodyPost_ret (v := .tuple #[nodeV 0 z0 0 0 (.slice none 0 0), errV c k]) (ret8t Tryz.results109 rfl rfl HX.out.1) rfl (by rw [HP.out]; exact ⟨HX.out.2.2, rfl, hk, j3, HX.out.2.1⟩)
    | ok s k =>
      rw [hr3] at h3
      have HP0 := Lib.hid (show R = if eqS (foldB C.fold s) z0 = true then .er 22 i else .ok (foldB C.fold s) k by rw [HE.out, hr3])
      obtain ⟨hG3, rfl, hws, hR3⟩ := h3
      have hb3 := alloc_below w3 (.cells (row4 s) 28)
      have hQ3 := box_on HQ2.out (show p ≠ q by omega) hG3
      have hq3 := (Array.getElem?_eq_some_iff.1 hQ3).1
      have HR4 := Lib.hid (hR3.below hb3)
      have HG4 := Lib.hid (gbelow (gtrans HG2.out hG3) hb3)
      have HQ4 := Lib.hid ((hb3.block q hq3).trans hQ3)
      have HX4 := Lib.hid (heap_alloc_new w3 (.cells (row4 s) 28))
      have hw3 := (gtrans HG2.out hG3).size
      obtain ⟨x, hxx⟩ : ∃ x, x = w3.heap.size := ⟨_, rfl⟩
      rw [← hxx] at HX4 hq3 hw3
      have hxs : w.heap.size ≤ x := hw3
      have hxq : q ≠ x := by omega
      have HWS := Lib.hid (wf_foldB C.fold hws)
      have HXX := Lib.hid hxx
      clear hG3 hR3 hb3 hQ3 hr3 HE HQ2 HG2 hws hxx
      go_wp2_with fail
      refine (folded_any s _ p C k deep cop HR4.out).mono ?_
      rintro e w5 ⟨rfl, hb5⟩
      rw [← HXX.out]
      have H5R := Lib.hid (HR4.out.below hb5)
      have H5G := Lib.hid (gbelow HG4.out hb5)
      have H5Q := Lib.hid ((hb5.block _ (Array.getElem?_eq_some_iff.1 HQ4.out).1).trans HQ4.out)
      have H5X := Lib.hid ((hb5.block _ (Array.getElem?_eq_some_iff.1 HX4.out).1).trans HX4.out)
      clear hb5 HR4 HG4 HQ4 HX4 HXX
      generalize foldB C.fold s = F at *
      have HWF := HWS
      have HP := HP0
      obtain ⟨hR7, hG7, hX7, hQ7⟩ := put4_rd F H5R.out H5G.out H5X.out hxs hpq hxq H5Q.out
      have HE7 := Lib.hid (class_end (R := R) hR7 hG7 hpq hqs hQ7 HWF.out (show i ≤ C.S.size by omega) HP.out)
      have HX7 := Lib.hid hX7
      have HQ7 := Lib.hid hQ7
      clear hR7 hG7 hX7 hQ7
      obtain ⟨⟨d0, d1, d2, d3⟩, f0, f1, f2, f3⟩ := open4 H5X.out
      obtain ⟨e0, e1, e2, e3, e4, e5, e6, e7⟩ := cell8 (s := z0) HQ7.out
      obtain ⟨g0, g1, g2, g3, g4, g5, g6, g7⟩ := frozen8 (s := z0) HQ7.out
      obtain ⟨⟨k0, k1, k2, k3⟩, _⟩ := open4 HX7.out
      cases he : eqS F z0
      · have hq := eqS_z F he
        have HZ := Lib.hid (HE7.out.1 he)
        clear he HE7
        go_wp2
        exact bodyPost_ret (v := .tuple #[nodeV 2 F 0 0 (.slice none 0 0), .nilIface]) (ret8t Tryz.results109 rfl rfl HZ.out.2) rfl HZ.out.1
      · have hq := eqS_z F he
        have HZ := Lib.hid (HE7.out.2 he)
        clear he HE7
        go_wp2
        exact bodyPost_ret (v := .tuple #[nodeV 0 z0 0 0 (.slice none 0 0), errV 22 i]) (ret8t Tryz.results109 rfl rfl HZ.out.2) rfl HZ.out.1
end Go.Proofs.YtnloepanbjgbaaaGreatDoor
