/- The maker's Rx. -/
import Derived.Test.YtnfchlkdppblfaaDoorMe
import Derived.Deep.Cut
namespace Go.Proofs.YtnfchlkdppblfaaDoor
open Go.RowKit
set_option maxRecDepth 100000 in
theorem grown_alloc_box {w w1 : World} {o : Obj} {p : Nat} (h : w.grownBy w1 (some p)) : w.grownBy (w1.alloc o) (some p) := grownBy_trans h (World.grownBy_alloc _ _ _)
set_option maxRecDepth 100000 in
set_option maxHeartbeats 8000000 in
theorem mrx_any : ∀ (D : Nat) (deep : Int) (w : World) (p : Nat) (a : Option Addr) (n cap : Nat) (F : Nat → Int) (A : Nat), D ≤ 5 → -1 ≤ deep → deep ≤ (D : Int) → Mk w p a n cap F A → (∀ i, 0 ≤ F i ∧ F i < 256) → n ≤ 60 → A + 4 * 2 ^ D ≤ 800 →
    Calls Tryd.prog 14 #[.pointer (some ⟨p, 0, none⟩), .int .i64 deep] w (RxI w p a n cap F A D) := by
  intro D
  induction D with
  | zero =>
    intro deep w p a n cap F A hD hd0 hd1 h hF hn hA
    have HF := Lib.hid hF
    have hpq := h.lt
    have i1 : deep < 1 := by omega
    have e1 : decide (deep < 1) = true := by simp [i1]
    go_enter Tryd.func14, Tryd.ntmps14
    go_wp2_with fail
    refine (pick_any 8 (by omega) (by omega) _ p a n cap F A (h.below (alloc_below w _)) hF hn (by omega)).mono ?_
    rintro e w1 ⟨r, rfl, hr0, hr8, hM1, hG1⟩
    obtain ⟨hR1, hG1⟩ := box_grown hpq hG1
    clear h hF
    have HM1 := Lib.hid hM1
    have HG1 := Lib.hid hG1
    have HR1 := Lib.hid hR1
    have dAt := cell_of_row _ p 1 _ _ _ hM1.box
    have dL := cell_of_row _ p 0 _ _ _ hM1.box
    simp at dAt dL
    clear hM1 hG1 hR1
    have hq : w.heap.size < w1.heap.size := (Array.getElem?_eq_some_iff.1 HR1.out).1
    obtain ⟨q, hqq⟩ : ∃ q, q = w.heap.size := ⟨_, rfl⟩
    have hqs : w.heap.size ≤ q := by omega
    rw [← hqq] at HR1 hpq hq ⊢
    clear hqq
    go_wp2_with fail
    go_quiet (fail)
    go_wp2_with fail
    refine (leaf_any _ p a n cap F (A + 1) (mk_drewN HM1.out _) HF.out hn (by omega)).mono ?_
    rintro e w2 ⟨k, s, rfl, hlf, A', hA', hM2, hG2⟩
    have HR2 := Lib.hid (box_on (w := World.drewN w1 _) HR1.out (by omega) hG2)
    have HG2 := Lib.hid (grownBy_trans (grown_drewN HG1.out _) hG2)
    have HM2 := Lib.hid hM2
    clear hM2 hG2 HM1 HG1 HR1 dAt dL
    obtain ⟨f0, f1, f2, f3, f4, f5, f6, f7⟩ := frozen8 (s := z0) HR2.out
    obtain ⟨d0, d1, d2, d3, d4, d5, d6, d7⟩ := cell8 (s := z0) HR2.out
    have HX := Lib.hid (fin8 (s := s) (z := z0) HM2.out HG2.out hpq hqs HR2.out k 0 0 (.slice none 0 0))
    go_wp2
    exact bodyPost_ret (v := nodeV k s 0 0 (.slice none 0 0)) (ret8 Tryd.results14 rfl HX.out.1) rfl ⟨lfT k s, rfl, okT_mono (lf_ok hlf).1 (by omega), ⟨by rw [(lf_ok hlf).2.1]; omega, lf_sml hlf⟩, (lf_ok hlf).2.2 _ _, A', by omega, HX.out.2.1, HX.out.2.2⟩
  | succ D ih =>
    intro deep w p a n cap F A hD hd0 hd1 h hF hn hA
    have HF := Lib.hid hF
    have IH := Lib.hid ih
    clear ih
    have hpq := h.lt
    have hpw : 2 ^ (D + 1) = 2 * 2 ^ D := by rw [Nat.pow_succ]; omega
    have hp1 : 1 ≤ 2 ^ D := pow_pos2 D
    go_enter Tryd.func14, Tryd.ntmps14
    go_wp2_with fail
    refine (pick_any 8 (by omega) (by omega) _ p a n cap F A (h.below (alloc_below w _)) hF hn (by omega)).mono ?_
    rintro e w1 ⟨r, rfl, hr0, hr8, hM1, hG1⟩
    obtain ⟨hR1, hG1⟩ := box_grown hpq hG1
    clear h hF
    have HM1 := Lib.hid hM1
    have HG1 := Lib.hid hG1
    have HR1 := Lib.hid hR1
    have dAt := cell_of_row _ p 1 _ _ _ hM1.box
    have dL := cell_of_row _ p 0 _ _ _ hM1.box
    simp at dAt dL
    clear hM1 hG1 hR1
    have hq : w.heap.size < w1.heap.size := (Array.getElem?_eq_some_iff.1 HR1.out).1
    obtain ⟨q, hqq⟩ : ∃ q, q = w.heap.size := ⟨_, rfl⟩
    have hqs : w.heap.size ≤ q := by omega
    rw [← hqq] at HR1 hpq hq ⊢
    clear hqq
    by_cases i1 : deep < 1
    · have e1 : decide (deep < 1) = true := by simp [i1]
      go_wp2_with fail
      go_quiet (fail)
      go_wp2_with fail
      refine (leaf_any _ p a n cap F (A + 1) (mk_drewN HM1.out _) HF.out hn (by omega)).mono ?_
      rintro e w2 ⟨k, s, rfl, hlf, A', hA', hM2, hG2⟩
      have HR2 := Lib.hid (box_on (w := World.drewN w1 _) HR1.out (by omega) hG2)
      have HG2 := Lib.hid (grownBy_trans (grown_drewN HG1.out _) hG2)
      have HM2 := Lib.hid hM2
      clear hM2 hG2 HM1 HG1 HR1 dAt dL
      obtain ⟨f0, f1, f2, f3, f4, f5, f6, f7⟩ := frozen8 (s := z0) HR2.out
      obtain ⟨d0, d1, d2, d3, d4, d5, d6, d7⟩ := cell8 (s := z0) HR2.out
      have HX := Lib.hid (fin8 (s := s) (z := z0) HM2.out HG2.out hpq hqs HR2.out k 0 0 (.slice none 0 0))
      go_wp2
      exact bodyPost_ret (v := nodeV k s 0 0 (.slice none 0 0)) (ret8 Tryd.results14 rfl HX.out.1) rfl ⟨lfT k s, rfl, okT_mono (lf_ok hlf).1 (by omega), ⟨by rw [(lf_ok hlf).2.1]; omega, lf_sml hlf⟩, (lf_ok hlf).2.2 _ _, A', by omega, HX.out.2.1, HX.out.2.2⟩
    have e1 : decide (deep < 1) = false := by simp; omega
    by_cases i2 : r < 2
    · have e2 : decide (r < 2) = true := by simp [i2]
      go_wp2_with fail
      go_quiet (fail)
      go_wp2_with fail
      refine (leaf_any _ p a n cap F (A + 1) (mk_drewN HM1.out _) HF.out hn (by omega)).mono ?_
      rintro e w2 ⟨k, s, rfl, hlf, A', hA', hM2, hG2⟩
      have HR2 := Lib.hid (box_on (w := World.drewN w1 _) HR1.out (by omega) hG2)
      have HG2 := Lib.hid (grownBy_trans (grown_drewN HG1.out _) hG2)
      have HM2 := Lib.hid hM2
      clear hM2 hG2 HM1 HG1 HR1 dAt dL
      obtain ⟨f0, f1, f2, f3, f4, f5, f6, f7⟩ := frozen8 (s := z0) HR2.out
      obtain ⟨d0, d1, d2, d3, d4, d5, d6, d7⟩ := cell8 (s := z0) HR2.out
      have HX := Lib.hid (fin8 (s := s) (z := z0) HM2.out HG2.out hpq hqs HR2.out k 0 0 (.slice none 0 0))
      go_wp2
      exact bodyPost_ret (v := nodeV k s 0 0 (.slice none 0 0)) (ret8 Tryd.results14 rfl HX.out.1) rfl ⟨lfT k s, rfl, okT_mono (lf_ok hlf).1 (by omega), ⟨by rw [(lf_ok hlf).2.1]; omega, lf_sml hlf⟩, (lf_ok hlf).2.2 _ _, A', by omega, HX.out.2.1, HX.out.2.2⟩
    have e2 : decide (r < 2) = false := by simp; omega
    by_cases i3 : (n : Int) ≤ (A : Int) + 1
    · have e3 : decide ((n : Int) ≤ (A : Int) + 1) = true := by simp [i3]
      go_wp2_with fail
      go_quiet (fail)
      go_wp2_with fail
      refine (leaf_any _ p a n cap F (A + 1) (mk_drewN HM1.out _) HF.out hn (by omega)).mono ?_
      rintro e w2 ⟨k, s, rfl, hlf, A', hA', hM2, hG2⟩
      have HR2 := Lib.hid (box_on (w := World.drewN w1 _) HR1.out (by omega) hG2)
      have HG2 := Lib.hid (grownBy_trans (grown_drewN HG1.out _) hG2)
      have HM2 := Lib.hid hM2
      clear hM2 hG2 HM1 HG1 HR1 dAt dL
      obtain ⟨f0, f1, f2, f3, f4, f5, f6, f7⟩ := frozen8 (s := z0) HR2.out
      obtain ⟨d0, d1, d2, d3, d4, d5, d6, d7⟩ := cell8 (s := z0) HR2.out
      have HX := Lib.hid (fin8 (s := s) (z := z0) HM2.out HG2.out hpq hqs HR2.out k 0 0 (.slice none 0 0))
      go_wp2
      exact bodyPost_ret (v := nodeV k s 0 0 (.slice none 0 0)) (ret8 Tryd.results14 rfl HX.out.1) rfl ⟨lfT k s, rfl, okT_mono (lf_ok hlf).1 (by omega), ⟨by rw [(lf_ok hlf).2.1]; omega, lf_sml hlf⟩, (lf_ok hlf).2.2 _ _, A', by omega, HX.out.2.1, HX.out.2.2⟩
    have e3 : decide ((n : Int) ≤ (A : Int) + 1) = false := by simp; omega
    go_wp2_with fail
    go_quiet (fail)
    have HM2 := Lib.hid (mk_drewN HM1.out nq)
    have HG2 := Lib.hid (grown_drewN HG1.out nq)
    have HR2 : Hid ((w1.drewN nq).heap[q]? = some (.cells (row8 0 z0 0 0 (.slice none 0 0)) 28 (0, 0))) := HR1
    have hq2 : q < (w1.drewN nq).heap.size := hq
    clear HM1 HG1 HR1 dAt dL e1 e2 e3 i3 hq
    generalize w1.drewN nq = wd at *
    have b1 : deep ≤ 5 := by omega
    have b0 : 1 ≤ deep := by omega
    by_cases i4 : r < 5
    · skip
      go_wp2_with fail
      refine (IH.out (deep - 1) wd p a n cap F (A + 1) (by omega) (by omega) (by omega) HM2.out HF.out hn (by omega)).mono ?_
      rintro e w2 ⟨t, rfl, ot, ct, lt, A2, hA2, hM3, hG3⟩
      have HR3 := Lib.hid (box_on HR2.out (by omega) hG3)
      have HG3 := Lib.hid (grownBy_trans HG2.out hG3)
      have HM3 := Lib.hid hM3
      have OT := Lib.hid ot
      have CT := Lib.hid ct
      have LT := Lib.hid lt
      clear hM3 hG3 HM2 HG2 HR2 ot ct lt
      go_wp2_with fail
      refine (IH.out (deep - 1) w2 p a n cap F A2 (by omega) (by omega) (by omega) HM3.out HF.out hn (by omega)).mono ?_
      rintro e w3 ⟨u, rfl, ou, cu, lu, A3, hA3, hM4, hG4⟩
      have HR4 := Lib.hid (box_on HR3.out (by omega) hG4)
      have HG4 := Lib.hid (grownBy_trans HG3.out hG4)
      have HM4 := Lib.hid hM4
      have OU := Lib.hid ou
      have CU := Lib.hid cu
      have LU := Lib.hid lu
      have LT4 := Lib.hid ((Lives.grown HM3.out hG4 (Nat.le_refl _) LT.out).mono hG4.size)
      clear hM4 hG4 HM3 HG3 HR3 ou cu lu LT
      go_wp2_with fail
      have hq4 : q < w3.heap.size := (Array.getElem?_eq_some_iff.1 HR4.out).1
      refine (joined_any 3 _ w3.heap.size 0 2 (pair t u) (by simp) (two_at (heap_alloc_new w3 (.cells (rowTwo t u) 28))) (pair_lives (LT4.out.now (alloc_below _ _)) (LU.out.now (alloc_below _ _))) (pair_n (by have := CT.out.1; omega) (by have := CU.out.1; omega)) (pair_0 (by omega) OT.out OU.out)).mono ?_
      rintro e w4 ⟨v, rfl, hO, hb4⟩
      have hb5 := (alloc_below w3 (.cells (rowTwo t u) 28)).trans (hb4.mono (by simp))
      have HR5 := Lib.hid ((hb5.block _ hq4).trans HR4.out)
      have HM5 := Lib.hid (HM4.out.below hb5)
      have HG5 := Lib.hid (grownBy_trans HG4.out (grown_of_below hb5 (some p)))
      obtain ⟨x, hx, ox, cx, lx⟩ := join_all (kind := 3) (by omega) OT.out OU.out CT.out CU.out (LT4.out.now hb5) (LU.out.now hb5) hO
      obtain ⟨av, cv, rfl⟩ := row_slice hO
      generalize (joinTo 3 (pair t u) 2).length = nn at *
      have HX5 := Lib.hid (fin8 (s := z0) (z := z0) HM5.out HG5.out hpq hqs HR5.out 3 0 0 (.slice av nn cv))
      have HLX := Lib.hid (Lives.put8 HR5.out ox lx 3 z0 0 0 (.slice av nn cv))
      have HEQ := Lib.hid hx
      have HOX := Lib.hid (And.intro ox cx)
      obtain ⟨f0, f1, f2, f3, f4, f5, f6, f7⟩ := frozen8 (s := z0) HR5.out
      obtain ⟨d0, d1, d2, d3, d4, d5, d6, d7⟩ := cell8 (s := z0) HR5.out
      clear hx ox cx lx hO hb4 hb5 HM4 HG4 HR4 LT4 LU OT OU CT CU
      go_wp2
      exact bodyPost_ret (v := nodeV 3 z0 0 0 (.slice av nn cv)) (ret8 (s := z0) Tryd.results14 rfl HX5.out.1) rfl ⟨x, by rw [HEQ.out], HOX.out.1, HOX.out.2, HLX.out, A3, by omega, HX5.out.2.1, HX5.out.2.2⟩
    by_cases i5 : r = 5
    · subst i5
      go_wp2_with fail
      refine (IH.out (deep - 1) wd p a n cap F (A + 1) (by omega) (by omega) (by omega) HM2.out HF.out hn (by omega)).mono ?_
      rintro e w2 ⟨t, rfl, ot, ct, lt, A2, hA2, hM3, hG3⟩
      have HR3 := Lib.hid (box_on HR2.out (by omega) hG3)
      have HG3 := Lib.hid (grownBy_trans HG2.out hG3)
      have HM3 := Lib.hid hM3
      have OT := Lib.hid ot
      have CT := Lib.hid ct
      have LT := Lib.hid lt
      clear hM3 hG3 HM2 HG2 HR2 ot ct lt
      go_wp2_with fail
      refine (IH.out (deep - 1) w2 p a n cap F A2 (by omega) (by omega) (by omega) HM3.out HF.out hn (by omega)).mono ?_
      rintro e w3 ⟨u, rfl, ou, cu, lu, A3, hA3, hM4, hG4⟩
      have HR4 := Lib.hid (box_on HR3.out (by omega) hG4)
      have HG4 := Lib.hid (grownBy_trans HG3.out hG4)
      have HM4 := Lib.hid hM4
      have OU := Lib.hid ou
      have CU := Lib.hid cu
      have LU := Lib.hid lu
      have LT4 := Lib.hid ((Lives.grown HM3.out hG4 (Nat.le_refl _) LT.out).mono hG4.size)
      clear hM4 hG4 HM3 HG3 HR3 ou cu lu LT
      go_wp2_with fail
      have hq4 : q < w3.heap.size := (Array.getElem?_eq_some_iff.1 HR4.out).1
      refine (joined_any 4 _ w3.heap.size 0 2 (pair t u) (by simp) (two_at (heap_alloc_new w3 (.cells (rowTwo t u) 28))) (pair_lives (LT4.out.now (alloc_below _ _)) (LU.out.now (alloc_below _ _))) (pair_n (by have := CT.out.1; omega) (by have := CU.out.1; omega)) (pair_0 (by omega) OT.out OU.out)).mono ?_
      rintro e w4 ⟨v, rfl, hO, hb4⟩
      have hb5 := (alloc_below w3 (.cells (rowTwo t u) 28)).trans (hb4.mono (by simp))
      have HR5 := Lib.hid ((hb5.block _ hq4).trans HR4.out)
      have HM5 := Lib.hid (HM4.out.below hb5)
      have HG5 := Lib.hid (grownBy_trans HG4.out (grown_of_below hb5 (some p)))
      obtain ⟨x, hx, ox, cx, lx⟩ := join_all (kind := 4) (by omega) OT.out OU.out CT.out CU.out (LT4.out.now hb5) (LU.out.now hb5) hO
      obtain ⟨av, cv, rfl⟩ := row_slice hO
      generalize (joinTo 4 (pair t u) 2).length = nn at *
      have HX5 := Lib.hid (fin8 (s := z0) (z := z0) HM5.out HG5.out hpq hqs HR5.out 4 0 0 (.slice av nn cv))
      have HLX := Lib.hid (Lives.put8 HR5.out ox lx 4 z0 0 0 (.slice av nn cv))
      have HEQ := Lib.hid hx
      have HOX := Lib.hid (And.intro ox cx)
      obtain ⟨f0, f1, f2, f3, f4, f5, f6, f7⟩ := frozen8 (s := z0) HR5.out
      obtain ⟨d0, d1, d2, d3, d4, d5, d6, d7⟩ := cell8 (s := z0) HR5.out
      clear hx ox cx lx hO hb4 hb5 HM4 HG4 HR4 LT4 LU OT OU CT CU
      go_wp2
      exact bodyPost_ret (v := nodeV 4 z0 0 0 (.slice av nn cv)) (ret8 (s := z0) Tryd.results14 rfl HX5.out.1) rfl ⟨x, by rw [HEQ.out], HOX.out.1, HOX.out.2, HLX.out, A3, by omega, HX5.out.2.1, HX5.out.2.2⟩
    have n5 : (r == 5) = false := by simp [i5]
    go_wp2_with fail
    refine (pick_any 3 (by omega) (by omega) wd p a n cap F (A + 1) HM2.out HF.out hn (by omega)).mono ?_
    rintro e w2 ⟨lo, rfl, hl0, hl3, hM3, hG3⟩
    have HR3 := Lib.hid (box_on HR2.out (by omega) hG3)
    have HG3 := Lib.hid (grownBy_trans HG2.out hG3)
    have HM3 := Lib.hid hM3
    have hq3 : q < w2.heap.size := (Array.getElem?_eq_some_iff.1 HR3.out).1
    clear hM3 hG3 HM2 HG2 HR2 hq2
    go_wp2_with fail
    have HOB := Lib.hid (show w2.alloc (.cells (row8 5 z0 lo (-1) (.slice none 0 0)) 28) = w2.alloc (.cells (row8 5 z0 lo (-1) (.slice none 0 0)) 28) from rfl)
    refine (pick_any 2 (by omega) (by omega) _ p a n cap F (A + 2) (HM3.out.below (alloc_below w2 _)) HF.out hn (by omega)).mono ?_
    rintro e w3 ⟨r2, rfl, hr20, hr22, hM4, hG4⟩
    obtain ⟨hX4, hG4⟩ := box_grown HM3.out.lt hG4
    have HX4 := Lib.hid (show w3.heap[w2.heap.size]? = some (.cells (row8 5 z0 lo (-1) (.slice none 0 0)) 28 (0, 0)) from hX4)
    have HR4 := Lib.hid (box_on HR3.out (by omega) hG4)
    have HG4 := Lib.hid (grownBy_trans HG3.out hG4)
    have HM4 := Lib.hid hM4
    have hpx := HM3.out.lt
    have hwx := Nat.le_trans hqs (Nat.le_of_lt hq3)
    have hqx : q ≠ w2.heap.size := by omega
    clear hM4 hG4 HM3 HG3 HR3 hX4 HOB
    generalize w2.heap.size = x at *
    by_cases e2 : r2 = 1
    · subst e2
      have hlo : lo = 0 ∨ lo = 1 ∨ lo = 2 := by omega
      obtain ⟨k5, k6, kf, _⟩ := keepX HX4.out (grownBy_refl w3 (some p)) hpx
      rcases hlo with rfl | rfl | rfl
      · go_wp2_with fail
        go_region_held3 (fun w' => w'.cell? ⟨x, 5, none⟩ = some (.int .i64 0) ∧ w'.frozen? ⟨x, 6, none⟩ = false)
          (first | exact ⟨(keepX HX4.out (grownBy_drew _ _) hpx).1, (keepX HX4.out (grownBy_drew _ _) hpx).2.2.1⟩ | exact ⟨j5, jf⟩ | exact ⟨cell_of_row _ x 5 _ _ _ (set6 _ jX), frozen_of_row _ _ 6 _ _ (set6 _ jX)⟩)
          (first
            | (go_at_call 27; refine (pick_any 2 (by omega) (by omega) w3.drew p a n cap F (A + 3) (mk_drew HM4.out) HF.out hn (by omega)).mono ?_; rintro e wz ⟨r3, rfl, h30, h32, hM5, hG5⟩; obtain ⟨j5, j6, jf, jX⟩ := keepX HX4.out (grownBy_trans (grownBy_drew _ _) hG5) hpx; have hwr : IntKind.i64.wrap (1 + r3) = 1 + r3 := IntWalk.i64_in _ (by omega)))
        all_goals
          have HX5 := Lib.hid (set6 (1 + r3) jX)
          have hBx : Below x wz (wz.setCell ⟨x, 6, none⟩ (.int .i64 (1 + r3))) := (Below.refl _ _).setCell (show x ≤ (⟨x, 6, none⟩ : Addr).block from Nat.le_refl _) _
          have HM5 := Lib.hid (hM5.belowB hpx hBx)
          have hG45 := grownBy_trans HG4.out (grownBy_trans (grownBy_drew _ _) hG5)
          have HG5 := Lib.hid (grown_then hG45 (hBx.mono hwx))
          have HR5 := Lib.hid (box_on (box_on (w := w3.drew) HR4.out (by omega) hG5) (Ne.symm hqx) (setCell_grown wz x 6 (.int .i64 (1 + r3))))
          have HCB := Lib.hid (show countsB 0 (1 + r3) = true by simp [countsB]; omega)
          clear hM5 hG5 jX j5 j6 jf hwr hBx hG45 HM4 HG4 HR4 HX4 k5 k6 kf
          generalize wz.setCell ⟨x, 6, none⟩ (.int .i64 (1 + r3)) = wt at *
          generalize 1 + r3 = hi at *
          go_wp2_with fail
          refine (IH.out (deep - 2) wt p a n cap F (A + 4) (by omega) (by omega) (by omega) HM5.out HF.out hn (by omega)).mono ?_
          rintro e w5 ⟨t, rfl, ot, ct, lt, A5, hA5, hM6, hG6⟩
          have HX6 := Lib.hid (box_on HX5.out (by omega) hG6)
          have HR6 := Lib.hid (box_on HR5.out (by omega) hG6)
          have HG6 := Lib.hid (grownBy_trans HG5.out hG6)
          have HM6 := Lib.hid hM6
          have OT := Lib.hid ot
          have CT := Lib.hid ct
          have LT := Lib.hid lt
          clear hM6 hG6 HM5 HG5 HR5 HX5 ot ct lt
          have k7 : ∀ o, (w5.alloc o).cell? ⟨x, 7, none⟩ = some (.slice none 0 0) := fun o => cell_of_row _ x 7 _ _ _ (((alloc_below w5 o).block _ (Array.getElem?_eq_some_iff.1 HX6.out).1).trans HX6.out)
          have kf7 : ∀ o, (w5.alloc o).frozen? ⟨x, 7, none⟩ = false := fun o => frozen_of_row _ x 7 _ _ (((alloc_below w5 o).block _ (Array.getElem?_eq_some_iff.1 HX6.out).1).trans HX6.out)
          go_upto_region 12 with (fail)
          obtain ⟨w6, h6⟩ : ∃ w6, w6 = (w5.alloc (.cells (row8 t.k t.s t.lo t.hi (.slice t.a t.n t.cap)) 28)).setCell ⟨x, 7, none⟩ (.slice (some ⟨w5.heap.size, 0, none⟩) 1 1) := ⟨_, rfl⟩
          rw [← h6]
          obtain ⟨hM7, hG7, hR7, hX7, hY7, lt7⟩ := rep_fin HM6.out HG6.out HR6.out HX6.out hpx hqx hwx OT.out LT.out h6
          obtain ⟨ox, cx, lx⟩ := rep_all HCB.out OT.out CT.out lt7 hY7
          have HX8 := Lib.hid (fin8 (s := z0) (z := z0) hM7 hG7 hpq hqs hR7 5 0 hi (.slice (some ⟨w5.heap.size, 0, none⟩) 1 1))
          have HLX := Lib.hid (Lives.put8 hR7 ox lx 5 z0 0 hi (.slice (some ⟨w5.heap.size, 0, none⟩) 1 1))
          have HOX := Lib.hid (And.intro ox cx)
          obtain ⟨f0, f1, f2, f3, f4, f5, f6, f7⟩ := frozen8 (s := z0) hR7
          obtain ⟨d0, d1, d2, d3, d4, d5, d6, d7⟩ := cell8 (s := z0) hR7
          obtain ⟨c0, c1, c2, c3, c4, c5, c6, c7⟩ := cell8 (s := z0) hX7
          clear hM7 hG7 hR7 hX7 hY7 lt7 ox cx lx h6 k7 kf7 HM6 HG6 HR6 HX6 LT OT CT
          generalize w5.heap.size = y at *
          go_wp2
          exact bodyPost_ret (v := nodeV 5 z0 0 hi (.slice (some ⟨y, 0, none⟩) 1 1)) (ret8 (s := z0) Tryd.results14 rfl HX8.out.1) rfl ⟨repX 0 hi y t, rfl, HOX.out.1, HOX.out.2, HLX.out, A5, by omega, HX8.out.2.1, HX8.out.2.2⟩
      · go_wp2_with fail
        go_region_held3 (fun w' => w'.cell? ⟨x, 5, none⟩ = some (.int .i64 1) ∧ w'.frozen? ⟨x, 6, none⟩ = false)
          (first | exact ⟨(keepX HX4.out (grownBy_drew _ _) hpx).1, (keepX HX4.out (grownBy_drew _ _) hpx).2.2.1⟩ | exact ⟨j5, jf⟩ | exact ⟨cell_of_row _ x 5 _ _ _ (set6 _ jX), frozen_of_row _ _ 6 _ _ (set6 _ jX)⟩)
          (first
            | (go_at_call 27; refine (pick_any 2 (by omega) (by omega) w3.drew p a n cap F (A + 3) (mk_drew HM4.out) HF.out hn (by omega)).mono ?_; rintro e wz ⟨r3, rfl, h30, h32, hM5, hG5⟩; obtain ⟨j5, j6, jf, jX⟩ := keepX HX4.out (grownBy_trans (grownBy_drew _ _) hG5) hpx; have hwr : IntKind.i64.wrap (1 + r3) = 1 + r3 := IntWalk.i64_in _ (by omega)))
        all_goals
          have HX5 := Lib.hid (set6 (1 + r3) jX)
          have hBx : Below x wz (wz.setCell ⟨x, 6, none⟩ (.int .i64 (1 + r3))) := (Below.refl _ _).setCell (show x ≤ (⟨x, 6, none⟩ : Addr).block from Nat.le_refl _) _
          have HM5 := Lib.hid (hM5.belowB hpx hBx)
          have hG45 := grownBy_trans HG4.out (grownBy_trans (grownBy_drew _ _) hG5)
          have HG5 := Lib.hid (grown_then hG45 (hBx.mono hwx))
          have HR5 := Lib.hid (box_on (box_on (w := w3.drew) HR4.out (by omega) hG5) (Ne.symm hqx) (setCell_grown wz x 6 (.int .i64 (1 + r3))))
          have HCB := Lib.hid (show countsB 1 (1 + r3) = true by simp [countsB]; omega)
          clear hM5 hG5 jX j5 j6 jf hwr hBx hG45 HM4 HG4 HR4 HX4 k5 k6 kf
          generalize wz.setCell ⟨x, 6, none⟩ (.int .i64 (1 + r3)) = wt at *
          generalize 1 + r3 = hi at *
          go_wp2_with fail
          refine (IH.out (deep - 2) wt p a n cap F (A + 4) (by omega) (by omega) (by omega) HM5.out HF.out hn (by omega)).mono ?_
          rintro e w5 ⟨t, rfl, ot, ct, lt, A5, hA5, hM6, hG6⟩
          have HX6 := Lib.hid (box_on HX5.out (by omega) hG6)
          have HR6 := Lib.hid (box_on HR5.out (by omega) hG6)
          have HG6 := Lib.hid (grownBy_trans HG5.out hG6)
          have HM6 := Lib.hid hM6
          have OT := Lib.hid ot
          have CT := Lib.hid ct
          have LT := Lib.hid lt
          clear hM6 hG6 HM5 HG5 HR5 HX5 ot ct lt
          have k7 : ∀ o, (w5.alloc o).cell? ⟨x, 7, none⟩ = some (.slice none 0 0) := fun o => cell_of_row _ x 7 _ _ _ (((alloc_below w5 o).block _ (Array.getElem?_eq_some_iff.1 HX6.out).1).trans HX6.out)
          have kf7 : ∀ o, (w5.alloc o).frozen? ⟨x, 7, none⟩ = false := fun o => frozen_of_row _ x 7 _ _ (((alloc_below w5 o).block _ (Array.getElem?_eq_some_iff.1 HX6.out).1).trans HX6.out)
          go_upto_region 12 with (fail)
          obtain ⟨w6, h6⟩ : ∃ w6, w6 = (w5.alloc (.cells (row8 t.k t.s t.lo t.hi (.slice t.a t.n t.cap)) 28)).setCell ⟨x, 7, none⟩ (.slice (some ⟨w5.heap.size, 0, none⟩) 1 1) := ⟨_, rfl⟩
          rw [← h6]
          obtain ⟨hM7, hG7, hR7, hX7, hY7, lt7⟩ := rep_fin HM6.out HG6.out HR6.out HX6.out hpx hqx hwx OT.out LT.out h6
          obtain ⟨ox, cx, lx⟩ := rep_all HCB.out OT.out CT.out lt7 hY7
          have HX8 := Lib.hid (fin8 (s := z0) (z := z0) hM7 hG7 hpq hqs hR7 5 1 hi (.slice (some ⟨w5.heap.size, 0, none⟩) 1 1))
          have HLX := Lib.hid (Lives.put8 hR7 ox lx 5 z0 1 hi (.slice (some ⟨w5.heap.size, 0, none⟩) 1 1))
          have HOX := Lib.hid (And.intro ox cx)
          obtain ⟨f0, f1, f2, f3, f4, f5, f6, f7⟩ := frozen8 (s := z0) hR7
          obtain ⟨d0, d1, d2, d3, d4, d5, d6, d7⟩ := cell8 (s := z0) hR7
          obtain ⟨c0, c1, c2, c3, c4, c5, c6, c7⟩ := cell8 (s := z0) hX7
          clear hM7 hG7 hR7 hX7 hY7 lt7 ox cx lx h6 k7 kf7 HM6 HG6 HR6 HX6 LT OT CT
          generalize w5.heap.size = y at *
          go_wp2
          exact bodyPost_ret (v := nodeV 5 z0 1 hi (.slice (some ⟨y, 0, none⟩) 1 1)) (ret8 (s := z0) Tryd.results14 rfl HX8.out.1) rfl ⟨repX 1 hi y t, rfl, HOX.out.1, HOX.out.2, HLX.out, A5, by omega, HX8.out.2.1, HX8.out.2.2⟩
      · go_wp2_with fail
        go_region_held3 (fun w' => w'.cell? ⟨x, 5, none⟩ = some (.int .i64 2) ∧ w'.frozen? ⟨x, 6, none⟩ = false)
          (first | exact ⟨(keepX HX4.out (grownBy_drew _ _) hpx).1, (keepX HX4.out (grownBy_drew _ _) hpx).2.2.1⟩ | exact ⟨j5, jf⟩ | exact ⟨cell_of_row _ x 5 _ _ _ (set6 _ jX), frozen_of_row _ _ 6 _ _ (set6 _ jX)⟩)
          (first
            | (go_at_call 27; refine (pick_any 2 (by omega) (by omega) w3.drew p a n cap F (A + 3) (mk_drew HM4.out) HF.out hn (by omega)).mono ?_; rintro e wz ⟨r3, rfl, h30, h32, hM5, hG5⟩; obtain ⟨j5, j6, jf, jX⟩ := keepX HX4.out (grownBy_trans (grownBy_drew _ _) hG5) hpx; have hwr : IntKind.i64.wrap (2 + r3) = 2 + r3 := IntWalk.i64_in _ (by omega)))
        all_goals
          have HX5 := Lib.hid (set6 (2 + r3) jX)
          have hBx : Below x wz (wz.setCell ⟨x, 6, none⟩ (.int .i64 (2 + r3))) := (Below.refl _ _).setCell (show x ≤ (⟨x, 6, none⟩ : Addr).block from Nat.le_refl _) _
          have HM5 := Lib.hid (hM5.belowB hpx hBx)
          have hG45 := grownBy_trans HG4.out (grownBy_trans (grownBy_drew _ _) hG5)
          have HG5 := Lib.hid (grown_then hG45 (hBx.mono hwx))
          have HR5 := Lib.hid (box_on (box_on (w := w3.drew) HR4.out (by omega) hG5) (Ne.symm hqx) (setCell_grown wz x 6 (.int .i64 (2 + r3))))
          have HCB := Lib.hid (show countsB 2 (2 + r3) = true by simp [countsB]; omega)
          clear hM5 hG5 jX j5 j6 jf hwr hBx hG45 HM4 HG4 HR4 HX4 k5 k6 kf
          generalize wz.setCell ⟨x, 6, none⟩ (.int .i64 (2 + r3)) = wt at *
          generalize 2 + r3 = hi at *
          go_wp2_with fail
          refine (IH.out (deep - 2) wt p a n cap F (A + 4) (by omega) (by omega) (by omega) HM5.out HF.out hn (by omega)).mono ?_
          rintro e w5 ⟨t, rfl, ot, ct, lt, A5, hA5, hM6, hG6⟩
          have HX6 := Lib.hid (box_on HX5.out (by omega) hG6)
          have HR6 := Lib.hid (box_on HR5.out (by omega) hG6)
          have HG6 := Lib.hid (grownBy_trans HG5.out hG6)
          have HM6 := Lib.hid hM6
          have OT := Lib.hid ot
          have CT := Lib.hid ct
          have LT := Lib.hid lt
          clear hM6 hG6 HM5 HG5 HR5 HX5 ot ct lt
          have k7 : ∀ o, (w5.alloc o).cell? ⟨x, 7, none⟩ = some (.slice none 0 0) := fun o => cell_of_row _ x 7 _ _ _ (((alloc_below w5 o).block _ (Array.getElem?_eq_some_iff.1 HX6.out).1).trans HX6.out)
          have kf7 : ∀ o, (w5.alloc o).frozen? ⟨x, 7, none⟩ = false := fun o => frozen_of_row _ x 7 _ _ (((alloc_below w5 o).block _ (Array.getElem?_eq_some_iff.1 HX6.out).1).trans HX6.out)
          go_upto_region 12 with (fail)
          obtain ⟨w6, h6⟩ : ∃ w6, w6 = (w5.alloc (.cells (row8 t.k t.s t.lo t.hi (.slice t.a t.n t.cap)) 28)).setCell ⟨x, 7, none⟩ (.slice (some ⟨w5.heap.size, 0, none⟩) 1 1) := ⟨_, rfl⟩
          rw [← h6]
          obtain ⟨hM7, hG7, hR7, hX7, hY7, lt7⟩ := rep_fin HM6.out HG6.out HR6.out HX6.out hpx hqx hwx OT.out LT.out h6
          obtain ⟨ox, cx, lx⟩ := rep_all HCB.out OT.out CT.out lt7 hY7
          have HX8 := Lib.hid (fin8 (s := z0) (z := z0) hM7 hG7 hpq hqs hR7 5 2 hi (.slice (some ⟨w5.heap.size, 0, none⟩) 1 1))
          have HLX := Lib.hid (Lives.put8 hR7 ox lx 5 z0 2 hi (.slice (some ⟨w5.heap.size, 0, none⟩) 1 1))
          have HOX := Lib.hid (And.intro ox cx)
          obtain ⟨f0, f1, f2, f3, f4, f5, f6, f7⟩ := frozen8 (s := z0) hR7
          obtain ⟨d0, d1, d2, d3, d4, d5, d6, d7⟩ := cell8 (s := z0) hR7
          obtain ⟨c0, c1, c2, c3, c4, c5, c6, c7⟩ := cell8 (s := z0) hX7
          clear hM7 hG7 hR7 hX7 hY7 lt7 ox cx lx h6 k7 kf7 HM6 HG6 HR6 HX6 LT OT CT
          generalize w5.heap.size = y at *
          go_wp2
          exact bodyPost_ret (v := nodeV 5 z0 2 hi (.slice (some ⟨y, 0, none⟩) 1 1)) (ret8 (s := z0) Tryd.results14 rfl HX8.out.1) rfl ⟨repX 2 hi y t, rfl, HOX.out.1, HOX.out.2, HLX.out, A5, by omega, HX8.out.2.1, HX8.out.2.2⟩
    · have e3 : (r2 == 1) = false := by simp [e2]
      obtain ⟨hi, hhi⟩ : ∃ hi : Int, hi = -1 := ⟨_, rfl⟩
      have HX5 := HX4
      have HM5 := HM4
      have HG5 := HG4
      have HR5 := HR4
      rw [← hhi] at HX5
      have HCB := Lib.hid (show countsB lo hi = true by rw [hhi]; simp [countsB]; omega)
      clear HM4 HG4 HR4 HX4 hhi
      generalize w3 = wt at *
      go_wp2_with fail
      refine (IH.out (deep - 2) wt p a n cap F (A + 3) (by omega) (by omega) (by omega) HM5.out HF.out hn (by omega)).mono ?_
      rintro e w5 ⟨t, rfl, ot, ct, lt, A5, hA5, hM6, hG6⟩
      have HX6 := Lib.hid (box_on HX5.out (by omega) hG6)
      have HR6 := Lib.hid (box_on HR5.out (by omega) hG6)
      have HG6 := Lib.hid (grownBy_trans HG5.out hG6)
      have HM6 := Lib.hid hM6
      have OT := Lib.hid ot
      have CT := Lib.hid ct
      have LT := Lib.hid lt
      clear hM6 hG6 HM5 HG5 HR5 HX5 ot ct lt
      have k7 : ∀ o, (w5.alloc o).cell? ⟨x, 7, none⟩ = some (.slice none 0 0) := fun o => cell_of_row _ x 7 _ _ _ (((alloc_below w5 o).block _ (Array.getElem?_eq_some_iff.1 HX6.out).1).trans HX6.out)
      have kf7 : ∀ o, (w5.alloc o).frozen? ⟨x, 7, none⟩ = false := fun o => frozen_of_row _ x 7 _ _ (((alloc_below w5 o).block _ (Array.getElem?_eq_some_iff.1 HX6.out).1).trans HX6.out)
      go_upto_region 12 with (fail)
      obtain ⟨w6, h6⟩ : ∃ w6, w6 = (w5.alloc (.cells (row8 t.k t.s t.lo t.hi (.slice t.a t.n t.cap)) 28)).setCell ⟨x, 7, none⟩ (.slice (some ⟨w5.heap.size, 0, none⟩) 1 1) := ⟨_, rfl⟩
      rw [← h6]
      obtain ⟨hM7, hG7, hR7, hX7, hY7, lt7⟩ := rep_fin HM6.out HG6.out HR6.out HX6.out hpx hqx hwx OT.out LT.out h6
      obtain ⟨ox, cx, lx⟩ := rep_all HCB.out OT.out CT.out lt7 hY7
      have HX8 := Lib.hid (fin8 (s := z0) (z := z0) hM7 hG7 hpq hqs hR7 5 lo hi (.slice (some ⟨w5.heap.size, 0, none⟩) 1 1))
      have HLX := Lib.hid (Lives.put8 hR7 ox lx 5 z0 lo hi (.slice (some ⟨w5.heap.size, 0, none⟩) 1 1))
      have HOX := Lib.hid (And.intro ox cx)
      obtain ⟨f0, f1, f2, f3, f4, f5, f6, f7⟩ := frozen8 (s := z0) hR7
      obtain ⟨d0, d1, d2, d3, d4, d5, d6, d7⟩ := cell8 (s := z0) hR7
      obtain ⟨c0, c1, c2, c3, c4, c5, c6, c7⟩ := cell8 (s := z0) hX7
      clear hM7 hG7 hR7 hX7 hY7 lt7 ox cx lx h6 k7 kf7 HM6 HG6 HR6 HX6 LT OT CT
      generalize w5.heap.size = y at *
      go_wp2
      exact bodyPost_ret (v := nodeV 5 z0 lo hi (.slice (some ⟨y, 0, none⟩) 1 1)) (ret8 (s := z0) Tryd.results14 rfl HX8.out.1) rfl ⟨repX lo hi y t, rfl, HOX.out.1, HOX.out.2, HLX.out, A5, by omega, HX8.out.2.1, HX8.out.2.2⟩
end Go.Proofs.YtnfchlkdppblfaaDoor

