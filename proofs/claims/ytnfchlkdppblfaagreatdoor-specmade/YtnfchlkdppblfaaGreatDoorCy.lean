/- The document's rule of layer 6: may a rule be? -/
import Derived.Test.YtnfchlkdppblfaaGreatDoorCt
import Derived.Test.YtnfchlkdppblfaaGreatDoorCn
import Derived.Test.YtnfchlkdppblfaaGreatDoorBf
import Derived.Deep.CutBlock
namespace Go.Proofs.YtnfchlkdppblfaaGreatDoor
open Go.RowKit
theorem Bx.drewN {w w1 : World} {o : Obj} (h : Bx w o w1) (n : Nat) : Bx w o (w1.drewN n) := below_drewN h n
theorem ris_ge {f : Nat → Int} {n : Int} : ∀ {j : Nat}, risB f n j = true → 0 ≤ prvI f j
  | 0, _ => Int.le_refl _
  | j + 1, h => by
    have := (ris_le h) j (by omega)
    show 0 ≤ f j + 1
    omega
set_option maxRecDepth 100000 in
set_option maxHeartbeats 16000000 in
theorem refrule_any (r : Rl) (n : Nat) (w : World) (hn1 : 1 ≤ n) (h : RlIn w w.heap.size r) : Calls Tryz.prog 63 #[ruleV r, .int .i64 n] w fun e w' => e = .returned (.bool (ruleB r n)) ∧ Below w.heap.size w w' := by
  have HNX : Hid (∀ o w1, Bx w o w1 → Calls Tryz.prog 98 #[nodeV r.rx.k r.rx.s r.rx.lo r.rx.hi (.slice r.rx.a r.rx.n r.rx.cap)] w1 fun e w' => e = .returned (.bool (noneB r.rx)) ∧ Bx w o w') := Lib.hid fun o w1 hb => (refnone_any r.rx w1).mono fun e w' h => ⟨h.1, hb.to h.2⟩
  have HNT : Hid (∀ o w1, Bx w o w1 → Calls Tryz.prog 98 #[nodeV r.tr.k r.tr.s r.tr.lo r.tr.hi (.slice r.tr.a r.tr.n r.tr.cap)] w1 fun e w' => e = .returned (.bool (noneB r.tr)) ∧ Bx w o w') := Lib.hid fun o w1 hb => (refnone_any r.tr w1).mono fun e w' h => ⟨h.1, hb.to h.2⟩
  have HRX : Hid (∀ o w1, Bx w o w1 → Calls Tryz.prog 52 #[nodeV r.rx.k r.rx.s r.rx.lo r.rx.hi (.slice r.rx.a r.rx.n r.rx.cap)] w1 fun e w' => e = .returned (.bool (rightB r.rx)) ∧ Bx w o w') := Lib.hid fun o w1 hb => (refRight_any r.rx w1 (h.now hb.out).2.1).mono fun e w' h => ⟨h.1, hb.to h.2⟩
  have HRT : Hid (∀ o w1, Bx w o w1 → Calls Tryz.prog 52 #[nodeV r.tr.k r.tr.s r.tr.lo r.tr.hi (.slice r.tr.a r.tr.n r.tr.cap)] w1 fun e w' => e = .returned (.bool (rightB r.tr)) ∧ Bx w o w') := Lib.hid fun o w1 hb => (refRight_any r.tr w1 (h.now hb.out).2.2).mono fun e w' h => ⟨h.1, hb.to h.2⟩
  have hm := h.1.1
  have hm2 := h.1.2.1
  unfold maxLen at hm2
  have H := Lib.hid h.1.2.2.1
  clear h
  obtain ⟨ca, cn, cc, cs, al, bo, rx, tr, ef, ac, tg⟩ := r
  dsimp only at HNX HNT HRX HRT hm hm2 H
  obtain ⟨b, hb⟩ : ∃ b, b = ruleB ⟨ca, cn, cc, cs, al, bo, rx, tr, ef, ac, tg⟩ n := ⟨_, rfl⟩
  rw [← hb]
  unfold ruleB at hb
  obtain ⟨b1, h1⟩ : ∃ x, x = noneB rx := ⟨_, rfl⟩
  obtain ⟨b2, h2⟩ : ∃ x, x = noneB tr := ⟨_, rfl⟩
  obtain ⟨b3, h3⟩ : ∃ x, x = rightB rx := ⟨_, rfl⟩
  obtain ⟨b4, h4⟩ : ∃ x, x = rightB tr := ⟨_, rfl⟩
  rw [← h1] at HNX
  rw [← h2] at HNT
  rw [← h3] at HRX
  rw [← h4] at HRT
  have HQ := Lib.hid (And.intro h1 (And.intro h2 (And.intro h3 h4)))
  have HB := Lib.hid hb
  clear h1 h2 h3 h4 hb
  go_enter Tryz.func63, Tryz.ntmps63
  go_wp2
  go_loopw [5] (fun i wr => ∃ j : Nat, j ≤ cn ∧ i = .int .i64 j ∧ Hid (risB cs n j = true) ∧ ∃ kk, wr = (w.alloc (.cells (row22 ⟨ca, cn, cc, cs, al, bo, rx, tr, ef, ac, tg⟩) 43)).drewN kk) (fun i _ => cn - (intOf i).toNat)
  case atStart => exact ⟨0, by omega, rfl, Lib.hid rfl, 0, rfl⟩
  case round =>
    obtain ⟨j, hj, rfl, HA, kk, rfl⟩ := hrel
    by_cases hlt : j < cn
    · obtain ⟨g, off, rfl, hg, hc⟩ := H.out (by omega)
      have c0 : ∀ o, (w.alloc o).cell? ⟨g, off + j, none⟩ = some (.int .i64 (cs j)) := fun o => ((alloc_below w o).cell (p := ⟨g, _, none⟩) hg).trans (hc j hlt)
      obtain ⟨x, hx⟩ : ∃ x, x = cs j := ⟨_, rfl⟩
      rw [← hx] at c0
      have HX := Lib.hid hx
      have HF := Lib.hid (fun (q : (decide (prvI cs j ≤ cs j) && decide (cs j < n)) = false) => show b = false by
        have hr : risB cs n cn = false := allTo_not (p := fun i => decide (prvI cs i ≤ cs i) && decide (cs i < n)) hlt q
        rw [HB.out, show startsB ⟨some ⟨g, off, none⟩, cn, cc, cs, al, bo, rx, tr, ef, ac, tg⟩ (n : Int) = false by unfold startsB; dsimp only; split <;> first | exact hr | exact decide_eq_false (by omega)]; rfl)
      have HS := Lib.hid (show risB cs n (j + 1) = (decide (prvI cs j ≤ cs j) && decide (cs j < n)) by
        show (risB cs n j && (decide (prvI cs j ≤ cs j) && decide (cs j < n))) = _
        rw [HA.out, Bool.true_and])
      have HGE := Lib.hid (ris_ge HA.out)
      clear hx
      have x00 := hlt
      by_cases x0 : x < 0
      · have x0' : decide (x < 0) = true := decide_eq_true x0
        have HZ := Lib.hid (HF.out (by rw [← HX.out, decide_eq_false (show ¬ prvI cs j ≤ x by have := HGE.out; omega)]; rfl))
        clear hc HF HS HGE HX x0 x00
        go_wp2
        go_quiet (fail)
        go_wp2
        go_ret
        exact ⟨ret_bool HZ.out.symm, below_drewN (below_drewN (alloc_below _ _) _) _⟩
      · have x0' : decide (x < 0) = false := decide_eq_false x0
        by_cases xn : (n : Int) ≤ x
        · have xn' : decide ((n : Int) ≤ x) = true := decide_eq_true xn
          have HZ := Lib.hid (HF.out (by rw [← HX.out, decide_eq_false (show ¬ x < (n : Int) by omega), Bool.and_false]))
          clear hc HF HS HGE HX x0 xn x00
          go_wp2
          go_quiet (fail)
          go_wp2
          go_ret
          exact ⟨ret_bool HZ.out.symm, below_drewN (below_drewN (alloc_below _ _) _) _⟩
        · have xn' : decide ((n : Int) ≤ x) = false := decide_eq_false xn
          by_cases hj0 : j = 0
          · have hj0' : decide (0 < j) = false := decide_eq_false (by omega)
            have HZ := Lib.hid (show risB cs n (j + 1) = true by rw [HS.out, ← HX.out, decide_eq_true (show prvI cs j ≤ x by rw [hj0]; show (0 : Int) ≤ x; omega), decide_eq_true (show x < (n : Int) by omega)]; rfl)
            clear hc HF HS HGE HX x0 xn x00 hj0
            go_wp2
            go_quiet (fail)
            go_wp2
            go_roundw
            case rel => exact ⟨j + 1, by omega, by go_num, HZ, _, rfl⟩
            case measure => simp [intOf]; omega
          · obtain ⟨i, hi⟩ : ∃ i, j = i + 1 := ⟨j - 1, by omega⟩
            have c1 : ∀ o, (w.alloc o).cell? ⟨g, off + i, none⟩ = some (.int .i64 (cs i)) := fun o => ((alloc_below w o).cell (p := ⟨g, _, none⟩) hg).trans (hc i (by omega))
            obtain ⟨y, hy⟩ : ∃ y, y = cs i := ⟨_, rfl⟩
            rw [← hy] at c1
            have HY := Lib.hid (show prvI cs j = y + 1 by rw [hi, hy]; rfl)
            have hi0 : decide (0 < j) = true := decide_eq_true (by omega)
            have hi1 : (j : Int) - 1 = (i : Int) := by omega
            have hin : i < cn := by omega
            clear hc hy hi hj0
            by_cases hxy : x ≤ y
            · have hxy' : decide (x ≤ y) = true := decide_eq_true hxy
              have HZ := Lib.hid (HF.out (by rw [← HX.out, HY.out, decide_eq_false (show ¬ y + 1 ≤ x by omega)]; rfl))
              clear HF HS HGE HX HY x0 xn x00 hxy
              go_wp2
              go_quiet (fail)
              go_wp2
              go_ret
              exact ⟨ret_bool HZ.out.symm, below_drewN (below_drewN (alloc_below _ _) _) _⟩
            · have hxy' : decide (x ≤ y) = false := decide_eq_false hxy
              have HZ := Lib.hid (show risB cs n (j + 1) = true by rw [HS.out, ← HX.out, HY.out, decide_eq_true (show y + 1 ≤ x by omega), decide_eq_true (show x < (n : Int) by omega)]; rfl)
              clear HF HS HGE HX HY x0 xn x00 hxy
              go_wp2
              go_quiet (fail)
              go_wp2
              go_roundw
              case rel => exact ⟨j + 1, by omega, by go_num, HZ, _, rfl⟩
              case measure => simp [intOf]; omega
    · obtain rfl : cn = j := by omega
      obtain ⟨G, hG⟩ : ∃ G, G = (startsB ⟨ca, cn, cc, cs, al, bo, rx, tr, ef, ac, tg⟩ (n : Int) && actB ⟨ca, cn, cc, cs, al, bo, rx, tr, ef, ac, tg⟩ (n : Int)) := ⟨_, rfl⟩
      have HG := Lib.hid hG
      have HB2 := Lib.hid (show b = (G && patB ⟨ca, cn, cc, cs, al, bo, rx, tr, ef, ac, tg⟩) by rw [HB.out, hG, Bool.and_assoc])
      clear hG H HB
      go_upto_region 6 with fail
      go_cut [84] from 46 to 84 (fun c wc => c = .bool (!G) ∧ wc = (w.alloc (.cells (row22 ⟨ca, cn, cc, cs, al, bo, rx, tr, ef, ac, tg⟩) 43)).drewN kk)
      case first =>
        cases al
        · have hst := Lib.hid (show startsB ⟨ca, cn, cc, cs, false, bo, rx, tr, ef, ac, tg⟩ (n : Int) = true from HA.out)
          by_cases k1 : ac < 1
          · have HZ := Lib.hid (show G = false by rw [HG.out, hst.out, show actB ⟨ca, cn, cc, cs, false, bo, rx, tr, ef, ac, tg⟩ (n : Int) = false by unfold actB; dsimp only; rw [if_neg (by omega), if_neg (by omega)]]; rfl)
            go_wp2
            go_meet
            exact ⟨congrArg Value.bool (by rw [HZ.out]; rfl), rfl⟩
          by_cases k3 : 3 < ac
          · have HZ := Lib.hid (show G = false by rw [HG.out, hst.out, show actB ⟨ca, cn, cc, cs, false, bo, rx, tr, ef, ac, tg⟩ (n : Int) = false by unfold actB; dsimp only; rw [if_neg (by omega), if_neg (by omega)]]; rfl)
            go_wp2
            go_meet
            exact ⟨congrArg Value.bool (by rw [HZ.out]; rfl), rfl⟩
          by_cases t0 : tg < 0
          · have HZ := Lib.hid (show G = false by rw [HG.out, hst.out, show actB ⟨ca, cn, cc, cs, false, bo, rx, tr, ef, ac, tg⟩ (n : Int) = false by unfold actB; dsimp only; split <;> (try split) <;> first | rfl | exact decide_eq_false (by omega) | (unfold ixB; rw [decide_eq_false (by omega)]; rfl)]; rfl)
            go_wp2
            go_meet
            exact ⟨congrArg Value.bool (by rw [HZ.out]; rfl), rfl⟩
          by_cases tn : (n : Int) ≤ tg
          · have HZ := Lib.hid (show G = false by rw [HG.out, hst.out, show actB ⟨ca, cn, cc, cs, false, bo, rx, tr, ef, ac, tg⟩ (n : Int) = false by unfold actB; dsimp only; split <;> (try split) <;> first | rfl | exact decide_eq_false (by omega) | (unfold ixB; rw [decide_eq_false (show ¬ tg < (n : Int) by omega), Bool.and_false])]; rfl)
            go_wp2
            go_meet
            exact ⟨congrArg Value.bool (by rw [HZ.out]; rfl), rfl⟩
          by_cases a3 : ac = 3
          · have a3' : (ac != 3) = false := by simp [a3]
            have HZ := Lib.hid (show G = true by rw [HG.out, hst.out, show actB ⟨ca, cn, cc, cs, false, bo, rx, tr, ef, ac, tg⟩ (n : Int) = true by unfold actB; dsimp only; rw [if_neg (by omega), if_pos a3]; exact ixB_iff.2 (by omega)]; rfl)
            clear a3
            go_wp2
            go_meet
            exact ⟨congrArg Value.bool (by rw [HZ.out]; rfl), rfl⟩
          · have a3' : (ac != 3) = true := by simp [a3]
            by_cases tz : tg = 0
            · have tz' : (tg != 0) = false := by simp [tz]
              have HZ := Lib.hid (show G = true by rw [HG.out, hst.out, show actB ⟨ca, cn, cc, cs, false, bo, rx, tr, ef, ac, tg⟩ (n : Int) = true by unfold actB; dsimp only; rw [if_pos (by omega)]; exact decide_eq_true tz]; rfl)
              clear tz
              go_wp2
              go_meet
              exact ⟨congrArg Value.bool (by rw [HZ.out]; rfl), rfl⟩
            · have tz' : (tg != 0) = true := by simp [tz]
              have HZ := Lib.hid (show G = false by rw [HG.out, hst.out, show actB ⟨ca, cn, cc, cs, false, bo, rx, tr, ef, ac, tg⟩ (n : Int) = false by unfold actB; dsimp only; rw [if_pos (by omega)]; exact decide_eq_false tz]; rfl)
              go_wp2
              go_meet
              exact ⟨congrArg Value.bool (by rw [HZ.out]; rfl), rfl⟩
        · by_cases h0 : cn = 0
          · have h0' : decide (0 < cn) = false := decide_eq_false (by omega)
            have hst := Lib.hid (show startsB ⟨ca, cn, cc, cs, true, bo, rx, tr, ef, ac, tg⟩ (n : Int) = true from decide_eq_true h0)
            clear h0
            by_cases k1 : ac < 1
            · have HZ := Lib.hid (show G = false by rw [HG.out, hst.out, show actB ⟨ca, cn, cc, cs, true, bo, rx, tr, ef, ac, tg⟩ (n : Int) = false by unfold actB; dsimp only; rw [if_neg (by omega), if_neg (by omega)]]; rfl)
              go_wp2
              go_meet
              exact ⟨congrArg Value.bool (by rw [HZ.out]; rfl), rfl⟩
            by_cases k3 : 3 < ac
            · have HZ := Lib.hid (show G = false by rw [HG.out, hst.out, show actB ⟨ca, cn, cc, cs, true, bo, rx, tr, ef, ac, tg⟩ (n : Int) = false by unfold actB; dsimp only; rw [if_neg (by omega), if_neg (by omega)]]; rfl)
              go_wp2
              go_meet
              exact ⟨congrArg Value.bool (by rw [HZ.out]; rfl), rfl⟩
            by_cases t0 : tg < 0
            · have HZ := Lib.hid (show G = false by rw [HG.out, hst.out, show actB ⟨ca, cn, cc, cs, true, bo, rx, tr, ef, ac, tg⟩ (n : Int) = false by unfold actB; dsimp only; split <;> (try split) <;> first | rfl | exact decide_eq_false (by omega) | (unfold ixB; rw [decide_eq_false (by omega)]; rfl)]; rfl)
              go_wp2
              go_meet
              exact ⟨congrArg Value.bool (by rw [HZ.out]; rfl), rfl⟩
            by_cases tn : (n : Int) ≤ tg
            · have HZ := Lib.hid (show G = false by rw [HG.out, hst.out, show actB ⟨ca, cn, cc, cs, true, bo, rx, tr, ef, ac, tg⟩ (n : Int) = false by unfold actB; dsimp only; split <;> (try split) <;> first | rfl | exact decide_eq_false (by omega) | (unfold ixB; rw [decide_eq_false (show ¬ tg < (n : Int) by omega), Bool.and_false])]; rfl)
              go_wp2
              go_meet
              exact ⟨congrArg Value.bool (by rw [HZ.out]; rfl), rfl⟩
            by_cases a3 : ac = 3
            · have a3' : (ac != 3) = false := by simp [a3]
              have HZ := Lib.hid (show G = true by rw [HG.out, hst.out, show actB ⟨ca, cn, cc, cs, true, bo, rx, tr, ef, ac, tg⟩ (n : Int) = true by unfold actB; dsimp only; rw [if_neg (by omega), if_pos a3]; exact ixB_iff.2 (by omega)]; rfl)
              clear a3
              go_wp2
              go_meet
              exact ⟨congrArg Value.bool (by rw [HZ.out]; rfl), rfl⟩
            · have a3' : (ac != 3) = true := by simp [a3]
              by_cases tz : tg = 0
              · have tz' : (tg != 0) = false := by simp [tz]
                have HZ := Lib.hid (show G = true by rw [HG.out, hst.out, show actB ⟨ca, cn, cc, cs, true, bo, rx, tr, ef, ac, tg⟩ (n : Int) = true by unfold actB; dsimp only; rw [if_pos (by omega)]; exact decide_eq_true tz]; rfl)
                clear tz
                go_wp2
                go_meet
                exact ⟨congrArg Value.bool (by rw [HZ.out]; rfl), rfl⟩
              · have tz' : (tg != 0) = true := by simp [tz]
                have HZ := Lib.hid (show G = false by rw [HG.out, hst.out, show actB ⟨ca, cn, cc, cs, true, bo, rx, tr, ef, ac, tg⟩ (n : Int) = false by unfold actB; dsimp only; rw [if_pos (by omega)]; exact decide_eq_false tz]; rfl)
                go_wp2
                go_meet
                exact ⟨congrArg Value.bool (by rw [HZ.out]; rfl), rfl⟩
          · have h0' : (0 : Int) < (cn : Int) := by omega
            have HZ := Lib.hid (show G = false by rw [HG.out, show startsB ⟨ca, cn, cc, cs, true, bo, rx, tr, ef, ac, tg⟩ (n : Int) = false from decide_eq_false h0]; rfl)
            go_wp2
            go_meet
            exact ⟨congrArg Value.bool (by rw [HZ.out]; rfl), rfl⟩
      case rest =>
        obtain ⟨rfl, rfl⟩ := hcut
        clear HG HA
        cases G
        · have HZ := Lib.hid (show b = false from HB2.out)
          go_wp2
          go_ret
          exact ⟨ret_bool HZ.out.symm, below_drewN (alloc_below _ _) _⟩
        · have HB3 := Lib.hid (show b = patB ⟨ca, cn, cc, cs, al, bo, rx, tr, ef, ac, tg⟩ from HB2.out)
          have HB := HB3
          have HB4 := Lib.hid (show b = (if ef = true then !bo && (b1 && b2) else b3 && (b2 || b4)) by rw [HB3.out, HQ.out.1, HQ.out.2.1, HQ.out.2.2.1, HQ.out.2.2.2]; rfl)
          clear HB HB2 HB3 HQ
          cases ef
          · cases b3
            · have HZ := Lib.hid (show b = false from HB4.out)
              go_wp2_with (first | (go_at_call 52; refine (HRX.out _ _ ((Bx.refl _ _).drewN _)).mono ?_; clear HRX; rintro e w1 ⟨rfl, hb1⟩))
              go_ret
              exact ⟨ret_bool HZ.out.symm, hb1.out⟩
            · cases b2
              · have HZ := Lib.hid (show b = b4 from HB4.out)
                go_wp2_with (first | (go_at_call 52; refine (HRX.out _ _ ((Bx.refl _ _).drewN _)).mono ?_; clear HRX; rintro e w1 ⟨rfl, hb1⟩; obtain ⟨x0, x1, x2, x3, x4, x5, x6, x7, x8, x9, x10, x11, x12, x13, x14, x15, x16, x17, x18, x19, x20, x21⟩ := cell22 (r := ⟨ca, cn, cc, cs, al, bo, rx, tr, false, ac, tg⟩) (box_kept hb1)) | (go_at_call 98; refine (HNT.out _ _ hb1).mono ?_; clear HNT; rintro e w2 ⟨rfl, hb2⟩; clear x0 x1 x2 x3 x4 x5 x6 x7 x8 x9 x10 x11 x12 x13 x14 x15 x16 x17 x18 x19 x20 x21; obtain ⟨x0, x1, x2, x3, x4, x5, x6, x7, x8, x9, x10, x11, x12, x13, x14, x15, x16, x17, x18, x19, x20, x21⟩ := cell22 (r := ⟨ca, cn, cc, cs, al, bo, rx, tr, false, ac, tg⟩) (box_kept hb2)) | (go_at_call 52; refine (HRT.out _ _ hb2).mono ?_; clear HRT; rintro e w3 ⟨rfl, hb3⟩))
                go_ret
                exact ⟨ret_bool HZ.out.symm, hb3.out⟩
              · have HZ := Lib.hid (show b = true from HB4.out)
                go_wp2_with (first | (go_at_call 52; refine (HRX.out _ _ ((Bx.refl _ _).drewN _)).mono ?_; clear HRX; rintro e w1 ⟨rfl, hb1⟩; obtain ⟨x0, x1, x2, x3, x4, x5, x6, x7, x8, x9, x10, x11, x12, x13, x14, x15, x16, x17, x18, x19, x20, x21⟩ := cell22 (r := ⟨ca, cn, cc, cs, al, bo, rx, tr, false, ac, tg⟩) (box_kept hb1)) | (go_at_call 98; refine (HNT.out _ _ hb1).mono ?_; clear HNT; rintro e w2 ⟨rfl, hb2⟩))
                go_ret
                exact ⟨ret_bool HZ.out.symm, hb2.out⟩
          · cases bo
            · cases b1
              · have HZ := Lib.hid (show b = false from HB4.out)
                go_wp2_with (first | (go_at_call 98; refine (HNX.out _ _ ((Bx.refl _ _).drewN _)).mono ?_; clear HNX; rintro e w1 ⟨rfl, hb1⟩))
                go_ret
                exact ⟨ret_bool HZ.out.symm, hb1.out⟩
              · have HZ := Lib.hid (show b = b2 from HB4.out)
                go_wp2_with (first | (go_at_call 98; refine (HNX.out _ _ ((Bx.refl _ _).drewN _)).mono ?_; clear HNX; rintro e w1 ⟨rfl, hb1⟩; obtain ⟨x0, x1, x2, x3, x4, x5, x6, x7, x8, x9, x10, x11, x12, x13, x14, x15, x16, x17, x18, x19, x20, x21⟩ := cell22 (r := ⟨ca, cn, cc, cs, al, false, rx, tr, true, ac, tg⟩) (box_kept hb1)) | (go_at_call 98; refine (HNT.out _ _ hb1).mono ?_; clear HNT; rintro e w2 ⟨rfl, hb2⟩))
                go_ret
                exact ⟨ret_bool HZ.out.symm, hb2.out⟩
            · have HZ := Lib.hid (show b = false from HB4.out)
              go_wp2
              go_ret
              exact ⟨ret_bool HZ.out.symm, below_drewN (alloc_below _ _) _⟩
end Go.Proofs.YtnfchlkdppblfaaGreatDoor
