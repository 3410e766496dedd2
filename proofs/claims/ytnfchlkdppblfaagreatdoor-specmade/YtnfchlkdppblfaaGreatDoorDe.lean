/- The document's Same of layer 6. -/
import Derived.Test.YtnfchlkdppblfaaGreatDoorCt
import Derived.Test.YtnfchlkdppblfaaGreatDoorCl
import Derived.Test.YtnfchlkdppblfaaGreatDoorCo
import Derived.Test.YtnfchlkdppblfaaGreatDoorCz
import Derived.Test.YtnfchlkdppblfaaGreatDoorDb
import Derived.Deep.RegionHeld3
namespace Go.Proofs.YtnfchlkdppblfaaGreatDoor
open Go.RowKit Go
theorem Bx2.drew {w w1 : World} {o o' : Obj} (h : Bx2 w o o' w1) : Bx2 w o o' w1.drew := Below.drew h
set_option maxRecDepth 100000 in
set_option maxHeartbeats 8000000 in
theorem refspsame_any (s t : Sp) (w : World) (h : SpIn w s) (h' : SpIn w t) : Calls Tryz.prog 18 #[specV s, specV t] w fun e w' => e = .returned (.bool (sameS s t)) ∧ Below w.heap.size w w' := by
  obtain ⟨⟨ka, kn, kc, kd⟩, dft, ⟨ra, rn, rc, rl⟩⟩ := s
  obtain ⟨⟨ka', kn', kc', kd'⟩, dft', ⟨ra', rn', rc', rl'⟩⟩ := t
  have hm := h.1.1
  have hm2 := h.1.2.1
  have hm3 := h'.1.1
  have hm4 := h'.1.2.1
  have hr := h.2.1
  have hr2 := h.2.2.1
  have hr3 := h'.2.1
  have hr4 := h'.2.2.1
  have H := Lib.hid h.1.2.2.1
  have H' := Lib.hid h'.1.2.2.1
  have HR := Lib.hid h.2.2.2.1
  have HR' := Lib.hid h'.2.2.2.1
  have HC : Hid (∀ i, i < rn → i < rn' → ∀ o o' w1, Bx2 w o o' w1 → Calls Tryz.prog 43 #[ruleV (rl i), ruleV (rl' i)] w1 fun e w' => e = .returned (.bool (sameR (rl i) (rl' i))) ∧ Bx2 w o o' w') := Lib.hid fun i hi hi' o o' w1 hb => (refsameRule_any (rl i) (rl' i) w1 ((h.2.2.2.2 i hi).now hb.out) ((h'.2.2.2.2 i hi').now hb.out)).mono fun e w' q => ⟨q.1, hb.to q.2⟩
  clear h h'
  dsimp only at hm hm2 hm3 hm4 hr hr2 hr3 hr4 H H' HR HR'
  unfold maxLen at hm2 hm4 hr2 hr4
  obtain ⟨b, hb⟩ : ∃ b, b = sameS ⟨⟨ka, kn, kc, kd⟩, dft, ⟨ra, rn, rc, rl⟩⟩ ⟨⟨ka', kn', kc', kd'⟩, dft', ⟨ra', rn', rc', rl'⟩⟩ := ⟨_, rfl⟩
  rw [← hb]
  unfold sameS sameCs sameRs at hb
  dsimp only at hb
  cases ed : (dft == dft')
  · obtain rfl : b = false := by rw [hb, ed]; rfl
    clear hb H H' HR HR' HC
    go_enter Tryz.func18, Tryz.ntmps18
    go_wp2
    go_ret
    exact ⟨rfl, alloc2_below _ _ _⟩
  · rw [ed, Bool.true_and] at hb
    by_cases hn : kn = kn'
    · subst hn
      by_cases hnr : rn = rn'
      · subst hnr
        rw [decide_eq_true rfl, decide_eq_true rfl, Bool.true_and, Bool.true_and] at hb
        have HB := Lib.hid hb
        clear hb
        go_enter Tryz.func18, Tryz.ntmps18
        go_wp2
        go_loopw [5] (fun i wr => ∃ j : Nat, j ≤ kn ∧ i = .int .i64 j ∧ Hid (allTo (fun i => eqC (kd i) (kd' i)) j = true) ∧ ∃ kk, wr = ((w.alloc (.cells (row3 ⟨⟨ka, kn, kc, kd⟩, dft, ⟨ra, rn, rc, rl⟩⟩) 29)).alloc (.cells (row3 ⟨⟨ka', kn, kc', kd'⟩, dft', ⟨ra', rn, rc', rl'⟩⟩) 29)).drewN kk) (fun i _ => kn - (intOf i).toNat)
        case atStart => exact ⟨0, by omega, rfl, Lib.hid rfl, 0, rfl⟩
        case round =>
          obtain ⟨j, hj, rfl, HA, kk, rfl⟩ := hrel
          by_cases hlt : j < kn
          · obtain ⟨g, off, rfl, hg, hc⟩ := H.out (by omega)
            obtain ⟨g', off', rfl, hg', hc'⟩ := H'.out (by omega)
            have c0 : ∀ o o', ((w.alloc o).alloc o').cell? ⟨g, off + j * 2, none⟩ = some (.string (kd j).nm) := fun o o' => ((hc j hlt).below hg (alloc2_below w o o')).1
            have c1 : ∀ o o', ((w.alloc o).alloc o').cell? ⟨g, off + j * 2 + 1, none⟩ = some (.bool (kd j).ex) := fun o o' => ((hc j hlt).below hg (alloc2_below w o o')).2
            have d0 : ∀ o o', ((w.alloc o).alloc o').cell? ⟨g', off' + j * 2, none⟩ = some (.string (kd' j).nm) := fun o o' => ((hc' j hlt).below hg' (alloc2_below w o o')).1
            have d1 : ∀ o o', ((w.alloc o).alloc o').cell? ⟨g', off' + j * 2 + 1, none⟩ = some (.bool (kd' j).ex) := fun o o' => ((hc' j hlt).below hg' (alloc2_below w o o')).2
            have HE := Lib.hid (show allTo (fun i => eqC (kd i) (kd' i)) (j + 1) = (((kd j).nm.toList == (kd' j).nm.toList) && ((kd j).ex == (kd' j).ex)) by
              show (allTo (fun i => eqC (kd i) (kd' i)) j && eqC (kd j) (kd' j)) = _
              rw [HA.out]; rfl)
            have HF := Lib.hid (fun (q : (((kd j).nm.toList == (kd' j).nm.toList) && ((kd j).ex == (kd' j).ex)) = false) => allTo_not (p := fun i => eqC (kd i) (kd' i)) hlt q)
            obtain ⟨x, hx⟩ : ∃ x, x = (kd j).nm := ⟨_, rfl⟩
            obtain ⟨y, hy⟩ : ∃ y, y = (kd' j).nm := ⟨_, rfl⟩
            obtain ⟨u, hu⟩ : ∃ u, u = (kd j).ex := ⟨_, rfl⟩
            obtain ⟨v, hv⟩ : ∃ v, v = (kd' j).ex := ⟨_, rfl⟩
            rw [← hx] at c0 HE HF
            rw [← hy] at d0 HE HF
            rw [← hu] at c1 HE HF
            rw [← hv] at d1 HE HF
            clear hc hc' hx hy hu hv
            cases hq : (x.toList == y.toList)
            · have HZ := Lib.hid (HF.out (by rw [hq]; rfl))
              clear HE HF
              go_wp2
              go_quiet (fail)
              go_wp2
              go_ret
              exact ⟨ret_bool (by rw [HB.out, HZ.out]; rfl), below_drewN (below_drewN (alloc2_below _ _ _) _) _⟩
            · cases hr : (u == v)
              · have HZ := Lib.hid (HF.out (by rw [hq, hr]; rfl))
                clear HE HF
                go_wp2
                go_quiet (fail)
                go_wp2
                go_ret
                exact ⟨ret_bool (by rw [HB.out, HZ.out]; rfl), below_drewN (below_drewN (alloc2_below _ _ _) _) _⟩
              · have HZ := Lib.hid (show allTo (fun i => eqC (kd i) (kd' i)) (j + 1) = true by rw [HE.out, hq, hr]; rfl)
                clear HE HF
                go_wp2
                go_quiet (fail)
                go_wp2
                go_roundw
                case rel => exact ⟨j + 1, by omega, by go_num, HZ, _, rfl⟩
                case measure => simp [intOf]; omega
          · obtain rfl : kn = j := by omega
            have HB2 := Lib.hid HB.out
            rw [HA.out, Bool.true_and] at HB2
            go_wp2
            go_loopw [6] (fun i wr => ∃ q : Nat, q ≤ rn ∧ i = .int .i64 q ∧ Hid (allTo (fun i => sameR (rl i) (rl' i)) q = true) ∧ Hid (Bx2 w (.cells (row3 ⟨⟨ka, kn, kc, kd⟩, dft, ⟨ra, rn, rc, rl⟩⟩) 29) (.cells (row3 ⟨⟨ka', kn, kc', kd'⟩, dft', ⟨ra', rn, rc', rl'⟩⟩) 29) wr)) (fun i _ => rn - (intOf i).toNat)
            case atStart => exact ⟨0, by omega, rfl, Lib.hid rfl, Lib.hid ((Bx2.refl _ _ _).drewN _)⟩
            case round =>
              obtain ⟨q, hq, rfl, HQ, HBX⟩ := hrel
              by_cases hlq : q < rn
              · have hlq' : (q : Int) < (rn : Int) := by omega
                obtain ⟨g, off, rfl, hg, hA1⟩ := HR.out (by omega)
                obtain ⟨g', off', rfl, hg', hA2⟩ := HR'.out (by omega)
                have HL1 : Hid (∀ w1, Bx2 w (.cells (row3 ⟨⟨ka, kn, kc, kd⟩, dft, ⟨some ⟨g, off, none⟩, rn, rc, rl⟩⟩) 29) (.cells (row3 ⟨⟨ka', kn, kc', kd'⟩, dft', ⟨some ⟨g', off', none⟩, rn, rc', rl'⟩⟩) 29) w1 → (loadCells ⟨g, off + q * 22, none⟩ (row22 (rl q)).toList.length).run Tryz.prog w1 = .ok (row22 (rl q)).toList.toArray w1) := Lib.hid fun w1 hb => ldAt22 ((hA1 q hlq).below hg hb.out)
                have HL2 : Hid (∀ w1, Bx2 w (.cells (row3 ⟨⟨ka, kn, kc, kd⟩, dft, ⟨some ⟨g, off, none⟩, rn, rc, rl⟩⟩) 29) (.cells (row3 ⟨⟨ka', kn, kc', kd'⟩, dft', ⟨some ⟨g', off', none⟩, rn, rc', rl'⟩⟩) 29) w1 → (loadCells ⟨g', off' + q * 22, none⟩ (row22 (rl' q)).toList.length).run Tryz.prog w1 = .ok (row22 (rl' q)).toList.toArray w1) := Lib.hid fun w1 hb => ldAt22 ((hA2 q hlq).below hg' hb.out)
                have HCL := Lib.hid (HC.out q hlq hlq (.cells (row3 ⟨⟨ka, kn, kc, kd⟩, dft, ⟨some ⟨g, off, none⟩, rn, rc, rl⟩⟩) 29) (.cells (row3 ⟨⟨ka', kn, kc', kd'⟩, dft', ⟨some ⟨g', off', none⟩, rn, rc', rl'⟩⟩) 29))
                have HE := Lib.hid (show allTo (fun i => sameR (rl i) (rl' i)) (q + 1) = sameR (rl q) (rl' q) by
                  show (allTo (fun i => sameR (rl i) (rl' i)) q && sameR (rl q) (rl' q)) = _
                  rw [HQ.out]; rfl)
                have HF := Lib.hid (fun (e : sameR (rl q) (rl' q) = false) => allTo_not (p := fun i => sameR (rl i) (rl' i)) hlq e)
                have HX := Lib.hid (fun w1 (hb : Bx2 w (.cells (row3 ⟨⟨ka, kn, kc, kd⟩, dft, ⟨some ⟨g, off, none⟩, rn, rc, rl⟩⟩) 29) (.cells (row3 ⟨⟨ka', kn, kc', kd'⟩, dft', ⟨some ⟨g', off', none⟩, rn, rc', rl'⟩⟩) 29) w1) => And.intro (cell3 (s := ⟨⟨ka, kn, kc, kd⟩, dft, ⟨some ⟨g, off, none⟩, rn, rc, rl⟩⟩) hb.one) (cell3 (s := ⟨⟨ka', kn, kc', kd'⟩, dft', ⟨some ⟨g', off', none⟩, rn, rc', rl'⟩⟩) hb.two))
                obtain ⟨x, hx⟩ : ∃ x, x = rl q := ⟨_, rfl⟩
                obtain ⟨y, hy⟩ : ∃ y, y = rl' q := ⟨_, rfl⟩
                rw [← hx] at HL1 HCL HE HF
                rw [← hy] at HL2 HCL HE HF
                obtain ⟨bq, hbq⟩ : ∃ q, q = sameR x y := ⟨_, rfl⟩
                rw [← hbq] at HCL HE HF
                clear hx hy hbq hA1 hA2
                cases bq
                · obtain ⟨⟨p0, p1, p2⟩, ⟨r0, r1, r2⟩⟩ := HX.out wr HBX.out
                  dsimp only at p0 p1 p2 r0 r1 r2
                  go_wp2
                  refine wp_region_held_drew (S := fun w' => Bx2 w (.cells (row3 ⟨⟨ka, kn, kc, kd⟩, dft, ⟨some ⟨g, off, none⟩, rn, rc, rl⟩⟩) 29) (.cells (row3 ⟨⟨ka', kn, kc', kd'⟩, dft', ⟨some ⟨g', off', none⟩, rn, rc', rl'⟩⟩) 29) w') (by kernel_rfl) HBX.out.drew (fun hHeld => ?_)
                  refine wpAnyH_take (i := 0) (oi := { dst := some 55, op := Op.fieldAddr 29 (Operand.tmp 2) 2, type := 0, pos := "ref.go:159", after := #[], guard := none }) (v := ?_) rfl (by kernel_rfl) (by kernel_rfl) (by kernel_rfl) (fun _ _ _ h => h) (Or.inl ⟨by rfl, ?_⟩) (by assumption) ?_
                  rotate_left
                  · (intro w hSw; (try dsimp only at hSw); go_simp; try with_reducible rfl)
                  try simp only [Act.put, List.setIfInBounds_toArray, List.set_cons_zero, List.set_cons_succ]
                  refine wpAnyH_take (i := 1) (oi := { dst := some 56, op := Op.load 27 (Operand.tmp 55), type := 27, pos := "ref.go:159", after := #[{ on := 0, ground := Ground.data }], guard := none }) (v := ?_) rfl (by kernel_rfl) (by kernel_rfl) (by kernel_rfl) (fun _ _ _ h => h) (Or.inl ⟨by rfl, ?_⟩) (by assumption) ?_
                  rotate_left
                  · (intro w' hSw; obtain ⟨⟨x0, x1, x2⟩, ⟨y0, y1, y2⟩⟩ := HX.out w' hSw; (try dsimp only at x0 x1 x2 y0 y1 y2); go_simp; try with_reducible rfl)
                  try simp only [Act.put, List.setIfInBounds_toArray, List.set_cons_zero, List.set_cons_succ]
                  refine wpAnyH_take (i := 2) (oi := { dst := some 57, op := Op.move (Operand.tmp 6), type := 3, pos := "ref.go:159", after := #[], guard := none }) (v := ?_) rfl (by kernel_rfl) (by kernel_rfl) (by kernel_rfl) (fun _ _ _ h => h) (Or.inl ⟨by rfl, ?_⟩) (by assumption) ?_
                  rotate_left
                  · (intro w hSw; (try dsimp only at hSw); go_simp; try with_reducible rfl)
                  try simp only [Act.put, List.setIfInBounds_toArray, List.set_cons_zero, List.set_cons_succ]
                  refine wpAnyH_take (i := 3) (oi := { dst := some 58, op := Op.indexAddr 27 (Operand.tmp 56) (Operand.tmp 57), type := 0, pos := "ref.go:159", after := #[{ on := 1, ground := Ground.data }, { on := 2, ground := Ground.data }], guard := none }) (v := ?_) rfl (by kernel_rfl) (by kernel_rfl) (by kernel_rfl) (fun _ _ _ h => h) (Or.inl ⟨by rfl, ?_⟩) (by assumption) ?_
                  rotate_left
                  · (intro w hSw; (try dsimp only at hSw); go_simp; try with_reducible rfl)
                  try simp only [Act.put, List.setIfInBounds_toArray, List.set_cons_zero, List.set_cons_succ]
                  refine wpAnyH_take (i := 4) (oi := { dst := some 59, op := Op.load 43 (Operand.tmp 58), type := 43, pos := "ref.go:159", after := #[{ on := 3, ground := Ground.data }], guard := none }) (v := ruleV x) rfl (by kernel_rfl) (by kernel_rfl) (by kernel_rfl) (fun _ _ _ h => h) (Or.inl ⟨by rfl, ?_⟩) (by assumption) ?_
                  · exact fun w' hSw => exec_load42 (.tmp 58) rfl g (off + q * 22) rfl x (HL1.out w' hSw)
                  try simp only [Act.put, List.setIfInBounds_toArray, List.set_cons_zero, List.set_cons_succ]
                  refine wpAnyH_take (i := 5) (oi := { dst := some 60, op := Op.fieldAddr 29 (Operand.tmp 3) 2, type := 0, pos := "ref.go:159", after := #[], guard := none }) (v := ?_) rfl (by kernel_rfl) (by kernel_rfl) (by kernel_rfl) (fun _ _ _ h => h) (Or.inl ⟨by rfl, ?_⟩) (by assumption) ?_
                  rotate_left
                  · (intro w hSw; (try dsimp only at hSw); go_simp; try with_reducible rfl)
                  try simp only [Act.put, List.setIfInBounds_toArray, List.set_cons_zero, List.set_cons_succ]
                  refine wpAnyH_take (i := 6) (oi := { dst := some 61, op := Op.load 27 (Operand.tmp 60), type := 27, pos := "ref.go:159", after := #[{ on := 5, ground := Ground.data }], guard := none }) (v := ?_) rfl (by kernel_rfl) (by kernel_rfl) (by kernel_rfl) (fun _ _ _ h => h) (Or.inl ⟨by rfl, ?_⟩) (by assumption) ?_
                  rotate_left
                  · (intro w' hSw; obtain ⟨⟨x0, x1, x2⟩, ⟨y0, y1, y2⟩⟩ := HX.out w' hSw; (try dsimp only at x0 x1 x2 y0 y1 y2); go_simp; try with_reducible rfl)
                  try simp only [Act.put, List.setIfInBounds_toArray, List.set_cons_zero, List.set_cons_succ]
                  refine wpAnyH_take (i := 7) (oi := { dst := some 62, op := Op.move (Operand.tmp 6), type := 3, pos := "ref.go:159", after := #[], guard := none }) (v := ?_) rfl (by kernel_rfl) (by kernel_rfl) (by kernel_rfl) (fun _ _ _ h => h) (Or.inl ⟨by rfl, ?_⟩) (by assumption) ?_
                  rotate_left
                  · (intro w hSw; (try dsimp only at hSw); go_simp; try with_reducible rfl)
                  try simp only [Act.put, List.setIfInBounds_toArray, List.set_cons_zero, List.set_cons_succ]
                  refine wpAnyH_take (i := 8) (oi := { dst := some 63, op := Op.indexAddr 27 (Operand.tmp 61) (Operand.tmp 62), type := 0, pos := "ref.go:159", after := #[{ on := 6, ground := Ground.data }, { on := 7, ground := Ground.data }], guard := none }) (v := ?_) rfl (by kernel_rfl) (by kernel_rfl) (by kernel_rfl) (fun _ _ _ h => h) (Or.inl ⟨by rfl, ?_⟩) (by assumption) ?_
                  rotate_left
                  · (intro w hSw; (try dsimp only at hSw); go_simp; try with_reducible rfl)
                  try simp only [Act.put, List.setIfInBounds_toArray, List.set_cons_zero, List.set_cons_succ]
                  refine wpAnyH_take (i := 9) (oi := { dst := some 64, op := Op.load 43 (Operand.tmp 63), type := 43, pos := "ref.go:159", after := #[{ on := 8, ground := Ground.data }], guard := none }) (v := ruleV y) rfl (by kernel_rfl) (by kernel_rfl) (by kernel_rfl) (fun _ _ _ h => h) (Or.inl ⟨by rfl, ?_⟩) (by assumption) ?_
                  · exact fun w' hSw => exec_load42 (.tmp 63) rfl g' (off' + q * 22) rfl y (HL2.out w' hSw)
                  try simp only [Act.put, List.setIfInBounds_toArray, List.set_cons_zero, List.set_cons_succ]
                  refine wpAnyH_ready (rs := [10]) (by kernel_rfl) (by simp) ?_
                  refine AllReadyH.cons (o := { dst := some 65, op := Op.call { callee := Callee.value (Operand.func 43), args := #[Operand.tmp 59, Operand.tmp 64], argTypes := #[43, 43] }, type := 4, pos := "ref.go:159", after := #[{ on := 4, ground := Ground.data }, { on := 9, ground := Ground.data }], guard := none }) rfl (fun K hK => ?_) AllReadyH.nil
                  go_simp
                  refine (HCL.out _ hHeld).mono ?_
                  rintro e w2 ⟨rfl, hb2⟩
                  go_wp2_with fail
                  refine hK.out _ _ ?_ (fun hHeld => ?_)
                  · exact hb2
                  clear hK K
                  try simp only [Act.put, List.setIfInBounds_toArray, List.set_cons_zero, List.set_cons_succ]
                  refine wpAnyH_take (i := 11) (oi := { dst := some 66, op := Op.unOp UnOp.not 4 (Operand.tmp 65), type := 4, pos := "ref.go:159", after := #[{ on := 10, ground := Ground.data }], guard := none }) (v := ?_) rfl (by kernel_rfl) (by kernel_rfl) (by kernel_rfl) (fun _ _ _ h => h) (Or.inl ⟨by rfl, ?_⟩) (by assumption) ?_
                  rotate_left
                  · (intro w hSw; (try dsimp only at hSw); go_simp; try with_reducible rfl)
                  try simp only [Act.put, List.setIfInBounds_toArray, List.set_cons_zero, List.set_cons_succ]
                  refine wpAnyH_done (by kernel_rfl) ?_ _
                  go_wp2
                  go_ret
                  exact ⟨ret_bool (by rw [HB2.out]; exact (HF.out (by first | rfl | trivial)).symm), hb2.out⟩
                · obtain ⟨⟨p0, p1, p2⟩, ⟨r0, r1, r2⟩⟩ := HX.out wr HBX.out
                  dsimp only at p0 p1 p2 r0 r1 r2
                  go_wp2
                  refine wp_region_held_drew (S := fun w' => Bx2 w (.cells (row3 ⟨⟨ka, kn, kc, kd⟩, dft, ⟨some ⟨g, off, none⟩, rn, rc, rl⟩⟩) 29) (.cells (row3 ⟨⟨ka', kn, kc', kd'⟩, dft', ⟨some ⟨g', off', none⟩, rn, rc', rl'⟩⟩) 29) w') (by kernel_rfl) HBX.out.drew (fun hHeld => ?_)
                  refine wpAnyH_take (i := 0) (oi := { dst := some 55, op := Op.fieldAddr 29 (Operand.tmp 2) 2, type := 0, pos := "ref.go:159", after := #[], guard := none }) (v := ?_) rfl (by kernel_rfl) (by kernel_rfl) (by kernel_rfl) (fun _ _ _ h => h) (Or.inl ⟨by rfl, ?_⟩) (by assumption) ?_
                  rotate_left
                  · (intro w hSw; (try dsimp only at hSw); go_simp; try with_reducible rfl)
                  try simp only [Act.put, List.setIfInBounds_toArray, List.set_cons_zero, List.set_cons_succ]
                  refine wpAnyH_take (i := 1) (oi := { dst := some 56, op := Op.load 27 (Operand.tmp 55), type := 27, pos := "ref.go:159", after := #[{ on := 0, ground := Ground.data }], guard := none }) (v := ?_) rfl (by kernel_rfl) (by kernel_rfl) (by kernel_rfl) (fun _ _ _ h => h) (Or.inl ⟨by rfl, ?_⟩) (by assumption) ?_
                  rotate_left
                  · (intro w' hSw; obtain ⟨⟨x0, x1, x2⟩, ⟨y0, y1, y2⟩⟩ := HX.out w' hSw; (try dsimp only at x0 x1 x2 y0 y1 y2); go_simp; try with_reducible rfl)
                  try simp only [Act.put, List.setIfInBounds_toArray, List.set_cons_zero, List.set_cons_succ]
                  refine wpAnyH_take (i := 2) (oi := { dst := some 57, op := Op.move (Operand.tmp 6), type := 3, pos := "ref.go:159", after := #[], guard := none }) (v := ?_) rfl (by kernel_rfl) (by kernel_rfl) (by kernel_rfl) (fun _ _ _ h => h) (Or.inl ⟨by rfl, ?_⟩) (by assumption) ?_
                  rotate_left
                  · (intro w hSw; (try dsimp only at hSw); go_simp; try with_reducible rfl)
                  try simp only [Act.put, List.setIfInBounds_toArray, List.set_cons_zero, List.set_cons_succ]
                  refine wpAnyH_take (i := 3) (oi := { dst := some 58, op := Op.indexAddr 27 (Operand.tmp 56) (Operand.tmp 57), type := 0, pos := "ref.go:159", after := #[{ on := 1, ground := Ground.data }, { on := 2, ground := Ground.data }], guard := none }) (v := ?_) rfl (by kernel_rfl) (by kernel_rfl) (by kernel_rfl) (fun _ _ _ h => h) (Or.inl ⟨by rfl, ?_⟩) (by assumption) ?_
                  rotate_left
                  · (intro w hSw; (try dsimp only at hSw); go_simp; try with_reducible rfl)
                  try simp only [Act.put, List.setIfInBounds_toArray, List.set_cons_zero, List.set_cons_succ]
                  refine wpAnyH_take (i := 4) (oi := { dst := some 59, op := Op.load 43 (Operand.tmp 58), type := 43, pos := "ref.go:159", after := #[{ on := 3, ground := Ground.data }], guard := none }) (v := ruleV x) rfl (by kernel_rfl) (by kernel_rfl) (by kernel_rfl) (fun _ _ _ h => h) (Or.inl ⟨by rfl, ?_⟩) (by assumption) ?_
                  · exact fun w' hSw => exec_load42 (.tmp 58) rfl g (off + q * 22) rfl x (HL1.out w' hSw)
                  try simp only [Act.put, List.setIfInBounds_toArray, List.set_cons_zero, List.set_cons_succ]
                  refine wpAnyH_take (i := 5) (oi := { dst := some 60, op := Op.fieldAddr 29 (Operand.tmp 3) 2, type := 0, pos := "ref.go:159", after := #[], guard := none }) (v := ?_) rfl (by kernel_rfl) (by kernel_rfl) (by kernel_rfl) (fun _ _ _ h => h) (Or.inl ⟨by rfl, ?_⟩) (by assumption) ?_
                  rotate_left
                  · (intro w hSw; (try dsimp only at hSw); go_simp; try with_reducible rfl)
                  try simp only [Act.put, List.setIfInBounds_toArray, List.set_cons_zero, List.set_cons_succ]
                  refine wpAnyH_take (i := 6) (oi := { dst := some 61, op := Op.load 27 (Operand.tmp 60), type := 27, pos := "ref.go:159", after := #[{ on := 5, ground := Ground.data }], guard := none }) (v := ?_) rfl (by kernel_rfl) (by kernel_rfl) (by kernel_rfl) (fun _ _ _ h => h) (Or.inl ⟨by rfl, ?_⟩) (by assumption) ?_
                  rotate_left
                  · (intro w' hSw; obtain ⟨⟨x0, x1, x2⟩, ⟨y0, y1, y2⟩⟩ := HX.out w' hSw; (try dsimp only at x0 x1 x2 y0 y1 y2); go_simp; try with_reducible rfl)
                  try simp only [Act.put, List.setIfInBounds_toArray, List.set_cons_zero, List.set_cons_succ]
                  refine wpAnyH_take (i := 7) (oi := { dst := some 62, op := Op.move (Operand.tmp 6), type := 3, pos := "ref.go:159", after := #[], guard := none }) (v := ?_) rfl (by kernel_rfl) (by kernel_rfl) (by kernel_rfl) (fun _ _ _ h => h) (Or.inl ⟨by rfl, ?_⟩) (by assumption) ?_
                  rotate_left
                  · (intro w hSw; (try dsimp only at hSw); go_simp; try with_reducible rfl)
                  try simp only [Act.put, List.setIfInBounds_toArray, List.set_cons_zero, List.set_cons_succ]
                  refine wpAnyH_take (i := 8) (oi := { dst := some 63, op := Op.indexAddr 27 (Operand.tmp 61) (Operand.tmp 62), type := 0, pos := "ref.go:159", after := #[{ on := 6, ground := Ground.data }, { on := 7, ground := Ground.data }], guard := none }) (v := ?_) rfl (by kernel_rfl) (by kernel_rfl) (by kernel_rfl) (fun _ _ _ h => h) (Or.inl ⟨by rfl, ?_⟩) (by assumption) ?_
                  rotate_left
                  · (intro w hSw; (try dsimp only at hSw); go_simp; try with_reducible rfl)
                  try simp only [Act.put, List.setIfInBounds_toArray, List.set_cons_zero, List.set_cons_succ]
                  refine wpAnyH_take (i := 9) (oi := { dst := some 64, op := Op.load 43 (Operand.tmp 63), type := 43, pos := "ref.go:159", after := #[{ on := 8, ground := Ground.data }], guard := none }) (v := ruleV y) rfl (by kernel_rfl) (by kernel_rfl) (by kernel_rfl) (fun _ _ _ h => h) (Or.inl ⟨by rfl, ?_⟩) (by assumption) ?_
                  · exact fun w' hSw => exec_load42 (.tmp 63) rfl g' (off' + q * 22) rfl y (HL2.out w' hSw)
                  try simp only [Act.put, List.setIfInBounds_toArray, List.set_cons_zero, List.set_cons_succ]
                  refine wpAnyH_ready (rs := [10]) (by kernel_rfl) (by simp) ?_
                  refine AllReadyH.cons (o := { dst := some 65, op := Op.call { callee := Callee.value (Operand.func 43), args := #[Operand.tmp 59, Operand.tmp 64], argTypes := #[43, 43] }, type := 4, pos := "ref.go:159", after := #[{ on := 4, ground := Ground.data }, { on := 9, ground := Ground.data }], guard := none }) rfl (fun K hK => ?_) AllReadyH.nil
                  go_simp
                  refine (HCL.out _ hHeld).mono ?_
                  rintro e w2 ⟨rfl, hb2⟩
                  go_wp2_with fail
                  refine hK.out _ _ ?_ (fun hHeld => ?_)
                  · exact hb2
                  clear hK K
                  try simp only [Act.put, List.setIfInBounds_toArray, List.set_cons_zero, List.set_cons_succ]
                  refine wpAnyH_take (i := 11) (oi := { dst := some 66, op := Op.unOp UnOp.not 4 (Operand.tmp 65), type := 4, pos := "ref.go:159", after := #[{ on := 10, ground := Ground.data }], guard := none }) (v := ?_) rfl (by kernel_rfl) (by kernel_rfl) (by kernel_rfl) (fun _ _ _ h => h) (Or.inl ⟨by rfl, ?_⟩) (by assumption) ?_
                  rotate_left
                  · (intro w hSw; (try dsimp only at hSw); go_simp; try with_reducible rfl)
                  try simp only [Act.put, List.setIfInBounds_toArray, List.set_cons_zero, List.set_cons_succ]
                  refine wpAnyH_done (by kernel_rfl) ?_ _
                  go_wp2
                  go_roundw
                  case rel => exact ⟨q + 1, by omega, by go_num, HE, Lib.hid hb2⟩
                  case measure => simp [intOf]; omega
              · obtain rfl : rn = q := by omega
                obtain ⟨⟨x0, x1, x2⟩, ⟨y0, y1, y2⟩⟩ := And.intro (cell3 (s := ⟨⟨ka, kn, kc, kd⟩, dft, ⟨ra, rn, rc, rl⟩⟩) HBX.out.one) (cell3 (s := ⟨⟨ka', kn, kc', kd'⟩, dft', ⟨ra', rn, rc', rl'⟩⟩) HBX.out.two)
                dsimp only at x0 x1 x2 y0 y1 y2
                go_wp2
                go_ret
                exact ⟨ret_bool (by rw [HB2.out, HQ.out]), HBX.out.out⟩
      · have hn2 : ((rn : Int) == (rn' : Int)) = false := by simp; omega
        obtain rfl : b = false := by rw [hb, decide_eq_false hnr, Bool.false_and, Bool.and_false]
        clear hb H H' HR HR' HC
        go_enter Tryz.func18, Tryz.ntmps18
        go_wp2
        go_ret
        exact ⟨rfl, alloc2_below _ _ _⟩
    · have hn2 : ((kn : Int) == (kn' : Int)) = false := by simp; omega
      obtain rfl : b = false := by rw [hb, decide_eq_false hn]; rfl
      clear hb H H' HR HR' HC
      go_enter Tryz.func18, Tryz.ntmps18
      go_wp2
      go_ret
      exact ⟨rfl, alloc2_below _ _ _⟩
end Go.Proofs.YtnfchlkdppblfaaGreatDoor
/- The law's own same of layer 6. -/
namespace Go.Proofs.YtnfchlkdppblfaaGreatDoor
open Go.RowKit Go
theorem spprint_form (s : Sp) : ∃ S c, spprintV s = .tuple #[.string S, .int .i64 c] := by
  unfold spprintV; split
  · exact ⟨_, _, rfl⟩
  · exact ⟨_, _, rfl⟩
theorem keepS {w w1 : World} {s t : Sp} (h : Bx2 w (.cells (row3 s) 29) (.cells (row3 t) 29) w1) : Bx2 w (.cells (row3 s) 29) (.cells (row3 t) 29) w1 ∧ w1.cell? ⟨w.heap.size, 0, none⟩ = some (.slice s.cs.a s.cs.n s.cs.cap) ∧ w1.cell? ⟨w.heap.size, 1, none⟩ = some (.bool s.dft) ∧ w1.cell? ⟨w.heap.size, 2, none⟩ = some (.slice s.rs.a s.rs.n s.rs.cap) ∧
    w1.cell? ⟨w.heap.size + 1, 0, none⟩ = some (.slice t.cs.a t.cs.n t.cs.cap) ∧ w1.cell? ⟨w.heap.size + 1, 1, none⟩ = some (.bool t.dft) ∧ w1.cell? ⟨w.heap.size + 1, 2, none⟩ = some (.slice t.rs.a t.rs.n t.rs.cap) := by
  obtain ⟨a0, a1, a2⟩ := cell3 h.one
  obtain ⟨b0, b1, b2⟩ := cell3 h.two
  exact ⟨h, a0, a1, a2, b0, b1, b2⟩
set_option maxRecDepth 100000 in
set_option maxHeartbeats 16000000 in
theorem spsameLaw_any (s t : Sp) (i c : Int) (w : World) (h : SpIn w s) (h' : SpIn w t) (hc : Sm s.rs) : Calls Tryz.prog 12 #[specV s, specV t, .int .i64 i, .int .i64 c] w fun e w' => e = .returned (.bool true) ∧ Below w.heap.size w w' := by
  obtain ⟨S, c0, hpv⟩ := spprint_form s
  have H1 : Hid (∀ w1, Bx2 w (.cells (row3 s) 29) (.cells (row3 t) 29) w1 → Calls Tryz.prog 16 #[specV s] w1 fun e w' => e = .returned (.tuple #[.string S, .int .i64 c0]) ∧ Bx2 w (.cells (row3 s) 29) (.cells (row3 t) 29) w') := Lib.hid fun w1 hb => (hpv ▸ spprint_any s w1 (h.now hb.out) hc).mono fun e w' q => ⟨q.1, hb.to q.2⟩
  have H2 : Hid (∀ w1, Bx2 w (.cells (row3 s) 29) (.cells (row3 t) 29) w1 → Calls Tryz.prog 31 #[specV s] w1 fun e w' => e = .returned (.tuple #[.string S, .int .i64 c0]) ∧ Bx2 w (.cells (row3 s) 29) (.cells (row3 t) 29) w') := Lib.hid fun w1 hb => (hpv ▸ refspprint_any s w1 (h.now hb.out)).mono fun e w' q => ⟨q.1, hb.to q.2⟩
  obtain ⟨b1, hb1⟩ : ∃ b, b = specB s := ⟨_, rfl⟩
  obtain ⟨b2, hb2⟩ : ∃ b, b = sameS s t := ⟨_, rfl⟩
  obtain ⟨b3, hb3⟩ : ∃ b, b = activeB s i c := ⟨_, rfl⟩
  have H3 : Hid (∀ w1, Bx2 w (.cells (row3 s) 29) (.cells (row3 t) 29) w1 → Calls Tryz.prog 13 #[specV s] w1 fun e w' => e = .returned (.bool b1) ∧ Bx2 w (.cells (row3 s) 29) (.cells (row3 t) 29) w') := Lib.hid fun w1 hb => (hb1 ▸ spright_any s w1 (h.now hb.out) hc).mono fun e w' q => ⟨q.1, hb.to q.2⟩
  have H4 : Hid (∀ w1, Bx2 w (.cells (row3 s) 29) (.cells (row3 t) 29) w1 → Calls Tryz.prog 32 #[specV s] w1 fun e w' => e = .returned (.bool b1) ∧ Bx2 w (.cells (row3 s) 29) (.cells (row3 t) 29) w') := Lib.hid fun w1 hb => (hb1 ▸ refspright_any s w1 (h.now hb.out)).mono fun e w' q => ⟨q.1, hb.to q.2⟩
  have H5 : Hid (∀ w1, Bx2 w (.cells (row3 s) 29) (.cells (row3 t) 29) w1 → Calls Tryz.prog 30 #[specV s, specV t] w1 fun e w' => e = .returned (.bool b2) ∧ Bx2 w (.cells (row3 s) 29) (.cells (row3 t) 29) w') := Lib.hid fun w1 hb => (hb2 ▸ spsame_any s t w1 (h.now hb.out) (h'.now hb.out) hc).mono fun e w' q => ⟨q.1, hb.to q.2⟩
  have H6 : Hid (∀ w1, Bx2 w (.cells (row3 s) 29) (.cells (row3 t) 29) w1 → Calls Tryz.prog 18 #[specV s, specV t] w1 fun e w' => e = .returned (.bool b2) ∧ Bx2 w (.cells (row3 s) 29) (.cells (row3 t) 29) w') := Lib.hid fun w1 hb => (hb2 ▸ refspsame_any s t w1 (h.now hb.out) (h'.now hb.out)).mono fun e w' q => ⟨q.1, hb.to q.2⟩
  have H7 : Hid (∀ w1, Bx2 w (.cells (row3 s) 29) (.cells (row3 t) 29) w1 → Calls Tryz.prog 29 #[specV s, .int .i64 i, .int .i64 c] w1 fun e w' => e = .returned (.bool b3) ∧ Bx2 w (.cells (row3 s) 29) (.cells (row3 t) 29) w') := Lib.hid fun w1 hb => (hb3 ▸ active_any s i c w1 (h.now hb.out)).mono fun e w' q => ⟨q.1, hb.to q.2⟩
  have H8 : Hid (∀ w1, Bx2 w (.cells (row3 s) 29) (.cells (row3 t) 29) w1 → Calls Tryz.prog 33 #[specV s, .int .i64 i, .int .i64 c] w1 fun e w' => e = .returned (.bool b3) ∧ Bx2 w (.cells (row3 s) 29) (.cells (row3 t) 29) w') := Lib.hid fun w1 hb => (hb3 ▸ refactive_any s i c w1 (h.now hb.out)).mono fun e w' q => ⟨q.1, hb.to q.2⟩
  clear h h' hc hpv hb1 hb2 hb3
  go_enter Tryz.func12, Tryz.ntmps12
  go_wp2_with (first
    | (go_at_call 16; refine (H1.out _ (Bx2.refl w _ _)).mono ?_; rintro e w1 ⟨rfl, hb1⟩; obtain ⟨_, a0, a1, a2, d0, d1, d2⟩ := keepS hb1)
    | (go_at_call 31; refine (H2.out _ hb1).mono ?_; rintro e w2 ⟨rfl, hb2⟩; clear a0 a1 a2 d0 d1 d2))
  obtain ⟨_, a0, a1, a2, d0, d1, d2⟩ := keepS hb2
  go_region_held3 (fun w' => Bx2 w (.cells (row3 s) 29) (.cells (row3 t) 29) w' ∧ w'.cell? ⟨w.heap.size, 0, none⟩ = some (.slice s.cs.a s.cs.n s.cs.cap) ∧ w'.cell? ⟨w.heap.size, 1, none⟩ = some (.bool s.dft) ∧ w'.cell? ⟨w.heap.size, 2, none⟩ = some (.slice s.rs.a s.rs.n s.rs.cap) ∧ w'.cell? ⟨w.heap.size + 1, 0, none⟩ = some (.slice t.cs.a t.cs.n t.cs.cap) ∧ w'.cell? ⟨w.heap.size + 1, 1, none⟩ = some (.bool t.dft) ∧ w'.cell? ⟨w.heap.size + 1, 2, none⟩ = some (.slice t.rs.a t.rs.n t.rs.cap))
    ((refine keepS ?_; first | assumption | exact hb2.drew))
    (first
      | (go_at_call 13; go_split_ands; refine (H3.out _ ?_).mono ?_; assumption; rintro e wz ⟨rfl, hBz⟩)
      | (go_at_call 32; go_split_ands; refine (H4.out _ ?_).mono ?_; assumption; rintro e wz ⟨rfl, hBz⟩)
      | (go_at_call 30; go_split_ands; refine (H5.out _ ?_).mono ?_; assumption; rintro e wz ⟨rfl, hBz⟩)
      | (go_at_call 18; go_split_ands; refine (H6.out _ ?_).mono ?_; assumption; rintro e wz ⟨rfl, hBz⟩)
      | (go_at_call 29; go_split_ands; refine (H7.out _ ?_).mono ?_; assumption; rintro e wz ⟨rfl, hBz⟩)
      | (go_at_call 33; go_split_ands; refine (H8.out _ ?_).mono ?_; assumption; rintro e wz ⟨rfl, hBz⟩))
  go_wp2
  go_ret
  exact ⟨rfl, hBz.out⟩
end Go.Proofs.YtnfchlkdppblfaaGreatDoor
