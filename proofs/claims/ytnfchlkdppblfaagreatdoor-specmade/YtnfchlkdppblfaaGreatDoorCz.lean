/- The document's Right of layer 6. -/
import Derived.Test.YtnfchlkdppblfaaGreatDoorCy
import Derived.Test.YtnfchlkdppblfaaGreatDoorCo
import Derived.Test.YtnfchlkdppblfaaGreatDoorCf
import Derived.BigQuiet
namespace Go.Proofs.YtnfchlkdppblfaaGreatDoor
open Go.RowKit Go
set_option maxRecDepth 100000 in
set_option maxHeartbeats 16000000 in
theorem refspright_any (s : Sp) (w : World) (h : SpIn w s) : Calls Tryz.prog 32 #[specV s] w fun e w' => e = .returned (.bool (specB s)) ∧ Below w.heap.size w w' := by
  obtain ⟨⟨ka, kn, kc, kd⟩, dft, ⟨ra, rn, rc, rl⟩⟩ := s
  have hk1 := h.1.1
  have hk2 := h.1.2.1
  have hr1 := h.2.1
  have hr2 := h.2.2.1
  have HKA := Lib.hid h.1.2.2.1
  have HKN := Lib.hid h.1.2.2.2
  have HRU : Hid (1 ≤ kn → ∀ i, i < rn → ∀ o w1, Bx w o w1 → Calls Tryz.prog 63 #[ruleV (rl i), .int .i64 kn] w1 fun e w' => e = .returned (.bool (ruleB (rl i) kn)) ∧ Bx w o w') := Lib.hid fun hk i hi o w1 hb => (refrule_any (rl i) kn w1 hk ((h.2.2.2.2 i hi).now hb.out)).mono fun e w' q => ⟨q.1, hb.to q.2⟩
  have HRA := Lib.hid h.2.2.2.1
  clear h
  dsimp only at hk1 hk2 hr1 hr2 HKA HKN HRA
  unfold maxLen at hk2 hr2
  obtain ⟨b, hb⟩ : ∃ b, b = specB ⟨⟨ka, kn, kc, kd⟩, dft, ⟨ra, rn, rc, rl⟩⟩ := ⟨_, rfl⟩
  rw [← hb]
  unfold specB condsB at hb
  dsimp only at hb
  by_cases h1 : 1 ≤ kn
  · have n1 : ¬ (kn : Int) < 1 := by omega
    by_cases h8 : kn ≤ 8
    · have n8 : ¬ (8 : Int) < (kn : Int) := by omega
      rw [decide_eq_true h1, decide_eq_true h8, Bool.true_and, Bool.true_and] at hb
      have HRU := Lib.hid (HRU.out h1)
      obtain ⟨g, off, rfl, hg, hc⟩ := HKA.out (by omega)
      have c0 : ∀ o, (w.alloc o).cell? ⟨g, off, none⟩ = some (.string (kd 0).nm) := fun o => by simpa using ((hc 0 (by omega)).below hg (alloc_below w o)).1
      have c1 : ∀ o, (w.alloc o).cell? ⟨g, off + 1, none⟩ = some (.bool (kd 0).ex) := fun o => by simpa using ((hc 0 (by omega)).below hg (alloc_below w o)).2
      have HC := Lib.hid hc
      clear hc HKA
      cases hq : ((kd 0).nm.toList == [73, 78, 73, 84, 73, 65, 76])
      · obtain rfl : b = false := by rw [hb]; unfold initC; rw [hq]; rfl
        clear hb HRU HRA
        go_enter Tryz.func32, Tryz.ntmps32
        go_wp2
        go_ret
        exact ⟨rfl, alloc_below _ _⟩
      · cases hx : (kd 0).ex
        · rw [hx] at c1
          by_cases h40 : rn ≤ 40
          · have n40 : ¬ (40 : Int) < (rn : Int) := by omega
            have HB := Lib.hid (show b = (namesB kd kn && rulesB rl kn rn) by rw [hb]; unfold initC; rw [hq, hx, decide_eq_true h40]; rfl)
            clear hb
            go_enter Tryz.func32, Tryz.ntmps32
            go_wp2
            clear c0 c1 hq hx n1 n8 n40
            go_loopw [3] (fun i wr => ∃ j : Nat, j ≤ kn ∧ i = .int .i64 j ∧ Hid (namesB kd j = true) ∧ ∃ kk, wr = (w.alloc (.cells (row3 ⟨⟨some ⟨g, off, none⟩, kn, kc, kd⟩, dft, ⟨ra, rn, rc, rl⟩⟩) 29)).drewN kk) (fun i _ => kn - (intOf i).toNat)
            case atStart => exact ⟨0, by omega, rfl, Lib.hid rfl, 0, rfl⟩
            case round =>
              obtain ⟨j, hj, rfl, HA, kk, rfl⟩ := hrel
              by_cases hlt : j < kn
              · have hlt' : (j : Int) < (kn : Int) := by omega
                obtain ⟨x, hx⟩ : ∃ x, x = (kd j).nm := ⟨_, rfl⟩
                have c0 : ∀ o, (w.alloc o).cell? ⟨g, off + j * 2, none⟩ = some (.string x) := fun o => by rw [hx]; exact ((HC.out j hlt).below hg (alloc_below w o)).1
                have HXN := Lib.hid (show x.size ≤ maxLen by rw [hx]; exact HKN.out j hlt)
                have HNM : Hid (∀ w1, Calls Tryz.prog 25 #[.string x] w1 fun e w' => e = .returned (.bool (nameB x)) ∧ ∃ k, w' = w1.drewN k) := Lib.hid fun w1 => refname_any x w1 HXN.out
                have HS := Lib.hid (show namesB kd (j + 1) = (nameB x && !namedB kd x j) by
                  show (namesB kd j && (nameB (kd j).nm && !namedB kd (kd j).nm j)) = _
                  rw [HA.out, hx]; rfl)
                have HF := Lib.hid (fun (q : (nameB x && !namedB kd x j) = false) => show b = false by
                  rw [HB.out, show namesB kd kn = false from allTo_not (p := fun i => nameB (kd i).nm && !namedB kd (kd i).nm i) hlt (by show (nameB (kd j).nm && !namedB kd (kd j).nm j) = false; rw [← hx]; exact q)]; rfl)
                have HX := Lib.hid hx
                clear hx
                cases hnm : nameB x
                · have HZ := Lib.hid (HF.out (by rw [hnm]; rfl))
                  rw [hnm] at HNM
                  clear HS HF
                  go_wp2_with (first | (go_at_call 25; refine (HNM.out _).mono ?_; rintro e w1 ⟨rfl, k1, rfl⟩))
                  go_ret
                  exact ⟨ret_bool HZ.out.symm, by first | exact below_drewN (alloc_below _ _) _ | exact below_drewN (below_drewN (alloc_below _ _) _) _ | exact below_drewN (below_drewN (below_drewN (alloc_below _ _) _) _) _⟩
                · rw [hnm] at HNM
                  have HS2 := Lib.hid (show namesB kd (j + 1) = !namedB kd x j by rw [HS.out, hnm]; rfl)
                  have HF2 := Lib.hid (fun (q : namedB kd x j = true) => HF.out (by rw [hnm, q]; rfl))
                  clear HS HF hnm
                  go_wp2_with (first | (go_at_call 25; refine (HNM.out _).mono ?_; rintro e w1 ⟨rfl, k1, rfl⟩))
                  clear HNM
                  go_loopw [4] (fun i wr => ∃ q : Nat, q ≤ j ∧ i = .int .i64 q ∧ Hid (namedB kd x q = false) ∧ ∃ kk, wr = (w.alloc (.cells (row3 ⟨⟨some ⟨g, off, none⟩, kn, kc, kd⟩, dft, ⟨ra, rn, rc, rl⟩⟩) 29)).drewN kk) (fun i _ => j - (intOf i).toNat)
                  case atStart => exact ⟨0, by omega, rfl, Lib.hid rfl, _, rfl⟩
                  case round =>
                    obtain ⟨q, hq, rfl, HQ, kk2, rfl⟩ := hrel
                    by_cases hlq : q < j
                    · have hlq' : (q : Int) < (j : Int) := by omega
                      have hqn : (q : Int) < (kn : Int) := by omega
                      obtain ⟨y, hy⟩ : ∃ y, y = (kd q).nm := ⟨_, rfl⟩
                      have d0 : ∀ o, (w.alloc o).cell? ⟨g, off + q * 2, none⟩ = some (.string y) := fun o => by rw [hy]; exact ((HC.out q (by omega)).below hg (alloc_below w o)).1
                      have HY := Lib.hid hy
                      clear hy
                      cases hyx : (y.toList == x.toList)
                      · have HZ := Lib.hid (show namedB kd x (q + 1) = false by
                          show (namedB kd x q || ((kd q).nm.toList == x.toList)) = false
                          rw [HQ.out, ← HY.out, hyx]; rfl)
                        clear HF2 HS2
                        go_wp2
                        go_quiet (fail)
                        go_wp2
                        go_roundw
                        case rel => exact ⟨q + 1, by omega, by go_num, HZ, _, rfl⟩
                        case measure => simp [intOf]; omega
                      · have HZ := Lib.hid (HF2.out (anyTo_yes (p := fun i => (kd i).nm.toList == x.toList) hlq (by show ((kd q).nm.toList == x.toList) = true; rw [← HY.out]; exact hyx)))
                        clear HF2 HS2
                        go_wp2
                        go_quiet (fail)
                        go_wp2
                        go_ret
                        exact ⟨ret_bool HZ.out.symm, by first | exact below_drewN (alloc_below _ _) _ | exact below_drewN (below_drewN (alloc_below _ _) _) _ | exact below_drewN (below_drewN (below_drewN (alloc_below _ _) _) _) _⟩
                    · have hlq' : ¬ (q : Int) < (j : Int) := by omega
                      obtain rfl : q = j := by omega
                      have HZ := Lib.hid (show namesB kd (q + 1) = true by rw [HS2.out, HQ.out]; rfl)
                      clear HF2 HS2 c0
                      go_wp2
                      go_roundw
                      case rel => exact ⟨q + 1, by omega, by go_num, HZ, _, rfl⟩
                      case measure => simp [intOf]; omega
              · have hlt' : ¬ (j : Int) < (kn : Int) := by omega
                obtain rfl : kn = j := by omega
                have HB2 := Lib.hid (show b = rulesB rl kn rn by rw [HB.out, HA.out]; rfl)
                clear HB HA HC
                go_wp2
                go_loopw [5] (fun i wr => ∃ q : Nat, q ≤ rn ∧ i = .int .i64 q ∧ Hid (rulesB rl kn q = true) ∧ Hid (Bx w (.cells (row3 ⟨⟨some ⟨g, off, none⟩, kn, kc, kd⟩, dft, ⟨ra, rn, rc, rl⟩⟩) 29) wr)) (fun i _ => rn - (intOf i).toNat)
                case atStart => exact ⟨0, by omega, rfl, Lib.hid rfl, Lib.hid ((Bx.refl _ _).drewN _)⟩
                case round =>
                  obtain ⟨q, hq, rfl, HQ, HBX⟩ := hrel
                  by_cases hlq : q < rn
                  · have hlq' : (q : Int) < (rn : Int) := by omega
                    obtain ⟨g', off', rfl, hg', hA1⟩ := HRA.out (by omega)
                    have HL1 : Hid (∀ w1, Bx w (.cells (row3 ⟨⟨some ⟨g, off, none⟩, kn, kc, kd⟩, dft, ⟨some ⟨g', off', none⟩, rn, rc, rl⟩⟩) 29) w1 → (loadCells ⟨g', off' + q * 22, none⟩ (row22 (rl q)).toList.length).run Tryz.prog w1 = .ok (row22 (rl q)).toList.toArray w1) := Lib.hid fun w1 hb => ldAt22 ((hA1 q hlq).below hg' hb.out)
                    have HCL := Lib.hid (HRU.out q hlq (.cells (row3 ⟨⟨some ⟨g, off, none⟩, kn, kc, kd⟩, dft, ⟨some ⟨g', off', none⟩, rn, rc, rl⟩⟩) 29))
                    have HE := Lib.hid (show rulesB rl kn (q + 1) = ruleB (rl q) kn by
                      show (rulesB rl kn q && ruleB (rl q) kn) = _
                      rw [HQ.out]; rfl)
                    have HF := Lib.hid (fun (e : ruleB (rl q) kn = false) => allTo_not (p := fun i => ruleB (rl i) kn) hlq e)
                    have HX := Lib.hid (fun w1 (hb : Bx w (.cells (row3 ⟨⟨some ⟨g, off, none⟩, kn, kc, kd⟩, dft, ⟨some ⟨g', off', none⟩, rn, rc, rl⟩⟩) 29) w1) => (cell3 (s := ⟨⟨some ⟨g, off, none⟩, kn, kc, kd⟩, dft, ⟨some ⟨g', off', none⟩, rn, rc, rl⟩⟩) (box_kept hb)))
                    obtain ⟨x, hx⟩ : ∃ x, x = rl q := ⟨_, rfl⟩
                    rw [← hx] at HL1 HCL HE HF
                    obtain ⟨bq, hbq⟩ : ∃ q, q = ruleB x kn := ⟨_, rfl⟩
                    rw [← hbq] at HCL HE HF
                    clear hx hbq hA1
                    cases bq
                    · obtain ⟨p0, p1, p2⟩ := HX.out wr HBX.out
                      dsimp only at p0 p1 p2
                      go_wp2
                      refine wp_region_held_drew (S := fun w' => Bx w (.cells (row3 ⟨⟨some ⟨g, off, none⟩, kn, kc, kd⟩, dft, ⟨some ⟨g', off', none⟩, rn, rc, rl⟩⟩) 29) w') (by kernel_rfl) HBX.out.drew (fun hHeld => ?_)
                      refine wpAnyH_take (i := 0) (oi := { dst := some 70, op := Op.fieldAddr 29 (Operand.tmp 1) 2, type := 0, pos := "ref.go:47", after := #[], guard := none }) (v := ?_) rfl (by kernel_rfl) (by kernel_rfl) (by kernel_rfl) (fun _ _ _ h => h) (Or.inl ⟨by rfl, ?_⟩) (by assumption) ?_
                      rotate_left
                      · (intro w hSw; (try dsimp only at hSw); go_simp; try with_reducible rfl)
                      try simp only [Act.put, List.setIfInBounds_toArray, List.set_cons_zero, List.set_cons_succ]
                      refine wpAnyH_take (i := 1) (oi := { dst := some 71, op := Op.load 27 (Operand.tmp 70), type := 27, pos := "ref.go:47", after := #[{ on := 0, ground := Ground.data }], guard := none }) (v := ?_) rfl (by kernel_rfl) (by kernel_rfl) (by kernel_rfl) (fun _ _ _ h => h) (Or.inl ⟨by rfl, ?_⟩) (by assumption) ?_
                      rotate_left
                      · (intro w' hSw; obtain ⟨x0, x1, x2⟩ := HX.out w' hSw; (try dsimp only at x0 x1 x2); go_simp; try with_reducible rfl)
                      try simp only [Act.put, List.setIfInBounds_toArray, List.set_cons_zero, List.set_cons_succ]
                      refine wpAnyH_take (i := 2) (oi := { dst := some 72, op := Op.move (Operand.tmp 5), type := 3, pos := "ref.go:47", after := #[], guard := none }) (v := ?_) rfl (by kernel_rfl) (by kernel_rfl) (by kernel_rfl) (fun _ _ _ h => h) (Or.inl ⟨by rfl, ?_⟩) (by assumption) ?_
                      rotate_left
                      · (intro w hSw; (try dsimp only at hSw); go_simp; try with_reducible rfl)
                      try simp only [Act.put, List.setIfInBounds_toArray, List.set_cons_zero, List.set_cons_succ]
                      refine wpAnyH_take (i := 3) (oi := { dst := some 73, op := Op.indexAddr 27 (Operand.tmp 71) (Operand.tmp 72), type := 0, pos := "ref.go:47", after := #[{ on := 1, ground := Ground.data }, { on := 2, ground := Ground.data }], guard := none }) (v := ?_) rfl (by kernel_rfl) (by kernel_rfl) (by kernel_rfl) (fun _ _ _ h => h) (Or.inl ⟨by rfl, ?_⟩) (by assumption) ?_
                      rotate_left
                      · (intro w hSw; (try dsimp only at hSw); go_simp; try with_reducible rfl)
                      try simp only [Act.put, List.setIfInBounds_toArray, List.set_cons_zero, List.set_cons_succ]
                      refine wpAnyH_take (i := 4) (oi := { dst := some 74, op := Op.load 43 (Operand.tmp 73), type := 43, pos := "ref.go:47", after := #[{ on := 3, ground := Ground.data }], guard := none }) (v := ruleV x) rfl (by kernel_rfl) (by kernel_rfl) (by kernel_rfl) (fun _ _ _ h => h) (Or.inl ⟨by rfl, ?_⟩) (by assumption) ?_
                      · exact fun w' hSw => exec_load42 (.tmp 73) rfl g' (off' + q * 22) rfl x (HL1.out w' hSw)
                      try simp only [Act.put, List.setIfInBounds_toArray, List.set_cons_zero, List.set_cons_succ]
                      refine wpAnyH_take (i := 5) (oi := { dst := some 75, op := Op.fieldAddr 29 (Operand.tmp 1) 0, type := 0, pos := "ref.go:47", after := #[], guard := none }) (v := ?_) rfl (by kernel_rfl) (by kernel_rfl) (by kernel_rfl) (fun _ _ _ h => h) (Or.inl ⟨by rfl, ?_⟩) (by assumption) ?_
                      rotate_left
                      · (intro w hSw; (try dsimp only at hSw); go_simp; try with_reducible rfl)
                      try simp only [Act.put, List.setIfInBounds_toArray, List.set_cons_zero, List.set_cons_succ]
                      refine wpAnyH_take (i := 6) (oi := { dst := some 76, op := Op.load 26 (Operand.tmp 75), type := 26, pos := "ref.go:47", after := #[{ on := 5, ground := Ground.data }], guard := none }) (v := ?_) rfl (by kernel_rfl) (by kernel_rfl) (by kernel_rfl) (fun _ _ _ h => h) (Or.inl ⟨by rfl, ?_⟩) (by assumption) ?_
                      rotate_left
                      · (intro w' hSw; obtain ⟨x0, x1, x2⟩ := HX.out w' hSw; (try dsimp only at x0 x1 x2); go_simp; try with_reducible rfl)
                      try simp only [Act.put, List.setIfInBounds_toArray, List.set_cons_zero, List.set_cons_succ]
                      refine wpAnyH_take (i := 7) (oi := { dst := some 77, op := Op.call { callee := Callee.builtin Builtin.len, args := #[Operand.tmp 76], argTypes := #[26] }, type := 3, pos := "ref.go:47", after := #[{ on := 6, ground := Ground.data }], guard := none }) (v := ?_) rfl (by kernel_rfl) (by kernel_rfl) (by kernel_rfl) (fun _ _ _ h => h) (Or.inl ⟨by rfl, ?_⟩) (by assumption) ?_
                      rotate_left
                      · (intro w hSw; (try dsimp only at hSw); go_simp; try with_reducible rfl)
                      try simp only [Act.put, List.setIfInBounds_toArray, List.set_cons_zero, List.set_cons_succ]
                      refine wpAnyH_ready (rs := [8]) (by kernel_rfl) (by simp) ?_
                      refine AllReadyH.cons (o := { dst := some 78, op := Op.call { callee := Callee.value (Operand.func 63), args := #[Operand.tmp 74, Operand.tmp 77], argTypes := #[43, 3] }, type := 4, pos := "ref.go:47", after := #[{ on := 4, ground := Ground.data }, { on := 7, ground := Ground.data }], guard := none }) rfl (fun K hK => ?_) AllReadyH.nil
                      go_simp
                      refine (HCL.out _ hHeld).mono ?_
                      rintro e w2 ⟨rfl, hb2⟩
                      go_wp2_with fail
                      refine hK.out _ _ ?_ (fun hHeld => ?_)
                      · exact hb2
                      clear hK K
                      try simp only [Act.put, List.setIfInBounds_toArray, List.set_cons_zero, List.set_cons_succ]
                      refine wpAnyH_take (i := 9) (oi := { dst := some 79, op := Op.unOp UnOp.not 4 (Operand.tmp 78), type := 4, pos := "ref.go:47", after := #[{ on := 8, ground := Ground.data }], guard := none }) (v := ?_) rfl (by kernel_rfl) (by kernel_rfl) (by kernel_rfl) (fun _ _ _ h => h) (Or.inl ⟨by rfl, ?_⟩) (by assumption) ?_
                      rotate_left
                      · (intro w hSw; (try dsimp only at hSw); go_simp; try with_reducible rfl)
                      try simp only [Act.put, List.setIfInBounds_toArray, List.set_cons_zero, List.set_cons_succ]
                      refine wpAnyH_done (by kernel_rfl) ?_ _
                      go_wp2
                      go_ret
                      exact ⟨ret_bool (by rw [HB2.out]; exact (HF.out (by first | rfl | trivial)).symm), hb2.out⟩
                    · obtain ⟨p0, p1, p2⟩ := HX.out wr HBX.out
                      dsimp only at p0 p1 p2
                      go_wp2
                      refine wp_region_held_drew (S := fun w' => Bx w (.cells (row3 ⟨⟨some ⟨g, off, none⟩, kn, kc, kd⟩, dft, ⟨some ⟨g', off', none⟩, rn, rc, rl⟩⟩) 29) w') (by kernel_rfl) HBX.out.drew (fun hHeld => ?_)
                      refine wpAnyH_take (i := 0) (oi := { dst := some 70, op := Op.fieldAddr 29 (Operand.tmp 1) 2, type := 0, pos := "ref.go:47", after := #[], guard := none }) (v := ?_) rfl (by kernel_rfl) (by kernel_rfl) (by kernel_rfl) (fun _ _ _ h => h) (Or.inl ⟨by rfl, ?_⟩) (by assumption) ?_
                      rotate_left
                      · (intro w hSw; (try dsimp only at hSw); go_simp; try with_reducible rfl)
                      try simp only [Act.put, List.setIfInBounds_toArray, List.set_cons_zero, List.set_cons_succ]
                      refine wpAnyH_take (i := 1) (oi := { dst := some 71, op := Op.load 27 (Operand.tmp 70), type := 27, pos := "ref.go:47", after := #[{ on := 0, ground := Ground.data }], guard := none }) (v := ?_) rfl (by kernel_rfl) (by kernel_rfl) (by kernel_rfl) (fun _ _ _ h => h) (Or.inl ⟨by rfl, ?_⟩) (by assumption) ?_
                      rotate_left
                      · (intro w' hSw; obtain ⟨x0, x1, x2⟩ := HX.out w' hSw; (try dsimp only at x0 x1 x2); go_simp; try with_reducible rfl)
                      try simp only [Act.put, List.setIfInBounds_toArray, List.set_cons_zero, List.set_cons_succ]
                      refine wpAnyH_take (i := 2) (oi := { dst := some 72, op := Op.move (Operand.tmp 5), type := 3, pos := "ref.go:47", after := #[], guard := none }) (v := ?_) rfl (by kernel_rfl) (by kernel_rfl) (by kernel_rfl) (fun _ _ _ h => h) (Or.inl ⟨by rfl, ?_⟩) (by assumption) ?_
                      rotate_left
                      · (intro w hSw; (try dsimp only at hSw); go_simp; try with_reducible rfl)
                      try simp only [Act.put, List.setIfInBounds_toArray, List.set_cons_zero, List.set_cons_succ]
                      refine wpAnyH_take (i := 3) (oi := { dst := some 73, op := Op.indexAddr 27 (Operand.tmp 71) (Operand.tmp 72), type := 0, pos := "ref.go:47", after := #[{ on := 1, ground := Ground.data }, { on := 2, ground := Ground.data }], guard := none }) (v := ?_) rfl (by kernel_rfl) (by kernel_rfl) (by kernel_rfl) (fun _ _ _ h => h) (Or.inl ⟨by rfl, ?_⟩) (by assumption) ?_
                      rotate_left
                      · (intro w hSw; (try dsimp only at hSw); go_simp; try with_reducible rfl)
                      try simp only [Act.put, List.setIfInBounds_toArray, List.set_cons_zero, List.set_cons_succ]
                      refine wpAnyH_take (i := 4) (oi := { dst := some 74, op := Op.load 43 (Operand.tmp 73), type := 43, pos := "ref.go:47", after := #[{ on := 3, ground := Ground.data }], guard := none }) (v := ruleV x) rfl (by kernel_rfl) (by kernel_rfl) (by kernel_rfl) (fun _ _ _ h => h) (Or.inl ⟨by rfl, ?_⟩) (by assumption) ?_
                      · exact fun w' hSw => exec_load42 (.tmp 73) rfl g' (off' + q * 22) rfl x (HL1.out w' hSw)
                      try simp only [Act.put, List.setIfInBounds_toArray, List.set_cons_zero, List.set_cons_succ]
                      refine wpAnyH_take (i := 5) (oi := { dst := some 75, op := Op.fieldAddr 29 (Operand.tmp 1) 0, type := 0, pos := "ref.go:47", after := #[], guard := none }) (v := ?_) rfl (by kernel_rfl) (by kernel_rfl) (by kernel_rfl) (fun _ _ _ h => h) (Or.inl ⟨by rfl, ?_⟩) (by assumption) ?_
                      rotate_left
                      · (intro w hSw; (try dsimp only at hSw); go_simp; try with_reducible rfl)
                      try simp only [Act.put, List.setIfInBounds_toArray, List.set_cons_zero, List.set_cons_succ]
                      refine wpAnyH_take (i := 6) (oi := { dst := some 76, op := Op.load 26 (Operand.tmp 75), type := 26, pos := "ref.go:47", after := #[{ on := 5, ground := Ground.data }], guard := none }) (v := ?_) rfl (by kernel_rfl) (by kernel_rfl) (by kernel_rfl) (fun _ _ _ h => h) (Or.inl ⟨by rfl, ?_⟩) (by assumption) ?_
                      rotate_left
                      · (intro w' hSw; obtain ⟨x0, x1, x2⟩ := HX.out w' hSw; (try dsimp only at x0 x1 x2); go_simp; try with_reducible rfl)
                      try simp only [Act.put, List.setIfInBounds_toArray, List.set_cons_zero, List.set_cons_succ]
                      refine wpAnyH_take (i := 7) (oi := { dst := some 77, op := Op.call { callee := Callee.builtin Builtin.len, args := #[Operand.tmp 76], argTypes := #[26] }, type := 3, pos := "ref.go:47", after := #[{ on := 6, ground := Ground.data }], guard := none }) (v := ?_) rfl (by kernel_rfl) (by kernel_rfl) (by kernel_rfl) (fun _ _ _ h => h) (Or.inl ⟨by rfl, ?_⟩) (by assumption) ?_
                      rotate_left
                      · (intro w hSw; (try dsimp only at hSw); go_simp; try with_reducible rfl)
                      try simp only [Act.put, List.setIfInBounds_toArray, List.set_cons_zero, List.set_cons_succ]
                      refine wpAnyH_ready (rs := [8]) (by kernel_rfl) (by simp) ?_
                      refine AllReadyH.cons (o := { dst := some 78, op := Op.call { callee := Callee.value (Operand.func 63), args := #[Operand.tmp 74, Operand.tmp 77], argTypes := #[43, 3] }, type := 4, pos := "ref.go:47", after := #[{ on := 4, ground := Ground.data }, { on := 7, ground := Ground.data }], guard := none }) rfl (fun K hK => ?_) AllReadyH.nil
                      go_simp
                      refine (HCL.out _ hHeld).mono ?_
                      rintro e w2 ⟨rfl, hb2⟩
                      go_wp2_with fail
                      refine hK.out _ _ ?_ (fun hHeld => ?_)
                      · exact hb2
                      clear hK K
                      try simp only [Act.put, List.setIfInBounds_toArray, List.set_cons_zero, List.set_cons_succ]
                      refine wpAnyH_take (i := 9) (oi := { dst := some 79, op := Op.unOp UnOp.not 4 (Operand.tmp 78), type := 4, pos := "ref.go:47", after := #[{ on := 8, ground := Ground.data }], guard := none }) (v := ?_) rfl (by kernel_rfl) (by kernel_rfl) (by kernel_rfl) (fun _ _ _ h => h) (Or.inl ⟨by rfl, ?_⟩) (by assumption) ?_
                      rotate_left
                      · (intro w hSw; (try dsimp only at hSw); go_simp; try with_reducible rfl)
                      try simp only [Act.put, List.setIfInBounds_toArray, List.set_cons_zero, List.set_cons_succ]
                      refine wpAnyH_done (by kernel_rfl) ?_ _
                      go_wp2
                      go_roundw
                      case rel => exact ⟨q + 1, by omega, by go_num, HE, Lib.hid hb2⟩
                      case measure => simp [intOf]; omega
                  · have hlq' : ¬ (q : Int) < (rn : Int) := by omega
                    obtain rfl : rn = q := by omega
                    obtain ⟨x0, x1, x2⟩ := cell3 (s := ⟨⟨some ⟨g, off, none⟩, kn, kc, kd⟩, dft, ⟨ra, rn, rc, rl⟩⟩) (box_kept HBX.out)
                    dsimp only at x0 x1 x2
                    go_wp2
                    go_ret
                    exact ⟨ret_bool (by rw [HB2.out, HQ.out]), HBX.out.out⟩
          · have n40 : (40 : Int) < (rn : Int) := by omega
            obtain rfl : b = false := by rw [hb, decide_eq_false h40, Bool.false_and, Bool.and_false]
            clear hb HRU HRA
            go_enter Tryz.func32, Tryz.ntmps32
            go_wp2
            go_ret
            exact ⟨rfl, alloc_below _ _⟩
        · obtain rfl : b = false := by rw [hb]; unfold initC; rw [hq, hx]; rfl
          rw [hx] at c1
          clear hb HRU HRA
          go_enter Tryz.func32, Tryz.ntmps32
          go_wp2
          go_ret
          exact ⟨rfl, alloc_below _ _⟩
    · have n8 : (8 : Int) < (kn : Int) := by omega
      obtain rfl : b = false := by rw [hb, decide_eq_false h8, Bool.false_and, Bool.and_false, Bool.false_and]
      clear hb HRU HRA HKA
      go_enter Tryz.func32, Tryz.ntmps32
      go_wp2
      go_ret
      exact ⟨rfl, alloc_below _ _⟩
  · have n1 : (kn : Int) < 1 := by omega
    obtain rfl : b = false := by rw [hb, decide_eq_false h1, Bool.false_and, Bool.false_and]
    clear hb HRU HRA HKA
    go_enter Tryz.func32, Tryz.ntmps32
    go_wp2
    go_ret
    exact ⟨rfl, alloc_below _ _⟩
end Go.Proofs.YtnfchlkdppblfaaGreatDoor
