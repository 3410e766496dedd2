/- The document's none of layer 6. -/
import Derived.Test.YtnfchlkdppblfaaGreatDoorCc
import Derived.Test.YtnfchlkdppblfaaGreatDoorCj
import Derived.Test.YtnfchlkdppblfaaGreatDoorCl
import Derived.Test.YtnfchlkdppblfaaGreatDoorBc
namespace Go.Proofs.YtnfchlkdppblfaaGreatDoor
open Go.RowKit
theorem noneB_eq (t : Tr) : noneB t = ((t.k == 0) && (eqS t.s z0 && ((t.lo == 0) && ((t.hi == 0) && decide (t.n = 0))))) := by
  unfold noneB
  rw [sameT_eq]
  unfold likeB
  have hz : zT.k = 0 ∧ zT.s = z0 ∧ zT.lo = 0 ∧ zT.hi = 0 ∧ zT.n = 0 := ⟨rfl, rfl, rfl, rfl, rfl⟩
  rw [hz.1, hz.2.1, hz.2.2.1, hz.2.2.2.1, hz.2.2.2.2]
  by_cases hn : t.n = 0
  · rw [hn]
    simp [allTo]
    rfl
  · simp [hn]
set_option maxRecDepth 100000 in
set_option maxHeartbeats 2000000 in
theorem refnone_any (t : Tr) (w : World) : Calls Tryz.prog 98 #[t.val] w fun e w' => e = .returned (.bool (noneB t)) ∧ Below w.heap.size w w' := by
  obtain ⟨b, hb⟩ : ∃ b, b = noneB t := ⟨_, rfl⟩
  rw [← hb]
  rw [noneB_eq] at hb
  show Calls Tryz.prog 98 #[nodeV t.k t.s t.lo t.hi (.slice t.a t.n t.cap)] w _
  generalize t.k = k at hb ⊢
  generalize t.s = s at hb ⊢
  generalize t.lo = lo at hb ⊢
  generalize t.hi = hi at hb ⊢
  generalize t.n = n at hb ⊢
  cases hk : (k == 0)
  · obtain rfl : b = false := by rw [hb, hk]; rfl
    clear hb
    go_enter Tryz.func98, Tryz.ntmps98
    go_wp2
    go_ret
    exact ⟨rfl, alloc_below _ _⟩
  · rw [hk, Bool.true_and] at hb
    cases hs : eqS s z0
    · obtain rfl : b = false := by rw [hb, hs]; rfl
      have he : ∀ w, Sem.run Tryz.prog (binOp .eql 38 (SV s) (.agg #[.int .u64 0, .int .u64 0, .int .u64 0, .int .u64 0])) w = .ok (.bool false) w := fun w => eqS_any s z0 hs w
      clear hb hs
      go_enter Tryz.func98, Tryz.ntmps98
      go_wp2
      go_ret
      exact ⟨rfl, alloc_below _ _⟩
    · rw [hs, Bool.true_and] at hb
      have he : ∀ w, Sem.run Tryz.prog (binOp .eql 38 (SV s) (.agg #[.int .u64 0, .int .u64 0, .int .u64 0, .int .u64 0])) w = .ok (.bool true) w := fun w => eqS_any s z0 hs w
      clear hs
      cases hlo : (lo == 0)
      · obtain rfl : b = false := by rw [hb, hlo]; rfl
        clear hb
        go_enter Tryz.func98, Tryz.ntmps98
        go_wp2
        go_ret
        exact ⟨rfl, alloc_below _ _⟩
      · rw [hlo, Bool.true_and] at hb
        cases hhi : (hi == 0)
        · obtain rfl : b = false := by rw [hb, hhi]; rfl
          clear hb
          go_enter Tryz.func98, Tryz.ntmps98
          go_wp2
          go_ret
          exact ⟨rfl, alloc_below _ _⟩
        · rw [hhi, Bool.true_and] at hb
          by_cases hn : n = 0
          · subst hn
            obtain rfl : b = true := by rw [hb]; rfl
            clear hb
            go_enter Tryz.func98, Tryz.ntmps98
            go_wp2
            go_ret
            exact ⟨rfl, alloc_below _ _⟩
          · have hn' : ((n : Int) == 0) = false := by simp; omega
            obtain rfl : b = false := by rw [hb, decide_eq_false hn]
            clear hb
            go_enter Tryz.func98, Tryz.ntmps98
            go_wp2
            go_ret
            exact ⟨rfl, alloc_below _ _⟩
end Go.Proofs.YtnfchlkdppblfaaGreatDoor
/- The document's Active of layer 6. -/
namespace Go.Proofs.YtnfchlkdppblfaaGreatDoor
open Go.RowKit
set_option maxRecDepth 100000 in
set_option maxHeartbeats 4000000 in
theorem refactive_any (s : Sp) (i c : Int) (w : World) (h : SpIn w s) : Calls Tryz.prog 33 #[specV s, .int .i64 i, .int .i64 c] w fun e w' => e = .returned (.bool (activeB s i c)) ∧ Below w.heap.size w w' := by
  obtain ⟨⟨ka, kn, kc, kd⟩, dft, ⟨ra, rn, rc, rl⟩⟩ := s
  have hk1 := h.1.1
  have hk2 := h.1.2.1
  have hr1 := h.2.1
  have hr2 := h.2.2.1
  have HKA := Lib.hid h.1.2.2.1
  have HRA := Lib.hid h.2.2.2.1
  have HRI : Hid (∀ k, k < rn → IntsIn w w.heap.size (rl k).ca (rl k).cn (rl k).cc (rl k).cs) := Lib.hid fun k hk => (h.2.2.2.2 k hk).1
  clear h
  dsimp only at hk1 hk2 hr1 hr2 HRA HKA
  unfold maxLen at hk2 hr2
  obtain ⟨b, hb⟩ : ∃ b, b = activeB ⟨⟨ka, kn, kc, kd⟩, dft, ⟨ra, rn, rc, rl⟩⟩ i c := ⟨_, rfl⟩
  rw [← hb]
  unfold activeB at hb
  dsimp only at hb
  by_cases hi0 : i < 0
  · obtain rfl : b = false := by rw [hb, show ixB i rn = false by unfold ixB; rw [decide_eq_false (by omega)]; rfl]; rfl
    clear hb HRA HKA HRI
    go_enter Tryz.func33, Tryz.ntmps33
    go_wp2
    go_ret
    exact ⟨rfl, alloc_below _ _⟩
  by_cases hi1 : (rn : Int) ≤ i
  · obtain rfl : b = false := by rw [hb, show ixB i rn = false by unfold ixB; rw [decide_eq_false (show ¬ i < (rn : Int) by omega), Bool.and_false]]; rfl
    clear hb HRA HKA HRI
    go_enter Tryz.func33, Tryz.ntmps33
    go_wp2
    go_ret
    exact ⟨rfl, alloc_below _ _⟩
  by_cases hc0 : c < 0
  · obtain rfl : b = false := by rw [hb, show ixB c kn = false by unfold ixB; rw [decide_eq_false (by omega)]; rfl, Bool.false_and, Bool.and_false]
    clear hb HRA HKA HRI
    go_enter Tryz.func33, Tryz.ntmps33
    go_wp2
    go_ret
    exact ⟨rfl, alloc_below _ _⟩
  by_cases hc1 : (kn : Int) ≤ c
  · obtain rfl : b = false := by rw [hb, show ixB c kn = false by unfold ixB; rw [decide_eq_false (show ¬ c < (kn : Int) by omega), Bool.and_false], Bool.false_and, Bool.and_false]
    clear hb HRA HKA HRI
    go_enter Tryz.func33, Tryz.ntmps33
    go_wp2
    go_ret
    exact ⟨rfl, alloc_below _ _⟩
  rw [show ixB i rn = true from ixB_iff.2 (by omega), show ixB c kn = true from ixB_iff.2 (by omega), Bool.true_and, Bool.true_and] at hb
  obtain ⟨k, rfl⟩ : ∃ k : Nat, i = (k : Int) := ⟨i.toNat, by omega⟩
  obtain ⟨m, rfl⟩ : ∃ m : Nat, c = (m : Int) := ⟨c.toNat, by omega⟩
  have hk : k < rn := by omega
  have hm : m < kn := by omega
  rw [Int.toNat_natCast, Int.toNat_natCast] at hb
  obtain ⟨g, off, rfl, hg, hA⟩ := HRA.out (by omega)
  obtain ⟨g2, off2, rfl, hg2, hA2⟩ := HKA.out (by omega)
  have HLD := Lib.hid (fun o => ldAt22 ((hA k hk).below hg (alloc_below w o)))
  have hII := HRI.out k hk
  have d1 : ∀ o o', ((w.alloc o).alloc o').cell? ⟨g2, off2 + m * 2 + 1, none⟩ = some (.bool (kd m).ex) := fun o o' => ((hA2 m hm).below hg2 (alloc2_below w o o')).2
  obtain ⟨r, hr⟩ : ∃ r, r = rl k := ⟨_, rfl⟩
  obtain ⟨x, hx⟩ : ∃ x, x = (kd m).ex := ⟨_, rfl⟩
  rw [← hr] at HLD hb hII
  rw [← hx] at d1 hb
  unfold holdB at hb
  have hcn0 := hII.1
  have hcn1 := hII.2.1
  have HIN := Lib.hid hII.2.2.1
  unfold maxLen at hcn1
  clear hr hx hA hA2 hII HRI HRA HKA hi0 hi1 hc0 hc1
  obtain ⟨ca, cn, cc, cs, al, bo, rx, tr, ef, ac, to⟩ := r
  dsimp only at hb HLD hcn0 hcn1 HIN
  cases al
  · simp only [Bool.false_or] at hb
    have HB := Lib.hid hb
    clear hb
    go_enter Tryz.func33, Tryz.ntmps33
    go_wp2_with (first
      | (refine wpList_load42 _ rfl rfl _ _ rfl ⟨ca, cn, cc, cs, false, bo, rx, tr, ef, ac, to⟩ (HLD.out _) ?_)
      | (refine wpList_store42n _ _ rfl rfl rfl _ rfl (by simp) rfl ⟨ca, cn, cc, cs, false, bo, rx, tr, ef, ac, to⟩ rfl ?_))
    go_loopw [8] (fun i wr => ∃ j : Nat, j ≤ cn ∧ i = .int .i64 j ∧ Hid (hasN cs m j = false) ∧ wr = (w.alloc (.cells (row3 ⟨⟨some ⟨g2, off2, none⟩, kn, kc, kd⟩, dft, ⟨some ⟨g, off, none⟩, rn, rc, rl⟩⟩) 29)).alloc (.cells (row22 ⟨ca, cn, cc, cs, false, bo, rx, tr, ef, ac, to⟩) 43)) (fun i _ => cn - (intOf i).toNat)
    case atStart => exact ⟨0, by omega, rfl, Lib.hid rfl, rfl⟩
    case round =>
      obtain ⟨j, hj, rfl, HA, hw⟩ := hrel
      subst hw
      by_cases hlt : j < cn
      · obtain ⟨gi, oi, rfl, hgi, hci⟩ := HIN.out (by omega)
        have c0 : ∀ o o', ((w.alloc o).alloc o').cell? ⟨gi, oi + j, none⟩ = some (.int .i64 (cs j)) := fun o o' => ((alloc2_below w o o').cell (p := ⟨gi, _, none⟩) hgi).trans (hci j hlt)
        obtain ⟨y, hy⟩ : ∃ y, y = cs j := ⟨_, rfl⟩
        rw [← hy] at c0
        have HY := Lib.hid hy
        clear hci hy
        cases hq : (y == (m : Int))
        · have HZ := Lib.hid (show hasN cs m (j + 1) = false by
            show (hasN cs m j || decide (cs j = (m : Int))) = false
            rw [HA.out, ← HY.out, decide_eq_false (by simpa using hq)]; rfl)
          go_wp2
          go_roundw
          case rel => exact ⟨j + 1, by omega, by go_num, HZ, trivial⟩
          case measure => simp [intOf]; omega
        · have HZ := Lib.hid (anyTo_yes (p := fun i => decide (cs i = (m : Int))) hlt (decide_eq_true (by rw [← HY.out]; simpa using hq)))
          go_wp2
          go_ret
          exact ⟨ret_bool (by rw [HB.out]; unfold hasN; rw [HZ.out]; rfl), alloc2_below _ _ _⟩
      · obtain rfl : cn = j := by omega
        by_cases h0 : cn = 0
        · have h0' : ((cn : Int) == 0) = true := by simp [h0]
          have HZ := Lib.hid (show b = !x by rw [HB.out, HA.out, decide_eq_true h0]; rfl)
          clear h0
          go_wp2
          go_ret
          exact ⟨ret_bool HZ.out.symm, alloc2_below _ _ _⟩
        · have h0' : ((cn : Int) == 0) = false := by simp; omega
          have HZ := Lib.hid (show b = false by rw [HB.out, HA.out, decide_eq_false h0]; rfl)
          go_wp2
          go_ret
          exact ⟨ret_bool HZ.out.symm, alloc2_below _ _ _⟩
  · obtain rfl : b = true := by rw [hb]; rfl
    clear hb
    go_enter Tryz.func33, Tryz.ntmps33
    go_wp2_with (first
      | (refine wpList_load42 _ rfl rfl _ _ rfl ⟨ca, cn, cc, cs, true, bo, rx, tr, ef, ac, to⟩ (HLD.out _) ?_)
      | (refine wpList_store42n _ _ rfl rfl rfl _ rfl (by simp) rfl ⟨ca, cn, cc, cs, true, bo, rx, tr, ef, ac, to⟩ rfl ?_))
    go_ret
    exact ⟨rfl, alloc2_below _ _ _⟩
end Go.Proofs.YtnfchlkdppblfaaGreatDoor
/- The document's sameRule of layer 6. -/
namespace Go.Proofs.YtnfchlkdppblfaaGreatDoor
open Go.RowKit
theorem Bx2.drewN {w w1 : World} {o o' : Obj} (h : Bx2 w o o' w1) (n : Nat) : Bx2 w o o' (w1.drewN n) := below_drewN h n
set_option maxRecDepth 100000 in
set_option maxHeartbeats 8000000 in
theorem refsameRule_any (r s : Rl) (w : World) (h : RlIn w w.heap.size r) (h' : RlIn w w.heap.size s) : Calls Tryz.prog 43 #[ruleV r, ruleV s] w fun e w' => e = .returned (.bool (sameR r s)) ∧ Below w.heap.size w w' := by
  have HSX : Hid (∀ o o' w1, Bx2 w o o' w1 → Calls Tryz.prog 24 #[nodeV r.rx.k r.rx.s r.rx.lo r.rx.hi (.slice r.rx.a r.rx.n r.rx.cap), nodeV s.rx.k s.rx.s s.rx.lo s.rx.hi (.slice s.rx.a s.rx.n s.rx.cap)] w1 fun e w' => e = .returned (.bool (sameT r.rx s.rx)) ∧ Bx2 w o o' w') := Lib.hid fun o o' w1 hb => (refsame_any r.rx s.rx w1 (h.now hb.out).2.1 (h'.now hb.out).2.1).mono fun e w' q => ⟨q.1, hb.to q.2⟩
  have HST : Hid (∀ o o' w1, Bx2 w o o' w1 → Calls Tryz.prog 24 #[nodeV r.tr.k r.tr.s r.tr.lo r.tr.hi (.slice r.tr.a r.tr.n r.tr.cap), nodeV s.tr.k s.tr.s s.tr.lo s.tr.hi (.slice s.tr.a s.tr.n s.tr.cap)] w1 fun e w' => e = .returned (.bool (sameT r.tr s.tr)) ∧ Bx2 w o o' w') := Lib.hid fun o o' w1 hb => (refsame_any r.tr s.tr w1 (h.now hb.out).2.2 (h'.now hb.out).2.2).mono fun e w' q => ⟨q.1, hb.to q.2⟩
  have hm := h.1.1
  have hm2 := h.1.2.1
  have hm3 := h'.1.1
  have hm4 := h'.1.2.1
  have H := Lib.hid h.1.2.2.1
  have H' := Lib.hid h'.1.2.2.1
  clear h h'
  unfold maxLen at hm2 hm4
  obtain ⟨ca, cn, cc, cs, al, bo, rx, tr, ef, ac, to⟩ := r
  obtain ⟨ca', cn', cc', cs', al', bo', rx', tr', ef', ac', to'⟩ := s
  dsimp only at HSX HST hm hm2 hm3 hm4 H H'
  by_cases hn : cn = cn'
  · subst hn
    obtain ⟨b, hb⟩ : ∃ b, b = sameR ⟨ca, cn, cc, cs, al, bo, rx, tr, ef, ac, to⟩ ⟨ca', cn, cc', cs', al', bo', rx', tr', ef', ac', to'⟩ := ⟨_, rfl⟩
    rw [← hb]
    unfold sameR plainR sameN at hb
    dsimp only at hb
    rw [decide_eq_true rfl, Bool.true_and] at hb
    obtain ⟨b2, h2⟩ : ∃ x, x = sameT rx rx' := ⟨_, rfl⟩
    obtain ⟨b3, h3⟩ : ∃ x, x = sameT tr tr' := ⟨_, rfl⟩
    rw [← h2] at HSX hb
    rw [← h3] at HST hb
    have HB := Lib.hid hb
    clear h2 h3 hb
    go_enter Tryz.func43, Tryz.ntmps43
    go_wp2
    go_loopw [5] (fun i wr => ∃ j : Nat, j ≤ cn ∧ i = .int .i64 j ∧ Hid (allTo (fun i => decide (cs i = cs' i)) j = true) ∧ ∃ kk, wr = ((w.alloc (.cells (row22 ⟨ca, cn, cc, cs, al, bo, rx, tr, ef, ac, to⟩) 43)).alloc (.cells (row22 ⟨ca', cn, cc', cs', al', bo', rx', tr', ef', ac', to'⟩) 43)).drewN kk) (fun i _ => cn - (intOf i).toNat)
    case atStart => exact ⟨0, by omega, rfl, Lib.hid rfl, 0, rfl⟩
    case round =>
      obtain ⟨j, hj, rfl, HA, kk, rfl⟩ := hrel
      by_cases hlt : j < cn
      · obtain ⟨g, off, rfl, hg, hc⟩ := H.out (by omega)
        obtain ⟨g', off', rfl, hg', hc'⟩ := H'.out (by omega)
        have c0 : ∀ o o', ((w.alloc o).alloc o').cell? ⟨g, off + j, none⟩ = some (.int .i64 (cs j)) := fun o o' => ((alloc2_below w o o').cell (p := ⟨g, _, none⟩) hg).trans (hc j hlt)
        have c1 : ∀ o o', ((w.alloc o).alloc o').cell? ⟨g', off' + j, none⟩ = some (.int .i64 (cs' j)) := fun o o' => ((alloc2_below w o o').cell (p := ⟨g', _, none⟩) hg').trans (hc' j hlt)
        obtain ⟨x, hx⟩ : ∃ x, x = cs j := ⟨_, rfl⟩
        obtain ⟨y, hy⟩ : ∃ y, y = cs' j := ⟨_, rfl⟩
        rw [← hx] at c0
        rw [← hy] at c1
        have HX := Lib.hid (And.intro hx hy)
        clear hc hx hc' hy
        by_cases hk : x = y
        · have HZ := Lib.hid (show allTo (fun i => decide (cs i = cs' i)) (j + 1) = true by
            show (allTo (fun i => decide (cs i = cs' i)) j && decide (cs j = cs' j)) = true
            rw [HA.out, ← HX.out.1, ← HX.out.2, decide_eq_true hk]; rfl)
          subst hk
          go_wp2
          go_quiet (fail)
          go_wp2
          go_roundw
          case rel => exact ⟨j + 1, by omega, by go_num, HZ, _, rfl⟩
          case measure => simp [intOf]; omega
        · have hk' : (x == y) = false := by simp [hk]
          have hk2 : (x != y) = true := by simp [bne, hk']
          have HZ := Lib.hid (allTo_not (p := fun i => decide (cs i = cs' i)) hlt (decide_eq_false (by rw [← HX.out.1, ← HX.out.2]; exact hk)))
          go_wp2
          go_quiet (fail)
          go_wp2
          go_ret
          exact ⟨ret_bool (by rw [HB.out, HZ.out, Bool.false_and, Bool.and_false]), below_drewN (below_drewN (alloc2_below _ _ _) _) _⟩
      · obtain rfl : cn = j := by omega
        have HB2 := Lib.hid HB.out
        rw [HA.out, Bool.true_and] at HB2
        cases ea : (al == al')
        · have HZ := Lib.hid (show b = false by rw [HB2.out, ea]; simp)
          go_wp2
          go_ret
          exact ⟨ret_bool HZ.out.symm, below_drewN (alloc2_below _ _ _) _⟩
        · cases eb : (bo == bo')
          · have HZ := Lib.hid (show b = false by rw [HB2.out, ea, eb]; simp)
            go_wp2
            go_ret
            exact ⟨ret_bool HZ.out.symm, below_drewN (alloc2_below _ _ _) _⟩
          · cases ee : (ef == ef')
            · have HZ := Lib.hid (show b = false by rw [HB2.out, ea, eb, ee]; simp)
              go_wp2
              go_ret
              exact ⟨ret_bool HZ.out.symm, below_drewN (alloc2_below _ _ _) _⟩
            · cases ec : (ac == ac')
              · have HZ := Lib.hid (show b = false by rw [HB2.out, ea, eb, ee, ec]; simp)
                go_wp2
                go_ret
                exact ⟨ret_bool HZ.out.symm, below_drewN (alloc2_below _ _ _) _⟩
              · cases et : (to == to')
                · have HZ := Lib.hid (show b = false by rw [HB2.out, ea, eb, ee, ec, et]; simp)
                  go_wp2
                  go_ret
                  exact ⟨ret_bool HZ.out.symm, below_drewN (alloc2_below _ _ _) _⟩
                · have HB3 := Lib.hid (show b = (b2 && b3) by rw [HB2.out, ea, eb, ee, ec, et]; simp)
                  cases b2
                  · have HZ := Lib.hid (show b = false from HB3.out)
                    go_wp2_with (first | (go_at_call 24; refine (HSX.out _ _ _ ((Bx2.refl _ _ _).drewN _)).mono ?_; rintro e w2 ⟨rfl, hb2⟩))
                    go_ret
                    exact ⟨ret_bool HZ.out.symm, hb2.out⟩
                  · have HZ := Lib.hid (show b = b3 from HB3.out)
                    go_wp2_with (first | (go_at_call 24; refine (HSX.out _ _ _ ((Bx2.refl _ _ _).drewN _)).mono ?_; clear HSX; rintro e w2 ⟨rfl, hb2⟩; obtain ⟨x0, x1, x2, x3, x4, x5, x6, x7, x8, x9, x10, x11, x12, x13, x14, x15, x16, x17, x18, x19, x20, x21⟩ := cell22 (r := ⟨ca, cn, cc, cs, al, bo, rx, tr, ef, ac, to⟩) hb2.one; obtain ⟨y0, y1, y2, y3, y4, y5, y6, y7, y8, y9, y10, y11, y12, y13, y14, y15, y16, y17, y18, y19, y20, y21⟩ := cell22 (r := ⟨ca', cn, cc', cs', al', bo', rx', tr', ef', ac', to'⟩) hb2.two; clear x0 y0 x1 y1 x2 y2 x19 y19 x20 y20 x21 y21) | (go_at_call 24; refine (HST.out _ _ _ hb2).mono ?_; rintro e w3 ⟨rfl, hb3⟩))
                    go_ret
                    exact ⟨ret_bool HZ.out.symm, hb3.out⟩
  · have hn' : ((cn : Int) == (cn' : Int)) = false := by simp; omega
    have HS := Lib.hid (show sameR ⟨ca, cn, cc, cs, al, bo, rx, tr, ef, ac, to⟩ ⟨ca', cn', cc', cs', al', bo', rx', tr', ef', ac', to'⟩ = false by unfold sameR sameN; dsimp only; rw [decide_eq_false hn, Bool.false_and, Bool.false_and, Bool.and_false])
    go_enter Tryz.func43, Tryz.ntmps43
    go_wp2
    go_ret
    exact ⟨ret_bool HS.out.symm, alloc2_below _ _ _⟩
end Go.Proofs.YtnfchlkdppblfaaGreatDoor
