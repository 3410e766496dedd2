/- The document's head of layer 6. -/
import Derived.Test.YtnfchlkdppblfaaGreatDoorCo
import Derived.Test.YtnfchlkdppblfaaGreatDoorCt
import Derived.Test.YtnfchlkdppblfaaGreatDoorBk
namespace Go.Proofs.YtnfchlkdppblfaaGreatDoor
open Go.RowKit Go
theorem join_snoc (x : List UInt8) : ∀ (l : List (List UInt8)), l ≠ [] → Lib.join (l ++ [x]) [44] = Lib.join l [44] ++ ([44] ++ x)
  | [], h => absurd rfl h
  | [y], _ => by show Lib.join (y :: x :: []) [44] = _; rw [join_cons]; simp [Lib.join]
  | y :: z :: l, _ => by
    show Lib.join (y :: z :: (l ++ [x])) [44] = _
    rw [join_cons, join_cons, show z :: (l ++ [x]) = (z :: l) ++ [x] from rfl, join_snoc x (z :: l) (by simp)]
    simp
/-- What stands behind the sign that begins it, of j conditions. -/
def hdT (r : Rl) (c : Nat → Cn) (j : Nat) : List UInt8 := [60] ++ Lib.join ((namesT r c j).map (·.data.toList)) [44]
theorem hdT_one (r : Rl) (c : Nat → Cn) : hdT r c 1 = hdT r c 0 ++ nmL (c (r.cs 0).toNat) := by simp [hdT, namesT, Lib.join, nmL]
theorem hdT_more (r : Rl) (c : Nat → Cn) (j : Nat) (hj : 0 < j) : hdT r c (j + 1) = (hdT r c j ++ [44]) ++ nmL (c (r.cs j).toNat) := by
  unfold hdT
  rw [namesT_succ, List.map_append]
  show [60] ++ Lib.join (_ ++ [(c (r.cs j).toNat).nm.data.toList]) [44] = _
  rw [join_snoc _ _ (fun e => by have := congrArg List.length e; rw [List.length_map, namesT_len] at this; simp at this; omega)]
  simp [nmL]
set_option maxRecDepth 100000 in
set_option maxHeartbeats 4000000 in
theorem refhead_any (s : Sp) (r : Rl) (w : World) (h : IntsIn w w.heap.size r.ca r.cn r.cc r.cs) (hl : CsIn w w.heap.size s.cs) (hs : startsB r s.cs.n = true) (hn : s.cs.n ≤ 8) (hnm : ∀ i, i < s.cs.n → (s.cs.c i).nm.size ≤ 12) :
    Calls Tryz.prog 97 #[specV s, ruleV r] w fun e w' => e = .returned (strV (startsT r s.cs.c)) ∧ Below w.heap.size w w' := by
  obtain ⟨⟨ka, kn, kc, kd⟩, dft, ⟨ra, rn, rc, rl⟩⟩ := s
  obtain ⟨X, hX⟩ : ∃ X, X = startsT r kd := ⟨_, rfl⟩
  show Calls Tryz.prog 97 #[specV ⟨⟨ka, kn, kc, kd⟩, dft, ⟨ra, rn, rc, rl⟩⟩, ruleV r] w fun e w' => e = .returned (strV (startsT r kd)) ∧ Below w.heap.size w w'
  rw [← hX]
  unfold startsT at hX
  have hm := hl.1
  have hm2 := hl.2.1
  have HA := Lib.hid hl.2.2.1
  have hq1 := h.1
  have hq2 := h.2.1
  have HI := Lib.hid h.2.2.1
  unfold startsB at hs
  dsimp only at hs hn hnm hm hm2 HA
  unfold maxLen at hm2 hq2
  clear hl h
  cases hal : r.all
  · rw [hal] at hs hX
    simp only [Bool.false_eq_true, if_false] at hs hX
    have hris := ris_le hs
    by_cases h0 : r.cn = 0
    · rw [if_pos h0] at hX
      subst hX
      obtain ⟨ca, cn, cc, cs, al, bo, rx, tr, ef, ac, to⟩ := r
      dsimp only at h0 hal
      subst h0 hal
      clear hris hs HI HA hnm hn hm hm2 hq1 hq2
      go_enter Tryz.func97, Tryz.ntmps97
      go_wp2
      go_ret
      exact ⟨rfl, alloc2_below _ _ _⟩
    · rw [if_neg h0] at hX
      have hcn : r.cn ≤ 8 := by have := hris (r.cn - 1) (by omega); omega
      have HRI := Lib.hid hris
      have HLEN : Hid (∀ j, j ≤ r.cn → (hdT r kd j).length ≤ 1 + 13 * j) := Lib.hid fun j hj => by
        have := join_len ((namesT r kd j).map (·.data.toList)) (by
          intro x hx
          simp only [List.mem_map, namesT, List.mem_range] at hx
          obtain ⟨y, ⟨i, hi', rfl⟩, rfl⟩ := hx
          have h1 := hris i (by omega)
          have h2 := hnm (r.cs i).toNat (by omega)
          rw [Array.length_toList]
          exact h2)
        rw [List.length_map, namesT_len] at this
        unfold hdT
        simp only [List.length_append, List.length_cons, List.length_nil]
        omega
      have HN12 := Lib.hid hnm
      have HX := Lib.hid (show X = hdT r kd r.cn ++ [62] by rw [hX]; rfl)
      clear hX hs hnm
      obtain ⟨g, off, hca, hg, hc⟩ := HI.out (by omega)
      have HC := Lib.hid hc
      clear hc
      obtain ⟨ca, cn, cc, cs, al, bo, rx, tr, ef, ac, to⟩ := r
      dsimp only at h0 hal hca hcn HX HRI HC HLEN hq1 hq2 hris
      subst hal hca
      have h0' : ((cn : Int) == 0) = false := by simp; omega
      obtain ⟨g2, off2, rfl, hg2, hc2⟩ := HA.out (by have := HRI.out 0 (by omega); omega)
      have HC2 := Lib.hid hc2
      clear hris HI hc2 HA
      go_enter Tryz.func97, Tryz.ntmps97
      go_wp2
      go_loopw [5, 6] (fun v i wr => ∃ j : Nat, j ≤ cn ∧ v = strV (hdT ⟨some ⟨g, off, none⟩, cn, cc, cs, false, bo, rx, tr, ef, ac, to⟩ kd j) ∧ i = .int .i64 j ∧ ∃ kk, wr = ((w.alloc (.cells (row3 ⟨⟨some ⟨g2, off2, none⟩, kn, kc, kd⟩, dft, ⟨ra, rn, rc, rl⟩⟩) 29)).alloc (.cells (row22 ⟨some ⟨g, off, none⟩, cn, cc, cs, false, bo, rx, tr, ef, ac, to⟩) 43)).drewN kk) (fun _ i _ => cn - (intOf i).toNat)
      case atStart => exact ⟨0, by omega, rfl, rfl, 0, rfl⟩
      case round =>
        obtain ⟨j, hj, rfl, rfl, kk, rfl⟩ := hrel
        have hlj := HLEN.out j hj
        by_cases hlt : j < cn
        · have hlt' : (j : Int) < (cn : Int) := by omega
          obtain ⟨k, hk⟩ : ∃ k : Nat, cs j = (k : Int) := ⟨(cs j).toNat, by have := (HRI.out j hlt).1; omega⟩
          have hkn : k < kn := by have := (HRI.out j hlt).2; omega
          have hkn' : (k : Int) < (kn : Int) := by omega
          have c0 : ∀ o o', ((w.alloc o).alloc o').cell? ⟨g, off + j, none⟩ = some (.int .i64 (k : Int)) := fun o o' => ((alloc2_below w o o').cell (p := ⟨g, _, none⟩) hg).trans ((HC.out j hlt).trans (by rw [hk]))
          obtain ⟨l, hl1, hl2, hl3⟩ := nm_eta (kd k).nm
          have d0 : ∀ o o', ((w.alloc o).alloc o').cell? ⟨g2, off2 + k * 2, none⟩ = some (.string ⟨l.toArray⟩) := fun o o' => by rw [← hl1]; exact ((HC2.out k hkn).below hg2 (alloc2_below w o o')).1
          have hl12 : l.length ≤ 12 := by rw [hl3]; exact HN12.out k hkn
          have HNL := Lib.hid (show nmL (kd (cs j).toNat) = l by rw [show (cs j).toNat = k by omega]; unfold nmL; rw [hl2])
          obtain ⟨Y, hY⟩ : ∃ Y, Y = hdT ⟨some ⟨g, off, none⟩, cn, cc, cs, false, bo, rx, tr, ef, ac, to⟩ kd j := ⟨_, rfl⟩
          rw [← hY] at hlj ⊢
          have HY := Lib.hid hY
          clear hl1 hl2 hl3 hY
          by_cases hj0 : j = 0
          · have HZ := Lib.hid (show hdT ⟨some ⟨g, off, none⟩, cn, cc, cs, false, bo, rx, tr, ef, ac, to⟩ kd (j + 1) = Y ++ l by rw [HY.out, ← HNL.out, hj0]; exact hdT_one _ _)
            have ha := fun w => str_add Y l (by omega) w
            have hj0' : ¬ (0 : Int) < (j : Int) := by omega
            generalize Y ++ l = Z at HZ ha
            clear hj0
            go_wp2
            go_quiet (fail)
            go_wp2
            go_roundw
            case rel => exact ⟨j + 1, by omega, by rw [HZ.out], by go_num, _, rfl⟩
            case measure => simp [intOf]; omega
          · have HZ := Lib.hid (show hdT ⟨some ⟨g, off, none⟩, cn, cc, cs, false, bo, rx, tr, ef, ac, to⟩ kd (j + 1) = (Y ++ [44]) ++ l by rw [HY.out, ← HNL.out]; exact hdT_more _ _ _ (by omega))
            have hj0' : (0 : Int) < (j : Int) := by omega
            have ha1 := fun w => str_add Y [44] (by simp only [List.length_cons, List.length_nil]; omega) w
            have ha := fun w => str_add (Y ++ [44]) l (by rw [List.length_append]; simp only [List.length_cons, List.length_nil]; omega) w
            generalize Y ++ [44] = Y1 at HZ ha ha1
            generalize Y1 ++ l = Z at HZ ha
            go_wp2
            go_quiet (fail)
            go_wp2
            go_roundw
            case rel => exact ⟨j + 1, by omega, by rw [HZ.out], by go_num, _, rfl⟩
            case measure => simp [intOf]; omega
        · have hlt' : ¬ (j : Int) < (cn : Int) := by omega
          obtain rfl : j = cn := by omega
          obtain ⟨Y, hY⟩ : ∃ Y, Y = hdT ⟨some ⟨g, off, none⟩, j, cc, cs, false, bo, rx, tr, ef, ac, to⟩ kd j := ⟨_, rfl⟩
          rw [← hY] at hlj HX ⊢
          have ha := fun w => str_add Y [62] (by simp only [List.length_cons, List.length_nil]; omega) w
          rw [← HX.out] at ha
          clear hY
          go_wp2
          go_ret
          exact ⟨rfl, below_drewN (alloc2_below _ _ _) _⟩
  · rw [hal, if_pos rfl] at hX
    subst hX
    obtain ⟨ca, cn, cc, cs, al, bo, rx, tr, ef, ac, to⟩ := r
    dsimp only at hal
    subst hal
    clear hs HI HA
    go_enter Tryz.func97, Tryz.ntmps97
    go_wp2
    go_ret
    exact ⟨rfl, alloc2_below _ _ _⟩
end Go.Proofs.YtnfchlkdppblfaaGreatDoor
/- The document's line of layer 6. -/
namespace Go.Proofs.YtnfchlkdppblfaaGreatDoor
open Go.RowKit Go
theorem text_right {t : Tr} (h : rightB t = true) : Texts t :=
  text_any t (fit_of_ok (by unfold rightB at h; simp only [Bool.and_eq_true] at h; exact h.1)) (by have := (txt_right h).2; omega)
theorem right_k {t : Tr} (h : rightB t = true) : (t.k != 0) = true := by
  have hf : fitT t = true := fit_of_ok (by unfold rightB at h; simp only [Bool.and_eq_true] at h; exact h.1)
  have := fits_cases (fitT_fits hf)
  simp only [bne_iff_ne, ne_eq]
  omega
theorem none_k {t : Tr} (h : noneB t = true) : (t.k != 0) = false := by
  rw [noneB_eq] at h
  simp only [Bool.and_eq_true] at h
  have := h.1
  simp only [beq_iff_eq] at this
  simp [this]
set_option maxRecDepth 100000 in
set_option maxHeartbeats 32000000 in
theorem refline_any (s : Sp) (r : Rl) (w : World) (h : RlIn w w.heap.size r) (hl : CsIn w w.heap.size s.cs) (hr : ruleB r s.cs.n = true) (hn1 : 1 ≤ s.cs.n) (hn : s.cs.n ≤ 8) (hnm : ∀ i, i < s.cs.n → (s.cs.c i).nm.size ≤ 12) :
    Calls Tryz.prog 62 #[specV s, ruleV r] w fun e w' => e = .returned (strV (ruleT r s.cs.c ++ [10])) ∧ Below w.heap.size w w' := by
  have hr1 : startsB r s.cs.n = true ∧ actB r s.cs.n = true ∧ patB r = true := by
    unfold ruleB at hr
    simp only [Bool.and_eq_true] at hr
    exact hr
  have HHD : Hid (∀ o o' w1, Bx2 w o o' w1 → Calls Tryz.prog 97 #[specV s, ruleV r] w1 fun e w' => e = .returned (strV (startsT r s.cs.c)) ∧ Bx2 w o o' w') := Lib.hid fun o o' w1 hb => (refhead_any s r w1 (h.now hb.out).1 (hl.now hb.out) hr1.1 hn hnm).mono fun e w' q => ⟨q.1, hb.to q.2⟩
  have HTX : Hid (rightB r.rx = true → ∀ o o' w1, Bx2 w o o' w1 → Calls Tryz.prog 21 #[nodeV r.rx.k r.rx.s r.rx.lo r.rx.hi (.slice r.rx.a r.rx.n r.rx.cap)] w1 fun e w' => e = .returned (strV (txt r.rx)) ∧ Bx2 w o o' w') := Lib.hid fun q o o' w1 hb => (text_right q w1 (h.now hb.out).2.1).mono fun e w' q => ⟨q.1, hb.to q.2⟩
  have HTT : Hid (rightB r.tr = true → ∀ o o' w1, Bx2 w o o' w1 → Calls Tryz.prog 21 #[nodeV r.tr.k r.tr.s r.tr.lo r.tr.hi (.slice r.tr.a r.tr.n r.tr.cap)] w1 fun e w' => e = .returned (strV (txt r.tr)) ∧ Bx2 w o o' w') := Lib.hid fun q o o' w1 hb => (text_right q w1 (h.now hb.out).2.2).mono fun e w' q => ⟨q.1, hb.to q.2⟩
  have hH := starts_len hr1.1 hn hnm
  have HK := Lib.hid hl.2.2.1
  have HN := Lib.hid hnm
  have hk1 := hl.1
  have hk2 := hl.2.1
  obtain ⟨⟨ka, kn, kc, kd⟩, dft, ⟨ra, rn, rc, rl⟩⟩ := s
  obtain ⟨ca, cn, cc, cs, al, bo, rx, tr, ef, ac, to⟩ := r
  obtain ⟨hs1, ha1, hp1⟩ := hr1
  dsimp only at HHD HTX HTT hH HK HN hk1 hk2 ha1 hn1 hn
  unfold maxLen at hk2
  clear h hl hr hnm hs1
  unfold ruleT
  dsimp only
  obtain ⟨HD, hHD⟩ : ∃ x, x = startsT ⟨ca, cn, cc, cs, al, bo, rx, tr, ef, ac, to⟩ kd := ⟨_, rfl⟩
  rw [← hHD] at HHD hH ⊢
  clear hHD
  obtain ⟨X, hX⟩ : ∃ X, X = (((HD ++ matchT ⟨ca, cn, cc, cs, al, bo, rx, tr, ef, ac, to⟩) ++ [32]) ++ actT ac (nmL (kd to.toNat))) ++ [10] := ⟨_, rfl⟩
  rw [← hX]
  unfold matchT at hX
  unfold patB at hp1
  unfold actB at ha1
  dsimp only at hX hp1 ha1
  cases ef
  · simp only [Bool.false_eq_true, if_false, Bool.and_eq_true, Bool.or_eq_true] at hp1 hX
    have HTX := Lib.hid (HTX.out hp1.1)
    have hlx := (txt_right hp1.1).1
    obtain ⟨T, hT⟩ : ∃ T, T = txt rx := ⟨_, rfl⟩
    rw [← hT] at HTX hX hlx
    clear hT
    cases hn0 : noneB tr
    · have hrt : rightB tr = true := hp1.2.resolve_left (by rw [hn0]; simp)
      have HTT := Lib.hid (HTT.out hrt)
      have hlt := (txt_right hrt).1
      have hk0 := right_k hrt
      rw [hn0] at hX
      simp only [Bool.false_eq_true, if_false] at hX
      obtain ⟨U, hU⟩ : ∃ U, U = txt tr := ⟨_, rfl⟩
      rw [← hU] at HTT hX hlt
      clear hU hn0 hp1 hrt
      cases bo
      · simp only [Bool.false_eq_true, if_false] at hX
        by_cases a1 : ac = 1
        · subst a1
          clear HK ha1
          have hX2 : X = ((((HD) ++ T) ++ [47]) ++ U) ++ [32, 101, 109, 105, 116, 10] := by rw [hX]; simp [actT]
          clear hX
          have ha0 := fun w => str_add (HD) T (by (try simp only [List.length_append, List.length_cons, List.length_nil]); omega) w
          have ha1 := fun w => str_add ((HD) ++ T) [47] (by (try simp only [List.length_append, List.length_cons, List.length_nil]); omega) w
          have ha2 := fun w => str_add (((HD) ++ T) ++ [47]) U (by (try simp only [List.length_append, List.length_cons, List.length_nil]); omega) w
          have ha3 := fun w => str_add ((((HD) ++ T) ++ [47]) ++ U) [32, 101, 109, 105, 116, 10] (by (try simp only [List.length_append, List.length_cons, List.length_nil]); omega) w
          generalize HD ++ T = A0 at hX2 ha0 ha1 ha2 ha3
          generalize A0 ++ [47] = A1 at hX2 ha1 ha2 ha3
          generalize A1 ++ U = A2 at hX2 ha2 ha3
          generalize A2 ++ [32, 101, 109, 105, 116, 10] = A3 at hX2 ha3
          subst hX2
          go_enter Tryz.func62, Tryz.ntmps62
          go_wp2_with (first | (refine wpList_load42 _ rfl rfl _ _ rfl ⟨ca, cn, cc, cs, al, false, rx, tr, false, 1, to⟩ (ld22 (Bx2.refl w _ _).two) ?_) | (go_at_call 97; refine (HHD.out _ _ _ (Bx2.refl w _ _)).mono ?_; clear HHD; rintro e w1 ⟨rfl, hb1⟩; obtain ⟨x0, x1, x2, x3, x4, x5, x6, x7, x8, x9, x10, x11, x12, x13, x14, x15, x16, x17, x18, x19, x20, x21⟩ := cell22 (r := ⟨ca, cn, cc, cs, al, false, rx, tr, false, 1, to⟩) hb1.two; obtain ⟨y0, y1, y2⟩ := cell3 (s := ⟨⟨ka, kn, kc, kd⟩, dft, ⟨ra, rn, rc, rl⟩⟩) hb1.one; dsimp only at x0 x1 x2 x3 x4 x5 x6 x7 x8 x9 x10 x11 x12 x13 x14 x15 x16 x17 x18 x19 x20 x21 y0 y1 y2) | (go_at_call 21; refine (HTX.out _ _ _ hb1).mono ?_; clear HTX; rintro e w2 ⟨rfl, hb2⟩; clear x0 x1 x2 x3 x4 x5 x6 x7 x8 x9 x10 x11 x12 x13 x14 x15 x16 x17 x18 x19 x20 x21 y0 y1 y2; obtain ⟨x0, x1, x2, x3, x4, x5, x6, x7, x8, x9, x10, x11, x12, x13, x14, x15, x16, x17, x18, x19, x20, x21⟩ := cell22 (r := ⟨ca, cn, cc, cs, al, false, rx, tr, false, 1, to⟩) hb2.two; obtain ⟨y0, y1, y2⟩ := cell3 (s := ⟨⟨ka, kn, kc, kd⟩, dft, ⟨ra, rn, rc, rl⟩⟩) hb2.one; dsimp only at x0 x1 x2 x3 x4 x5 x6 x7 x8 x9 x10 x11 x12 x13 x14 x15 x16 x17 x18 x19 x20 x21 y0 y1 y2) | (go_at_call 21; refine (HTT.out _ _ _ hb2).mono ?_; clear HTT; rintro e w3 ⟨rfl, hb3⟩; clear x0 x1 x2 x3 x4 x5 x6 x7 x8 x9 x10 x11 x12 x13 x14 x15 x16 x17 x18 x19 x20 x21 y0 y1 y2; obtain ⟨x0, x1, x2, x3, x4, x5, x6, x7, x8, x9, x10, x11, x12, x13, x14, x15, x16, x17, x18, x19, x20, x21⟩ := cell22 (r := ⟨ca, cn, cc, cs, al, false, rx, tr, false, 1, to⟩) hb3.two; obtain ⟨y0, y1, y2⟩ := cell3 (s := ⟨⟨ka, kn, kc, kd⟩, dft, ⟨ra, rn, rc, rl⟩⟩) hb3.one; dsimp only at x0 x1 x2 x3 x4 x5 x6 x7 x8 x9 x10 x11 x12 x13 x14 x15 x16 x17 x18 x19 x20 x21 y0 y1 y2))
          go_ret
          exact ⟨rfl, hb3.out⟩
        by_cases a2 : ac = 2
        · subst a2
          clear HK ha1
          have hX2 : X = ((((HD) ++ T) ++ [47]) ++ U) ++ [32, 115, 107, 105, 112, 10] := by rw [hX]; simp [actT]
          clear hX
          have ha0 := fun w => str_add (HD) T (by (try simp only [List.length_append, List.length_cons, List.length_nil]); omega) w
          have ha1 := fun w => str_add ((HD) ++ T) [47] (by (try simp only [List.length_append, List.length_cons, List.length_nil]); omega) w
          have ha2 := fun w => str_add (((HD) ++ T) ++ [47]) U (by (try simp only [List.length_append, List.length_cons, List.length_nil]); omega) w
          have ha3 := fun w => str_add ((((HD) ++ T) ++ [47]) ++ U) [32, 115, 107, 105, 112, 10] (by (try simp only [List.length_append, List.length_cons, List.length_nil]); omega) w
          generalize HD ++ T = A0 at hX2 ha0 ha1 ha2 ha3
          generalize A0 ++ [47] = A1 at hX2 ha1 ha2 ha3
          generalize A1 ++ U = A2 at hX2 ha2 ha3
          generalize A2 ++ [32, 115, 107, 105, 112, 10] = A3 at hX2 ha3
          subst hX2
          go_enter Tryz.func62, Tryz.ntmps62
          go_wp2_with (first | (refine wpList_load42 _ rfl rfl _ _ rfl ⟨ca, cn, cc, cs, al, false, rx, tr, false, 2, to⟩ (ld22 (Bx2.refl w _ _).two) ?_) | (go_at_call 97; refine (HHD.out _ _ _ (Bx2.refl w _ _)).mono ?_; clear HHD; rintro e w1 ⟨rfl, hb1⟩; obtain ⟨x0, x1, x2, x3, x4, x5, x6, x7, x8, x9, x10, x11, x12, x13, x14, x15, x16, x17, x18, x19, x20, x21⟩ := cell22 (r := ⟨ca, cn, cc, cs, al, false, rx, tr, false, 2, to⟩) hb1.two; obtain ⟨y0, y1, y2⟩ := cell3 (s := ⟨⟨ka, kn, kc, kd⟩, dft, ⟨ra, rn, rc, rl⟩⟩) hb1.one; dsimp only at x0 x1 x2 x3 x4 x5 x6 x7 x8 x9 x10 x11 x12 x13 x14 x15 x16 x17 x18 x19 x20 x21 y0 y1 y2) | (go_at_call 21; refine (HTX.out _ _ _ hb1).mono ?_; clear HTX; rintro e w2 ⟨rfl, hb2⟩; clear x0 x1 x2 x3 x4 x5 x6 x7 x8 x9 x10 x11 x12 x13 x14 x15 x16 x17 x18 x19 x20 x21 y0 y1 y2; obtain ⟨x0, x1, x2, x3, x4, x5, x6, x7, x8, x9, x10, x11, x12, x13, x14, x15, x16, x17, x18, x19, x20, x21⟩ := cell22 (r := ⟨ca, cn, cc, cs, al, false, rx, tr, false, 2, to⟩) hb2.two; obtain ⟨y0, y1, y2⟩ := cell3 (s := ⟨⟨ka, kn, kc, kd⟩, dft, ⟨ra, rn, rc, rl⟩⟩) hb2.one; dsimp only at x0 x1 x2 x3 x4 x5 x6 x7 x8 x9 x10 x11 x12 x13 x14 x15 x16 x17 x18 x19 x20 x21 y0 y1 y2) | (go_at_call 21; refine (HTT.out _ _ _ hb2).mono ?_; clear HTT; rintro e w3 ⟨rfl, hb3⟩; clear x0 x1 x2 x3 x4 x5 x6 x7 x8 x9 x10 x11 x12 x13 x14 x15 x16 x17 x18 x19 x20 x21 y0 y1 y2; obtain ⟨x0, x1, x2, x3, x4, x5, x6, x7, x8, x9, x10, x11, x12, x13, x14, x15, x16, x17, x18, x19, x20, x21⟩ := cell22 (r := ⟨ca, cn, cc, cs, al, false, rx, tr, false, 2, to⟩) hb3.two; obtain ⟨y0, y1, y2⟩ := cell3 (s := ⟨⟨ka, kn, kc, kd⟩, dft, ⟨ra, rn, rc, rl⟩⟩) hb3.one; dsimp only at x0 x1 x2 x3 x4 x5 x6 x7 x8 x9 x10 x11 x12 x13 x14 x15 x16 x17 x18 x19 x20 x21 y0 y1 y2))
          go_ret
          exact ⟨rfl, hb3.out⟩
        obtain rfl : ac = 3 := by
          rw [if_neg (by omega)] at ha1
          by_cases a3 : ac = 3
          · exact a3
          · rw [if_neg a3] at ha1; cases ha1
        rw [if_neg (by omega), if_pos rfl] at ha1
        have hto := ixB_iff.1 ha1
        obtain ⟨k, rfl⟩ : ∃ k : Nat, to = (k : Int) := ⟨to.toNat, by omega⟩
        have hkn : k < kn := by omega
        rw [Int.toNat_natCast] at hX
        obtain ⟨g, off, rfl, hg, hc⟩ := HK.out (by omega)
        obtain ⟨l, hl1, hl2, hl3⟩ := nm_eta (kd k).nm
        have d0 : ∀ o o' w1, Bx2 w o o' w1 → w1.cell? ⟨g, off + k * 2, none⟩ = some (.string ⟨l.toArray⟩) := fun o o' w1 hb => by rw [← hl1]; exact ((hc k hkn).below hg hb.out).1
        have hl12 : l.length ≤ 12 := by rw [hl3]; exact HN.out k hkn
        rw [show nmL (kd k) = l by unfold nmL; rw [hl2]] at hX
        have HD0 := Lib.hid d0
        clear a1 a2 ha1 hto hl1 hl2 hl3 hc d0 HK HN
        have hX2 : X = ((((((HD) ++ T) ++ [47]) ++ U) ++ [32, 98, 101, 103, 105, 110, 32]) ++ l) ++ [10] := by rw [hX]; simp [actT]
        clear hX
        have ha0 := fun w => str_add (HD) T (by (try simp only [List.length_append, List.length_cons, List.length_nil]); omega) w
        have ha1 := fun w => str_add ((HD) ++ T) [47] (by (try simp only [List.length_append, List.length_cons, List.length_nil]); omega) w
        have ha2 := fun w => str_add (((HD) ++ T) ++ [47]) U (by (try simp only [List.length_append, List.length_cons, List.length_nil]); omega) w
        have ha3 := fun w => str_add ((((HD) ++ T) ++ [47]) ++ U) [32, 98, 101, 103, 105, 110, 32] (by (try simp only [List.length_append, List.length_cons, List.length_nil]); omega) w
        have ha4 := fun w => str_add (((((HD) ++ T) ++ [47]) ++ U) ++ [32, 98, 101, 103, 105, 110, 32]) l (by (try simp only [List.length_append, List.length_cons, List.length_nil]); omega) w
        have ha5 := fun w => str_add ((((((HD) ++ T) ++ [47]) ++ U) ++ [32, 98, 101, 103, 105, 110, 32]) ++ l) [10] (by (try simp only [List.length_append, List.length_cons, List.length_nil]); omega) w
        generalize HD ++ T = A0 at hX2 ha0 ha1 ha2 ha3 ha4 ha5
        generalize A0 ++ [47] = A1 at hX2 ha1 ha2 ha3 ha4 ha5
        generalize A1 ++ U = A2 at hX2 ha2 ha3 ha4 ha5
        generalize A2 ++ [32, 98, 101, 103, 105, 110, 32] = A3 at hX2 ha3 ha4 ha5
        generalize A3 ++ l = A4 at hX2 ha4 ha5
        generalize A4 ++ [10] = A5 at hX2 ha5
        subst hX2
        go_enter Tryz.func62, Tryz.ntmps62
        go_wp2_with (first | (refine wpList_load42 _ rfl rfl _ _ rfl ⟨ca, cn, cc, cs, al, false, rx, tr, false, 3, (k : Int)⟩ (ld22 (Bx2.refl w _ _).two) ?_) | (go_at_call 97; refine (HHD.out _ _ _ (Bx2.refl w _ _)).mono ?_; clear HHD; rintro e w1 ⟨rfl, hb1⟩; obtain ⟨x0, x1, x2, x3, x4, x5, x6, x7, x8, x9, x10, x11, x12, x13, x14, x15, x16, x17, x18, x19, x20, x21⟩ := cell22 (r := ⟨ca, cn, cc, cs, al, false, rx, tr, false, 3, (k : Int)⟩) hb1.two; obtain ⟨y0, y1, y2⟩ := cell3 (s := ⟨⟨some ⟨g, off, none⟩, kn, kc, kd⟩, dft, ⟨ra, rn, rc, rl⟩⟩) hb1.one; dsimp only at x0 x1 x2 x3 x4 x5 x6 x7 x8 x9 x10 x11 x12 x13 x14 x15 x16 x17 x18 x19 x20 x21 y0 y1 y2) | (go_at_call 21; refine (HTX.out _ _ _ hb1).mono ?_; clear HTX; rintro e w2 ⟨rfl, hb2⟩; clear x0 x1 x2 x3 x4 x5 x6 x7 x8 x9 x10 x11 x12 x13 x14 x15 x16 x17 x18 x19 x20 x21 y0 y1 y2; obtain ⟨x0, x1, x2, x3, x4, x5, x6, x7, x8, x9, x10, x11, x12, x13, x14, x15, x16, x17, x18, x19, x20, x21⟩ := cell22 (r := ⟨ca, cn, cc, cs, al, false, rx, tr, false, 3, (k : Int)⟩) hb2.two; obtain ⟨y0, y1, y2⟩ := cell3 (s := ⟨⟨some ⟨g, off, none⟩, kn, kc, kd⟩, dft, ⟨ra, rn, rc, rl⟩⟩) hb2.one; dsimp only at x0 x1 x2 x3 x4 x5 x6 x7 x8 x9 x10 x11 x12 x13 x14 x15 x16 x17 x18 x19 x20 x21 y0 y1 y2) | (go_at_call 21; refine (HTT.out _ _ _ hb2).mono ?_; clear HTT; rintro e w3 ⟨rfl, hb3⟩; clear x0 x1 x2 x3 x4 x5 x6 x7 x8 x9 x10 x11 x12 x13 x14 x15 x16 x17 x18 x19 x20 x21 y0 y1 y2; obtain ⟨x0, x1, x2, x3, x4, x5, x6, x7, x8, x9, x10, x11, x12, x13, x14, x15, x16, x17, x18, x19, x20, x21⟩ := cell22 (r := ⟨ca, cn, cc, cs, al, false, rx, tr, false, 3, (k : Int)⟩) hb3.two; obtain ⟨y0, y1, y2⟩ := cell3 (s := ⟨⟨some ⟨g, off, none⟩, kn, kc, kd⟩, dft, ⟨ra, rn, rc, rl⟩⟩) hb3.one; have dk := HD0.out _ _ _ hb3; dsimp only at x0 x1 x2 x3 x4 x5 x6 x7 x8 x9 x10 x11 x12 x13 x14 x15 x16 x17 x18 x19 x20 x21 y0 y1 y2))
        go_ret
        exact ⟨rfl, hb3.out⟩
      · simp only [if_true] at hX
        by_cases a1 : ac = 1
        · subst a1
          clear HK ha1
          have hX2 : X = (((((HD) ++ [94]) ++ T) ++ [47]) ++ U) ++ [32, 101, 109, 105, 116, 10] := by rw [hX]; simp [actT]
          clear hX
          have ha0 := fun w => str_add (HD) [94] (by (try simp only [List.length_append, List.length_cons, List.length_nil]); omega) w
          have ha1 := fun w => str_add ((HD) ++ [94]) T (by (try simp only [List.length_append, List.length_cons, List.length_nil]); omega) w
          have ha2 := fun w => str_add (((HD) ++ [94]) ++ T) [47] (by (try simp only [List.length_append, List.length_cons, List.length_nil]); omega) w
          have ha3 := fun w => str_add ((((HD) ++ [94]) ++ T) ++ [47]) U (by (try simp only [List.length_append, List.length_cons, List.length_nil]); omega) w
          have ha4 := fun w => str_add (((((HD) ++ [94]) ++ T) ++ [47]) ++ U) [32, 101, 109, 105, 116, 10] (by (try simp only [List.length_append, List.length_cons, List.length_nil]); omega) w
          generalize HD ++ [94] = A0 at hX2 ha0 ha1 ha2 ha3 ha4
          generalize A0 ++ T = A1 at hX2 ha1 ha2 ha3 ha4
          generalize A1 ++ [47] = A2 at hX2 ha2 ha3 ha4
          generalize A2 ++ U = A3 at hX2 ha3 ha4
          generalize A3 ++ [32, 101, 109, 105, 116, 10] = A4 at hX2 ha4
          subst hX2
          go_enter Tryz.func62, Tryz.ntmps62
          go_wp2_with (first | (refine wpList_load42 _ rfl rfl _ _ rfl ⟨ca, cn, cc, cs, al, true, rx, tr, false, 1, to⟩ (ld22 (Bx2.refl w _ _).two) ?_) | (go_at_call 97; refine (HHD.out _ _ _ (Bx2.refl w _ _)).mono ?_; clear HHD; rintro e w1 ⟨rfl, hb1⟩; obtain ⟨x0, x1, x2, x3, x4, x5, x6, x7, x8, x9, x10, x11, x12, x13, x14, x15, x16, x17, x18, x19, x20, x21⟩ := cell22 (r := ⟨ca, cn, cc, cs, al, true, rx, tr, false, 1, to⟩) hb1.two; obtain ⟨y0, y1, y2⟩ := cell3 (s := ⟨⟨ka, kn, kc, kd⟩, dft, ⟨ra, rn, rc, rl⟩⟩) hb1.one; dsimp only at x0 x1 x2 x3 x4 x5 x6 x7 x8 x9 x10 x11 x12 x13 x14 x15 x16 x17 x18 x19 x20 x21 y0 y1 y2) | (go_at_call 21; refine (HTX.out _ _ _ hb1).mono ?_; clear HTX; rintro e w2 ⟨rfl, hb2⟩; clear x0 x1 x2 x3 x4 x5 x6 x7 x8 x9 x10 x11 x12 x13 x14 x15 x16 x17 x18 x19 x20 x21 y0 y1 y2; obtain ⟨x0, x1, x2, x3, x4, x5, x6, x7, x8, x9, x10, x11, x12, x13, x14, x15, x16, x17, x18, x19, x20, x21⟩ := cell22 (r := ⟨ca, cn, cc, cs, al, true, rx, tr, false, 1, to⟩) hb2.two; obtain ⟨y0, y1, y2⟩ := cell3 (s := ⟨⟨ka, kn, kc, kd⟩, dft, ⟨ra, rn, rc, rl⟩⟩) hb2.one; dsimp only at x0 x1 x2 x3 x4 x5 x6 x7 x8 x9 x10 x11 x12 x13 x14 x15 x16 x17 x18 x19 x20 x21 y0 y1 y2) | (go_at_call 21; refine (HTT.out _ _ _ hb2).mono ?_; clear HTT; rintro e w3 ⟨rfl, hb3⟩; clear x0 x1 x2 x3 x4 x5 x6 x7 x8 x9 x10 x11 x12 x13 x14 x15 x16 x17 x18 x19 x20 x21 y0 y1 y2; obtain ⟨x0, x1, x2, x3, x4, x5, x6, x7, x8, x9, x10, x11, x12, x13, x14, x15, x16, x17, x18, x19, x20, x21⟩ := cell22 (r := ⟨ca, cn, cc, cs, al, true, rx, tr, false, 1, to⟩) hb3.two; obtain ⟨y0, y1, y2⟩ := cell3 (s := ⟨⟨ka, kn, kc, kd⟩, dft, ⟨ra, rn, rc, rl⟩⟩) hb3.one; dsimp only at x0 x1 x2 x3 x4 x5 x6 x7 x8 x9 x10 x11 x12 x13 x14 x15 x16 x17 x18 x19 x20 x21 y0 y1 y2))
          go_ret
          exact ⟨rfl, hb3.out⟩
        by_cases a2 : ac = 2
        · subst a2
          clear HK ha1
          have hX2 : X = (((((HD) ++ [94]) ++ T) ++ [47]) ++ U) ++ [32, 115, 107, 105, 112, 10] := by rw [hX]; simp [actT]
          clear hX
          have ha0 := fun w => str_add (HD) [94] (by (try simp only [List.length_append, List.length_cons, List.length_nil]); omega) w
          have ha1 := fun w => str_add ((HD) ++ [94]) T (by (try simp only [List.length_append, List.length_cons, List.length_nil]); omega) w
          have ha2 := fun w => str_add (((HD) ++ [94]) ++ T) [47] (by (try simp only [List.length_append, List.length_cons, List.length_nil]); omega) w
          have ha3 := fun w => str_add ((((HD) ++ [94]) ++ T) ++ [47]) U (by (try simp only [List.length_append, List.length_cons, List.length_nil]); omega) w
          have ha4 := fun w => str_add (((((HD) ++ [94]) ++ T) ++ [47]) ++ U) [32, 115, 107, 105, 112, 10] (by (try simp only [List.length_append, List.length_cons, List.length_nil]); omega) w
          generalize HD ++ [94] = A0 at hX2 ha0 ha1 ha2 ha3 ha4
          generalize A0 ++ T = A1 at hX2 ha1 ha2 ha3 ha4
          generalize A1 ++ [47] = A2 at hX2 ha2 ha3 ha4
          generalize A2 ++ U = A3 at hX2 ha3 ha4
          generalize A3 ++ [32, 115, 107, 105, 112, 10] = A4 at hX2 ha4
          subst hX2
          go_enter Tryz.func62, Tryz.ntmps62
          go_wp2_with (first | (refine wpList_load42 _ rfl rfl _ _ rfl ⟨ca, cn, cc, cs, al, true, rx, tr, false, 2, to⟩ (ld22 (Bx2.refl w _ _).two) ?_) | (go_at_call 97; refine (HHD.out _ _ _ (Bx2.refl w _ _)).mono ?_; clear HHD; rintro e w1 ⟨rfl, hb1⟩; obtain ⟨x0, x1, x2, x3, x4, x5, x6, x7, x8, x9, x10, x11, x12, x13, x14, x15, x16, x17, x18, x19, x20, x21⟩ := cell22 (r := ⟨ca, cn, cc, cs, al, true, rx, tr, false, 2, to⟩) hb1.two; obtain ⟨y0, y1, y2⟩ := cell3 (s := ⟨⟨ka, kn, kc, kd⟩, dft, ⟨ra, rn, rc, rl⟩⟩) hb1.one; dsimp only at x0 x1 x2 x3 x4 x5 x6 x7 x8 x9 x10 x11 x12 x13 x14 x15 x16 x17 x18 x19 x20 x21 y0 y1 y2) | (go_at_call 21; refine (HTX.out _ _ _ hb1).mono ?_; clear HTX; rintro e w2 ⟨rfl, hb2⟩; clear x0 x1 x2 x3 x4 x5 x6 x7 x8 x9 x10 x11 x12 x13 x14 x15 x16 x17 x18 x19 x20 x21 y0 y1 y2; obtain ⟨x0, x1, x2, x3, x4, x5, x6, x7, x8, x9, x10, x11, x12, x13, x14, x15, x16, x17, x18, x19, x20, x21⟩ := cell22 (r := ⟨ca, cn, cc, cs, al, true, rx, tr, false, 2, to⟩) hb2.two; obtain ⟨y0, y1, y2⟩ := cell3 (s := ⟨⟨ka, kn, kc, kd⟩, dft, ⟨ra, rn, rc, rl⟩⟩) hb2.one; dsimp only at x0 x1 x2 x3 x4 x5 x6 x7 x8 x9 x10 x11 x12 x13 x14 x15 x16 x17 x18 x19 x20 x21 y0 y1 y2) | (go_at_call 21; refine (HTT.out _ _ _ hb2).mono ?_; clear HTT; rintro e w3 ⟨rfl, hb3⟩; clear x0 x1 x2 x3 x4 x5 x6 x7 x8 x9 x10 x11 x12 x13 x14 x15 x16 x17 x18 x19 x20 x21 y0 y1 y2; obtain ⟨x0, x1, x2, x3, x4, x5, x6, x7, x8, x9, x10, x11, x12, x13, x14, x15, x16, x17, x18, x19, x20, x21⟩ := cell22 (r := ⟨ca, cn, cc, cs, al, true, rx, tr, false, 2, to⟩) hb3.two; obtain ⟨y0, y1, y2⟩ := cell3 (s := ⟨⟨ka, kn, kc, kd⟩, dft, ⟨ra, rn, rc, rl⟩⟩) hb3.one; dsimp only at x0 x1 x2 x3 x4 x5 x6 x7 x8 x9 x10 x11 x12 x13 x14 x15 x16 x17 x18 x19 x20 x21 y0 y1 y2))
          go_ret
          exact ⟨rfl, hb3.out⟩
        obtain rfl : ac = 3 := by
          rw [if_neg (by omega)] at ha1
          by_cases a3 : ac = 3
          · exact a3
          · rw [if_neg a3] at ha1; cases ha1
        rw [if_neg (by omega), if_pos rfl] at ha1
        have hto := ixB_iff.1 ha1
        obtain ⟨k, rfl⟩ : ∃ k : Nat, to = (k : Int) := ⟨to.toNat, by omega⟩
        have hkn : k < kn := by omega
        rw [Int.toNat_natCast] at hX
        obtain ⟨g, off, rfl, hg, hc⟩ := HK.out (by omega)
        obtain ⟨l, hl1, hl2, hl3⟩ := nm_eta (kd k).nm
        have d0 : ∀ o o' w1, Bx2 w o o' w1 → w1.cell? ⟨g, off + k * 2, none⟩ = some (.string ⟨l.toArray⟩) := fun o o' w1 hb => by rw [← hl1]; exact ((hc k hkn).below hg hb.out).1
        have hl12 : l.length ≤ 12 := by rw [hl3]; exact HN.out k hkn
        rw [show nmL (kd k) = l by unfold nmL; rw [hl2]] at hX
        have HD0 := Lib.hid d0
        clear a1 a2 ha1 hto hl1 hl2 hl3 hc d0 HK HN
        have hX2 : X = (((((((HD) ++ [94]) ++ T) ++ [47]) ++ U) ++ [32, 98, 101, 103, 105, 110, 32]) ++ l) ++ [10] := by rw [hX]; simp [actT]
        clear hX
        have ha0 := fun w => str_add (HD) [94] (by (try simp only [List.length_append, List.length_cons, List.length_nil]); omega) w
        have ha1 := fun w => str_add ((HD) ++ [94]) T (by (try simp only [List.length_append, List.length_cons, List.length_nil]); omega) w
        have ha2 := fun w => str_add (((HD) ++ [94]) ++ T) [47] (by (try simp only [List.length_append, List.length_cons, List.length_nil]); omega) w
        have ha3 := fun w => str_add ((((HD) ++ [94]) ++ T) ++ [47]) U (by (try simp only [List.length_append, List.length_cons, List.length_nil]); omega) w
        have ha4 := fun w => str_add (((((HD) ++ [94]) ++ T) ++ [47]) ++ U) [32, 98, 101, 103, 105, 110, 32] (by (try simp only [List.length_append, List.length_cons, List.length_nil]); omega) w
        have ha5 := fun w => str_add ((((((HD) ++ [94]) ++ T) ++ [47]) ++ U) ++ [32, 98, 101, 103, 105, 110, 32]) l (by (try simp only [List.length_append, List.length_cons, List.length_nil]); omega) w
        have ha6 := fun w => str_add (((((((HD) ++ [94]) ++ T) ++ [47]) ++ U) ++ [32, 98, 101, 103, 105, 110, 32]) ++ l) [10] (by (try simp only [List.length_append, List.length_cons, List.length_nil]); omega) w
        generalize HD ++ [94] = A0 at hX2 ha0 ha1 ha2 ha3 ha4 ha5 ha6
        generalize A0 ++ T = A1 at hX2 ha1 ha2 ha3 ha4 ha5 ha6
        generalize A1 ++ [47] = A2 at hX2 ha2 ha3 ha4 ha5 ha6
        generalize A2 ++ U = A3 at hX2 ha3 ha4 ha5 ha6
        generalize A3 ++ [32, 98, 101, 103, 105, 110, 32] = A4 at hX2 ha4 ha5 ha6
        generalize A4 ++ l = A5 at hX2 ha5 ha6
        generalize A5 ++ [10] = A6 at hX2 ha6
        subst hX2
        go_enter Tryz.func62, Tryz.ntmps62
        go_wp2_with (first | (refine wpList_load42 _ rfl rfl _ _ rfl ⟨ca, cn, cc, cs, al, true, rx, tr, false, 3, (k : Int)⟩ (ld22 (Bx2.refl w _ _).two) ?_) | (go_at_call 97; refine (HHD.out _ _ _ (Bx2.refl w _ _)).mono ?_; clear HHD; rintro e w1 ⟨rfl, hb1⟩; obtain ⟨x0, x1, x2, x3, x4, x5, x6, x7, x8, x9, x10, x11, x12, x13, x14, x15, x16, x17, x18, x19, x20, x21⟩ := cell22 (r := ⟨ca, cn, cc, cs, al, true, rx, tr, false, 3, (k : Int)⟩) hb1.two; obtain ⟨y0, y1, y2⟩ := cell3 (s := ⟨⟨some ⟨g, off, none⟩, kn, kc, kd⟩, dft, ⟨ra, rn, rc, rl⟩⟩) hb1.one; dsimp only at x0 x1 x2 x3 x4 x5 x6 x7 x8 x9 x10 x11 x12 x13 x14 x15 x16 x17 x18 x19 x20 x21 y0 y1 y2) | (go_at_call 21; refine (HTX.out _ _ _ hb1).mono ?_; clear HTX; rintro e w2 ⟨rfl, hb2⟩; clear x0 x1 x2 x3 x4 x5 x6 x7 x8 x9 x10 x11 x12 x13 x14 x15 x16 x17 x18 x19 x20 x21 y0 y1 y2; obtain ⟨x0, x1, x2, x3, x4, x5, x6, x7, x8, x9, x10, x11, x12, x13, x14, x15, x16, x17, x18, x19, x20, x21⟩ := cell22 (r := ⟨ca, cn, cc, cs, al, true, rx, tr, false, 3, (k : Int)⟩) hb2.two; obtain ⟨y0, y1, y2⟩ := cell3 (s := ⟨⟨some ⟨g, off, none⟩, kn, kc, kd⟩, dft, ⟨ra, rn, rc, rl⟩⟩) hb2.one; dsimp only at x0 x1 x2 x3 x4 x5 x6 x7 x8 x9 x10 x11 x12 x13 x14 x15 x16 x17 x18 x19 x20 x21 y0 y1 y2) | (go_at_call 21; refine (HTT.out _ _ _ hb2).mono ?_; clear HTT; rintro e w3 ⟨rfl, hb3⟩; clear x0 x1 x2 x3 x4 x5 x6 x7 x8 x9 x10 x11 x12 x13 x14 x15 x16 x17 x18 x19 x20 x21 y0 y1 y2; obtain ⟨x0, x1, x2, x3, x4, x5, x6, x7, x8, x9, x10, x11, x12, x13, x14, x15, x16, x17, x18, x19, x20, x21⟩ := cell22 (r := ⟨ca, cn, cc, cs, al, true, rx, tr, false, 3, (k : Int)⟩) hb3.two; obtain ⟨y0, y1, y2⟩ := cell3 (s := ⟨⟨some ⟨g, off, none⟩, kn, kc, kd⟩, dft, ⟨ra, rn, rc, rl⟩⟩) hb3.one; have dk := HD0.out _ _ _ hb3; dsimp only at x0 x1 x2 x3 x4 x5 x6 x7 x8 x9 x10 x11 x12 x13 x14 x15 x16 x17 x18 x19 x20 x21 y0 y1 y2))
        go_ret
        exact ⟨rfl, hb3.out⟩
    · have hk0 := none_k hn0
      rw [hn0] at hX
      simp only [if_true] at hX
      clear hn0 hp1 HTT
      cases bo
      · simp only [Bool.false_eq_true, if_false] at hX
        by_cases a1 : ac = 1
        · subst a1
          clear HK ha1
          have hX2 : X = ((HD) ++ T) ++ [32, 101, 109, 105, 116, 10] := by rw [hX]; simp [actT]
          clear hX
          have ha0 := fun w => str_add (HD) T (by (try simp only [List.length_append, List.length_cons, List.length_nil]); omega) w
          have ha1 := fun w => str_add ((HD) ++ T) [32, 101, 109, 105, 116, 10] (by (try simp only [List.length_append, List.length_cons, List.length_nil]); omega) w
          generalize HD ++ T = A0 at hX2 ha0 ha1
          generalize A0 ++ [32, 101, 109, 105, 116, 10] = A1 at hX2 ha1
          subst hX2
          go_enter Tryz.func62, Tryz.ntmps62
          go_wp2_with (first | (refine wpList_load42 _ rfl rfl _ _ rfl ⟨ca, cn, cc, cs, al, false, rx, tr, false, 1, to⟩ (ld22 (Bx2.refl w _ _).two) ?_) | (go_at_call 97; refine (HHD.out _ _ _ (Bx2.refl w _ _)).mono ?_; clear HHD; rintro e w1 ⟨rfl, hb1⟩; obtain ⟨x0, x1, x2, x3, x4, x5, x6, x7, x8, x9, x10, x11, x12, x13, x14, x15, x16, x17, x18, x19, x20, x21⟩ := cell22 (r := ⟨ca, cn, cc, cs, al, false, rx, tr, false, 1, to⟩) hb1.two; obtain ⟨y0, y1, y2⟩ := cell3 (s := ⟨⟨ka, kn, kc, kd⟩, dft, ⟨ra, rn, rc, rl⟩⟩) hb1.one; dsimp only at x0 x1 x2 x3 x4 x5 x6 x7 x8 x9 x10 x11 x12 x13 x14 x15 x16 x17 x18 x19 x20 x21 y0 y1 y2) | (go_at_call 21; refine (HTX.out _ _ _ hb1).mono ?_; clear HTX; rintro e w2 ⟨rfl, hb2⟩; clear x0 x1 x2 x3 x4 x5 x6 x7 x8 x9 x10 x11 x12 x13 x14 x15 x16 x17 x18 x19 x20 x21 y0 y1 y2; obtain ⟨x0, x1, x2, x3, x4, x5, x6, x7, x8, x9, x10, x11, x12, x13, x14, x15, x16, x17, x18, x19, x20, x21⟩ := cell22 (r := ⟨ca, cn, cc, cs, al, false, rx, tr, false, 1, to⟩) hb2.two; obtain ⟨y0, y1, y2⟩ := cell3 (s := ⟨⟨ka, kn, kc, kd⟩, dft, ⟨ra, rn, rc, rl⟩⟩) hb2.one; dsimp only at x0 x1 x2 x3 x4 x5 x6 x7 x8 x9 x10 x11 x12 x13 x14 x15 x16 x17 x18 x19 x20 x21 y0 y1 y2))
          go_ret
          exact ⟨rfl, hb2.out⟩
        by_cases a2 : ac = 2
        · subst a2
          clear HK ha1
          have hX2 : X = ((HD) ++ T) ++ [32, 115, 107, 105, 112, 10] := by rw [hX]; simp [actT]
          clear hX
          have ha0 := fun w => str_add (HD) T (by (try simp only [List.length_append, List.length_cons, List.length_nil]); omega) w
          have ha1 := fun w => str_add ((HD) ++ T) [32, 115, 107, 105, 112, 10] (by (try simp only [List.length_append, List.length_cons, List.length_nil]); omega) w
          generalize HD ++ T = A0 at hX2 ha0 ha1
          generalize A0 ++ [32, 115, 107, 105, 112, 10] = A1 at hX2 ha1
          subst hX2
          go_enter Tryz.func62, Tryz.ntmps62
          go_wp2_with (first | (refine wpList_load42 _ rfl rfl _ _ rfl ⟨ca, cn, cc, cs, al, false, rx, tr, false, 2, to⟩ (ld22 (Bx2.refl w _ _).two) ?_) | (go_at_call 97; refine (HHD.out _ _ _ (Bx2.refl w _ _)).mono ?_; clear HHD; rintro e w1 ⟨rfl, hb1⟩; obtain ⟨x0, x1, x2, x3, x4, x5, x6, x7, x8, x9, x10, x11, x12, x13, x14, x15, x16, x17, x18, x19, x20, x21⟩ := cell22 (r := ⟨ca, cn, cc, cs, al, false, rx, tr, false, 2, to⟩) hb1.two; obtain ⟨y0, y1, y2⟩ := cell3 (s := ⟨⟨ka, kn, kc, kd⟩, dft, ⟨ra, rn, rc, rl⟩⟩) hb1.one; dsimp only at x0 x1 x2 x3 x4 x5 x6 x7 x8 x9 x10 x11 x12 x13 x14 x15 x16 x17 x18 x19 x20 x21 y0 y1 y2) | (go_at_call 21; refine (HTX.out _ _ _ hb1).mono ?_; clear HTX; rintro e w2 ⟨rfl, hb2⟩; clear x0 x1 x2 x3 x4 x5 x6 x7 x8 x9 x10 x11 x12 x13 x14 x15 x16 x17 x18 x19 x20 x21 y0 y1 y2; obtain ⟨x0, x1, x2, x3, x4, x5, x6, x7, x8, x9, x10, x11, x12, x13, x14, x15, x16, x17, x18, x19, x20, x21⟩ := cell22 (r := ⟨ca, cn, cc, cs, al, false, rx, tr, false, 2, to⟩) hb2.two; obtain ⟨y0, y1, y2⟩ := cell3 (s := ⟨⟨ka, kn, kc, kd⟩, dft, ⟨ra, rn, rc, rl⟩⟩) hb2.one; dsimp only at x0 x1 x2 x3 x4 x5 x6 x7 x8 x9 x10 x11 x12 x13 x14 x15 x16 x17 x18 x19 x20 x21 y0 y1 y2))
          go_ret
          exact ⟨rfl, hb2.out⟩
        obtain rfl : ac = 3 := by
          rw [if_neg (by omega)] at ha1
          by_cases a3 : ac = 3
          · exact a3
          · rw [if_neg a3] at ha1; cases ha1
        rw [if_neg (by omega), if_pos rfl] at ha1
        have hto := ixB_iff.1 ha1
        obtain ⟨k, rfl⟩ : ∃ k : Nat, to = (k : Int) := ⟨to.toNat, by omega⟩
        have hkn : k < kn := by omega
        rw [Int.toNat_natCast] at hX
        obtain ⟨g, off, rfl, hg, hc⟩ := HK.out (by omega)
        obtain ⟨l, hl1, hl2, hl3⟩ := nm_eta (kd k).nm
        have d0 : ∀ o o' w1, Bx2 w o o' w1 → w1.cell? ⟨g, off + k * 2, none⟩ = some (.string ⟨l.toArray⟩) := fun o o' w1 hb => by rw [← hl1]; exact ((hc k hkn).below hg hb.out).1
        have hl12 : l.length ≤ 12 := by rw [hl3]; exact HN.out k hkn
        rw [show nmL (kd k) = l by unfold nmL; rw [hl2]] at hX
        have HD0 := Lib.hid d0
        clear a1 a2 ha1 hto hl1 hl2 hl3 hc d0 HK HN
        have hX2 : X = ((((HD) ++ T) ++ [32, 98, 101, 103, 105, 110, 32]) ++ l) ++ [10] := by rw [hX]; simp [actT]
        clear hX
        have ha0 := fun w => str_add (HD) T (by (try simp only [List.length_append, List.length_cons, List.length_nil]); omega) w
        have ha1 := fun w => str_add ((HD) ++ T) [32, 98, 101, 103, 105, 110, 32] (by (try simp only [List.length_append, List.length_cons, List.length_nil]); omega) w
        have ha2 := fun w => str_add (((HD) ++ T) ++ [32, 98, 101, 103, 105, 110, 32]) l (by (try simp only [List.length_append, List.length_cons, List.length_nil]); omega) w
        have ha3 := fun w => str_add ((((HD) ++ T) ++ [32, 98, 101, 103, 105, 110, 32]) ++ l) [10] (by (try simp only [List.length_append, List.length_cons, List.length_nil]); omega) w
        generalize HD ++ T = A0 at hX2 ha0 ha1 ha2 ha3
        generalize A0 ++ [32, 98, 101, 103, 105, 110, 32] = A1 at hX2 ha1 ha2 ha3
        generalize A1 ++ l = A2 at hX2 ha2 ha3
        generalize A2 ++ [10] = A3 at hX2 ha3
        subst hX2
        go_enter Tryz.func62, Tryz.ntmps62
        go_wp2_with (first | (refine wpList_load42 _ rfl rfl _ _ rfl ⟨ca, cn, cc, cs, al, false, rx, tr, false, 3, (k : Int)⟩ (ld22 (Bx2.refl w _ _).two) ?_) | (go_at_call 97; refine (HHD.out _ _ _ (Bx2.refl w _ _)).mono ?_; clear HHD; rintro e w1 ⟨rfl, hb1⟩; obtain ⟨x0, x1, x2, x3, x4, x5, x6, x7, x8, x9, x10, x11, x12, x13, x14, x15, x16, x17, x18, x19, x20, x21⟩ := cell22 (r := ⟨ca, cn, cc, cs, al, false, rx, tr, false, 3, (k : Int)⟩) hb1.two; obtain ⟨y0, y1, y2⟩ := cell3 (s := ⟨⟨some ⟨g, off, none⟩, kn, kc, kd⟩, dft, ⟨ra, rn, rc, rl⟩⟩) hb1.one; dsimp only at x0 x1 x2 x3 x4 x5 x6 x7 x8 x9 x10 x11 x12 x13 x14 x15 x16 x17 x18 x19 x20 x21 y0 y1 y2) | (go_at_call 21; refine (HTX.out _ _ _ hb1).mono ?_; clear HTX; rintro e w2 ⟨rfl, hb2⟩; clear x0 x1 x2 x3 x4 x5 x6 x7 x8 x9 x10 x11 x12 x13 x14 x15 x16 x17 x18 x19 x20 x21 y0 y1 y2; obtain ⟨x0, x1, x2, x3, x4, x5, x6, x7, x8, x9, x10, x11, x12, x13, x14, x15, x16, x17, x18, x19, x20, x21⟩ := cell22 (r := ⟨ca, cn, cc, cs, al, false, rx, tr, false, 3, (k : Int)⟩) hb2.two; obtain ⟨y0, y1, y2⟩ := cell3 (s := ⟨⟨some ⟨g, off, none⟩, kn, kc, kd⟩, dft, ⟨ra, rn, rc, rl⟩⟩) hb2.one; have dk := HD0.out _ _ _ hb2; dsimp only at x0 x1 x2 x3 x4 x5 x6 x7 x8 x9 x10 x11 x12 x13 x14 x15 x16 x17 x18 x19 x20 x21 y0 y1 y2))
        go_ret
        exact ⟨rfl, hb2.out⟩
      · simp only [if_true] at hX
        by_cases a1 : ac = 1
        · subst a1
          clear HK ha1
          have hX2 : X = (((HD) ++ [94]) ++ T) ++ [32, 101, 109, 105, 116, 10] := by rw [hX]; simp [actT]
          clear hX
          have ha0 := fun w => str_add (HD) [94] (by (try simp only [List.length_append, List.length_cons, List.length_nil]); omega) w
          have ha1 := fun w => str_add ((HD) ++ [94]) T (by (try simp only [List.length_append, List.length_cons, List.length_nil]); omega) w
          have ha2 := fun w => str_add (((HD) ++ [94]) ++ T) [32, 101, 109, 105, 116, 10] (by (try simp only [List.length_append, List.length_cons, List.length_nil]); omega) w
          generalize HD ++ [94] = A0 at hX2 ha0 ha1 ha2
          generalize A0 ++ T = A1 at hX2 ha1 ha2
          generalize A1 ++ [32, 101, 109, 105, 116, 10] = A2 at hX2 ha2
          subst hX2
          go_enter Tryz.func62, Tryz.ntmps62
          go_wp2_with (first | (refine wpList_load42 _ rfl rfl _ _ rfl ⟨ca, cn, cc, cs, al, true, rx, tr, false, 1, to⟩ (ld22 (Bx2.refl w _ _).two) ?_) | (go_at_call 97; refine (HHD.out _ _ _ (Bx2.refl w _ _)).mono ?_; clear HHD; rintro e w1 ⟨rfl, hb1⟩; obtain ⟨x0, x1, x2, x3, x4, x5, x6, x7, x8, x9, x10, x11, x12, x13, x14, x15, x16, x17, x18, x19, x20, x21⟩ := cell22 (r := ⟨ca, cn, cc, cs, al, true, rx, tr, false, 1, to⟩) hb1.two; obtain ⟨y0, y1, y2⟩ := cell3 (s := ⟨⟨ka, kn, kc, kd⟩, dft, ⟨ra, rn, rc, rl⟩⟩) hb1.one; dsimp only at x0 x1 x2 x3 x4 x5 x6 x7 x8 x9 x10 x11 x12 x13 x14 x15 x16 x17 x18 x19 x20 x21 y0 y1 y2) | (go_at_call 21; refine (HTX.out _ _ _ hb1).mono ?_; clear HTX; rintro e w2 ⟨rfl, hb2⟩; clear x0 x1 x2 x3 x4 x5 x6 x7 x8 x9 x10 x11 x12 x13 x14 x15 x16 x17 x18 x19 x20 x21 y0 y1 y2; obtain ⟨x0, x1, x2, x3, x4, x5, x6, x7, x8, x9, x10, x11, x12, x13, x14, x15, x16, x17, x18, x19, x20, x21⟩ := cell22 (r := ⟨ca, cn, cc, cs, al, true, rx, tr, false, 1, to⟩) hb2.two; obtain ⟨y0, y1, y2⟩ := cell3 (s := ⟨⟨ka, kn, kc, kd⟩, dft, ⟨ra, rn, rc, rl⟩⟩) hb2.one; dsimp only at x0 x1 x2 x3 x4 x5 x6 x7 x8 x9 x10 x11 x12 x13 x14 x15 x16 x17 x18 x19 x20 x21 y0 y1 y2))
          go_ret
          exact ⟨rfl, hb2.out⟩
        by_cases a2 : ac = 2
        · subst a2
          clear HK ha1
          have hX2 : X = (((HD) ++ [94]) ++ T) ++ [32, 115, 107, 105, 112, 10] := by rw [hX]; simp [actT]
          clear hX
          have ha0 := fun w => str_add (HD) [94] (by (try simp only [List.length_append, List.length_cons, List.length_nil]); omega) w
          have ha1 := fun w => str_add ((HD) ++ [94]) T (by (try simp only [List.length_append, List.length_cons, List.length_nil]); omega) w
          have ha2 := fun w => str_add (((HD) ++ [94]) ++ T) [32, 115, 107, 105, 112, 10] (by (try simp only [List.length_append, List.length_cons, List.length_nil]); omega) w
          generalize HD ++ [94] = A0 at hX2 ha0 ha1 ha2
          generalize A0 ++ T = A1 at hX2 ha1 ha2
          generalize A1 ++ [32, 115, 107, 105, 112, 10] = A2 at hX2 ha2
          subst hX2
          go_enter Tryz.func62, Tryz.ntmps62
          go_wp2_with (first | (refine wpList_load42 _ rfl rfl _ _ rfl ⟨ca, cn, cc, cs, al, true, rx, tr, false, 2, to⟩ (ld22 (Bx2.refl w _ _).two) ?_) | (go_at_call 97; refine (HHD.out _ _ _ (Bx2.refl w _ _)).mono ?_; clear HHD; rintro e w1 ⟨rfl, hb1⟩; obtain ⟨x0, x1, x2, x3, x4, x5, x6, x7, x8, x9, x10, x11, x12, x13, x14, x15, x16, x17, x18, x19, x20, x21⟩ := cell22 (r := ⟨ca, cn, cc, cs, al, true, rx, tr, false, 2, to⟩) hb1.two; obtain ⟨y0, y1, y2⟩ := cell3 (s := ⟨⟨ka, kn, kc, kd⟩, dft, ⟨ra, rn, rc, rl⟩⟩) hb1.one; dsimp only at x0 x1 x2 x3 x4 x5 x6 x7 x8 x9 x10 x11 x12 x13 x14 x15 x16 x17 x18 x19 x20 x21 y0 y1 y2) | (go_at_call 21; refine (HTX.out _ _ _ hb1).mono ?_; clear HTX; rintro e w2 ⟨rfl, hb2⟩; clear x0 x1 x2 x3 x4 x5 x6 x7 x8 x9 x10 x11 x12 x13 x14 x15 x16 x17 x18 x19 x20 x21 y0 y1 y2; obtain ⟨x0, x1, x2, x3, x4, x5, x6, x7, x8, x9, x10, x11, x12, x13, x14, x15, x16, x17, x18, x19, x20, x21⟩ := cell22 (r := ⟨ca, cn, cc, cs, al, true, rx, tr, false, 2, to⟩) hb2.two; obtain ⟨y0, y1, y2⟩ := cell3 (s := ⟨⟨ka, kn, kc, kd⟩, dft, ⟨ra, rn, rc, rl⟩⟩) hb2.one; dsimp only at x0 x1 x2 x3 x4 x5 x6 x7 x8 x9 x10 x11 x12 x13 x14 x15 x16 x17 x18 x19 x20 x21 y0 y1 y2))
          go_ret
          exact ⟨rfl, hb2.out⟩
        obtain rfl : ac = 3 := by
          rw [if_neg (by omega)] at ha1
          by_cases a3 : ac = 3
          · exact a3
          · rw [if_neg a3] at ha1; cases ha1
        rw [if_neg (by omega), if_pos rfl] at ha1
        have hto := ixB_iff.1 ha1
        obtain ⟨k, rfl⟩ : ∃ k : Nat, to = (k : Int) := ⟨to.toNat, by omega⟩
        have hkn : k < kn := by omega
        rw [Int.toNat_natCast] at hX
        obtain ⟨g, off, rfl, hg, hc⟩ := HK.out (by omega)
        obtain ⟨l, hl1, hl2, hl3⟩ := nm_eta (kd k).nm
        have d0 : ∀ o o' w1, Bx2 w o o' w1 → w1.cell? ⟨g, off + k * 2, none⟩ = some (.string ⟨l.toArray⟩) := fun o o' w1 hb => by rw [← hl1]; exact ((hc k hkn).below hg hb.out).1
        have hl12 : l.length ≤ 12 := by rw [hl3]; exact HN.out k hkn
        rw [show nmL (kd k) = l by unfold nmL; rw [hl2]] at hX
        have HD0 := Lib.hid d0
        clear a1 a2 ha1 hto hl1 hl2 hl3 hc d0 HK HN
        have hX2 : X = (((((HD) ++ [94]) ++ T) ++ [32, 98, 101, 103, 105, 110, 32]) ++ l) ++ [10] := by rw [hX]; simp [actT]
        clear hX
        have ha0 := fun w => str_add (HD) [94] (by (try simp only [List.length_append, List.length_cons, List.length_nil]); omega) w
        have ha1 := fun w => str_add ((HD) ++ [94]) T (by (try simp only [List.length_append, List.length_cons, List.length_nil]); omega) w
        have ha2 := fun w => str_add (((HD) ++ [94]) ++ T) [32, 98, 101, 103, 105, 110, 32] (by (try simp only [List.length_append, List.length_cons, List.length_nil]); omega) w
        have ha3 := fun w => str_add ((((HD) ++ [94]) ++ T) ++ [32, 98, 101, 103, 105, 110, 32]) l (by (try simp only [List.length_append, List.length_cons, List.length_nil]); omega) w
        have ha4 := fun w => str_add (((((HD) ++ [94]) ++ T) ++ [32, 98, 101, 103, 105, 110, 32]) ++ l) [10] (by (try simp only [List.length_append, List.length_cons, List.length_nil]); omega) w
        generalize HD ++ [94] = A0 at hX2 ha0 ha1 ha2 ha3 ha4
        generalize A0 ++ T = A1 at hX2 ha1 ha2 ha3 ha4
        generalize A1 ++ [32, 98, 101, 103, 105, 110, 32] = A2 at hX2 ha2 ha3 ha4
        generalize A2 ++ l = A3 at hX2 ha3 ha4
        generalize A3 ++ [10] = A4 at hX2 ha4
        subst hX2
        go_enter Tryz.func62, Tryz.ntmps62
        go_wp2_with (first | (refine wpList_load42 _ rfl rfl _ _ rfl ⟨ca, cn, cc, cs, al, true, rx, tr, false, 3, (k : Int)⟩ (ld22 (Bx2.refl w _ _).two) ?_) | (go_at_call 97; refine (HHD.out _ _ _ (Bx2.refl w _ _)).mono ?_; clear HHD; rintro e w1 ⟨rfl, hb1⟩; obtain ⟨x0, x1, x2, x3, x4, x5, x6, x7, x8, x9, x10, x11, x12, x13, x14, x15, x16, x17, x18, x19, x20, x21⟩ := cell22 (r := ⟨ca, cn, cc, cs, al, true, rx, tr, false, 3, (k : Int)⟩) hb1.two; obtain ⟨y0, y1, y2⟩ := cell3 (s := ⟨⟨some ⟨g, off, none⟩, kn, kc, kd⟩, dft, ⟨ra, rn, rc, rl⟩⟩) hb1.one; dsimp only at x0 x1 x2 x3 x4 x5 x6 x7 x8 x9 x10 x11 x12 x13 x14 x15 x16 x17 x18 x19 x20 x21 y0 y1 y2) | (go_at_call 21; refine (HTX.out _ _ _ hb1).mono ?_; clear HTX; rintro e w2 ⟨rfl, hb2⟩; clear x0 x1 x2 x3 x4 x5 x6 x7 x8 x9 x10 x11 x12 x13 x14 x15 x16 x17 x18 x19 x20 x21 y0 y1 y2; obtain ⟨x0, x1, x2, x3, x4, x5, x6, x7, x8, x9, x10, x11, x12, x13, x14, x15, x16, x17, x18, x19, x20, x21⟩ := cell22 (r := ⟨ca, cn, cc, cs, al, true, rx, tr, false, 3, (k : Int)⟩) hb2.two; obtain ⟨y0, y1, y2⟩ := cell3 (s := ⟨⟨some ⟨g, off, none⟩, kn, kc, kd⟩, dft, ⟨ra, rn, rc, rl⟩⟩) hb2.one; have dk := HD0.out _ _ _ hb2; dsimp only at x0 x1 x2 x3 x4 x5 x6 x7 x8 x9 x10 x11 x12 x13 x14 x15 x16 x17 x18 x19 x20 x21 y0 y1 y2))
        go_ret
        exact ⟨rfl, hb2.out⟩
  · simp only [if_true, Bool.and_eq_true, Bool.not_eq_true'] at hp1 hX
    have hk0 := none_k hp1.2.2
    obtain rfl : bo = false := hp1.1
    clear hp1 HTT HTX
    by_cases a1 : ac = 1
    · subst a1
      clear HK ha1
      have hX2 : X = ((HD) ++ [60, 60, 69, 79, 70, 62, 62]) ++ [32, 101, 109, 105, 116, 10] := by rw [hX]; simp [actT]
      clear hX
      have ha0 := fun w => str_add (HD) [60, 60, 69, 79, 70, 62, 62] (by (try simp only [List.length_append, List.length_cons, List.length_nil]); omega) w
      have ha1 := fun w => str_add ((HD) ++ [60, 60, 69, 79, 70, 62, 62]) [32, 101, 109, 105, 116, 10] (by (try simp only [List.length_append, List.length_cons, List.length_nil]); omega) w
      generalize HD ++ [60, 60, 69, 79, 70, 62, 62] = A0 at hX2 ha0 ha1
      generalize A0 ++ [32, 101, 109, 105, 116, 10] = A1 at hX2 ha1
      subst hX2
      go_enter Tryz.func62, Tryz.ntmps62
      go_wp2_with (first | (refine wpList_load42 _ rfl rfl _ _ rfl ⟨ca, cn, cc, cs, al, false, rx, tr, true, 1, to⟩ (ld22 (Bx2.refl w _ _).two) ?_) | (go_at_call 97; refine (HHD.out _ _ _ (Bx2.refl w _ _)).mono ?_; clear HHD; rintro e w1 ⟨rfl, hb1⟩; obtain ⟨x0, x1, x2, x3, x4, x5, x6, x7, x8, x9, x10, x11, x12, x13, x14, x15, x16, x17, x18, x19, x20, x21⟩ := cell22 (r := ⟨ca, cn, cc, cs, al, false, rx, tr, true, 1, to⟩) hb1.two; obtain ⟨y0, y1, y2⟩ := cell3 (s := ⟨⟨ka, kn, kc, kd⟩, dft, ⟨ra, rn, rc, rl⟩⟩) hb1.one; dsimp only at x0 x1 x2 x3 x4 x5 x6 x7 x8 x9 x10 x11 x12 x13 x14 x15 x16 x17 x18 x19 x20 x21 y0 y1 y2))
      go_ret
      exact ⟨rfl, hb1.out⟩
    by_cases a2 : ac = 2
    · subst a2
      clear HK ha1
      have hX2 : X = ((HD) ++ [60, 60, 69, 79, 70, 62, 62]) ++ [32, 115, 107, 105, 112, 10] := by rw [hX]; simp [actT]
      clear hX
      have ha0 := fun w => str_add (HD) [60, 60, 69, 79, 70, 62, 62] (by (try simp only [List.length_append, List.length_cons, List.length_nil]); omega) w
      have ha1 := fun w => str_add ((HD) ++ [60, 60, 69, 79, 70, 62, 62]) [32, 115, 107, 105, 112, 10] (by (try simp only [List.length_append, List.length_cons, List.length_nil]); omega) w
      generalize HD ++ [60, 60, 69, 79, 70, 62, 62] = A0 at hX2 ha0 ha1
      generalize A0 ++ [32, 115, 107, 105, 112, 10] = A1 at hX2 ha1
      subst hX2
      go_enter Tryz.func62, Tryz.ntmps62
      go_wp2_with (first | (refine wpList_load42 _ rfl rfl _ _ rfl ⟨ca, cn, cc, cs, al, false, rx, tr, true, 2, to⟩ (ld22 (Bx2.refl w _ _).two) ?_) | (go_at_call 97; refine (HHD.out _ _ _ (Bx2.refl w _ _)).mono ?_; clear HHD; rintro e w1 ⟨rfl, hb1⟩; obtain ⟨x0, x1, x2, x3, x4, x5, x6, x7, x8, x9, x10, x11, x12, x13, x14, x15, x16, x17, x18, x19, x20, x21⟩ := cell22 (r := ⟨ca, cn, cc, cs, al, false, rx, tr, true, 2, to⟩) hb1.two; obtain ⟨y0, y1, y2⟩ := cell3 (s := ⟨⟨ka, kn, kc, kd⟩, dft, ⟨ra, rn, rc, rl⟩⟩) hb1.one; dsimp only at x0 x1 x2 x3 x4 x5 x6 x7 x8 x9 x10 x11 x12 x13 x14 x15 x16 x17 x18 x19 x20 x21 y0 y1 y2))
      go_ret
      exact ⟨rfl, hb1.out⟩
    obtain rfl : ac = 3 := by
      rw [if_neg (by omega)] at ha1
      by_cases a3 : ac = 3
      · exact a3
      · rw [if_neg a3] at ha1; cases ha1
    rw [if_neg (by omega), if_pos rfl] at ha1
    have hto := ixB_iff.1 ha1
    obtain ⟨k, rfl⟩ : ∃ k : Nat, to = (k : Int) := ⟨to.toNat, by omega⟩
    have hkn : k < kn := by omega
    rw [Int.toNat_natCast] at hX
    obtain ⟨g, off, rfl, hg, hc⟩ := HK.out (by omega)
    obtain ⟨l, hl1, hl2, hl3⟩ := nm_eta (kd k).nm
    have d0 : ∀ o o' w1, Bx2 w o o' w1 → w1.cell? ⟨g, off + k * 2, none⟩ = some (.string ⟨l.toArray⟩) := fun o o' w1 hb => by rw [← hl1]; exact ((hc k hkn).below hg hb.out).1
    have hl12 : l.length ≤ 12 := by rw [hl3]; exact HN.out k hkn
    rw [show nmL (kd k) = l by unfold nmL; rw [hl2]] at hX
    have HD0 := Lib.hid d0
    clear a1 a2 ha1 hto hl1 hl2 hl3 hc d0 HK HN
    have hX2 : X = ((((HD) ++ [60, 60, 69, 79, 70, 62, 62]) ++ [32, 98, 101, 103, 105, 110, 32]) ++ l) ++ [10] := by rw [hX]; simp [actT]
    clear hX
    have ha0 := fun w => str_add (HD) [60, 60, 69, 79, 70, 62, 62] (by (try simp only [List.length_append, List.length_cons, List.length_nil]); omega) w
    have ha1 := fun w => str_add ((HD) ++ [60, 60, 69, 79, 70, 62, 62]) [32, 98, 101, 103, 105, 110, 32] (by (try simp only [List.length_append, List.length_cons, List.length_nil]); omega) w
    have ha2 := fun w => str_add (((HD) ++ [60, 60, 69, 79, 70, 62, 62]) ++ [32, 98, 101, 103, 105, 110, 32]) l (by (try simp only [List.length_append, List.length_cons, List.length_nil]); omega) w
    have ha3 := fun w => str_add ((((HD) ++ [60, 60, 69, 79, 70, 62, 62]) ++ [32, 98, 101, 103, 105, 110, 32]) ++ l) [10] (by (try simp only [List.length_append, List.length_cons, List.length_nil]); omega) w
    generalize HD ++ [60, 60, 69, 79, 70, 62, 62] = A0 at hX2 ha0 ha1 ha2 ha3
    generalize A0 ++ [32, 98, 101, 103, 105, 110, 32] = A1 at hX2 ha1 ha2 ha3
    generalize A1 ++ l = A2 at hX2 ha2 ha3
    generalize A2 ++ [10] = A3 at hX2 ha3
    subst hX2
    go_enter Tryz.func62, Tryz.ntmps62
    go_wp2_with (first | (refine wpList_load42 _ rfl rfl _ _ rfl ⟨ca, cn, cc, cs, al, false, rx, tr, true, 3, (k : Int)⟩ (ld22 (Bx2.refl w _ _).two) ?_) | (go_at_call 97; refine (HHD.out _ _ _ (Bx2.refl w _ _)).mono ?_; clear HHD; rintro e w1 ⟨rfl, hb1⟩; obtain ⟨x0, x1, x2, x3, x4, x5, x6, x7, x8, x9, x10, x11, x12, x13, x14, x15, x16, x17, x18, x19, x20, x21⟩ := cell22 (r := ⟨ca, cn, cc, cs, al, false, rx, tr, true, 3, (k : Int)⟩) hb1.two; obtain ⟨y0, y1, y2⟩ := cell3 (s := ⟨⟨some ⟨g, off, none⟩, kn, kc, kd⟩, dft, ⟨ra, rn, rc, rl⟩⟩) hb1.one; have dk := HD0.out _ _ _ hb1; dsimp only at x0 x1 x2 x3 x4 x5 x6 x7 x8 x9 x10 x11 x12 x13 x14 x15 x16 x17 x18 x19 x20 x21 y0 y1 y2))
    go_ret
    exact ⟨rfl, hb1.out⟩
end Go.Proofs.YtnfchlkdppblfaaGreatDoor
