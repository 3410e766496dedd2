/- The document's line of layer 6. -/
import Derived.Test.YtnjplgfpnobicaaGreatDoorCv
import Derived.Test.YtnjplgfpnobicaaGreatDoorCt
import Derived.Test.YtnjplgfpnobicaaGreatDoorBk
namespace Go.Proofs.YtnjplgfpnobicaaGreatDoor
open Go.RowKit Go
theorem text_right {t : Tr} (h : rightB t = true) : Texts t :=
  text_any t (fit_of_ok (by unfold rightB at h; simp only [Bool.and_eq_true] at h; exact h.1)) (by have := (txt_right h).2; omega)
theorem right_k {t : Tr} (h : rightB t = true) : (t.k != 0) = true := by
  have hf : fitT t = true := fit_of_ok (by unfold rightB at h; simp only [Bool.and_eq_true] at h; exact h.1)
  have := fits_cases (fitT_fits hf)
  simp only [bne_iff_ne, ne_eq]
  omega
theorem none_k {t : Tr} (h : noneB t = true) : (t.k != 0) = false := by
  rw [noneB_eq] at h
  simp only [Bool.and_eq_true] at h
  have := h.1
  simp only [beq_iff_eq] at this
  simp [this]
set_option maxRecDepth 100000 in
set_option maxHeartbeats 32000000 in
theorem refline_any (s : Sp) (r : Rl) (w : World) (h : RlIn w w.heap.size r) (hl : CsIn w w.heap.size s.cs) (hr : ruleB r s.cs.n = true) (hn1 : 1 ≤ s.cs.n) (hn : s.cs.n ≤ 8) (hnm : ∀ i, i < s.cs.n → (s.cs.c i).nm.size ≤ 12) :
    Calls Tryz.prog 43 #[specV s, ruleV r] w fun e w' => e = .returned (strV (ruleT r s.cs.c ++ [10])) ∧ Below w.heap.size w w' := by
  have hr1 : startsB r s.cs.n = true ∧ actB r s.cs.n = true ∧ patB r = true := by
    unfold ruleB at hr
    simp only [Bool.and_eq_true] at hr
    exact hr
  have HHD : Hid (∀ o o' w1, Bx2 w o o' w1 → Calls Tryz.prog 69 #[specV s, ruleV r] w1 fun e w' => e = .returned (strV (startsT r s.cs.c)) ∧ Bx2 w o o' w') := Lib.hid fun o o' w1 hb => (refhead_any s r w1 (h.now hb.out).1 (hl.now hb.out) hr1.1 hn hnm).mono fun e w' q => ⟨q.1, hb.to q.2⟩
  have HTX : Hid (rightB r.rx = true → ∀ o o' w1, Bx2 w o o' w1 → Calls Tryz.prog 70 #[nodeV r.rx.k r.rx.s r.rx.lo r.rx.hi (.slice r.rx.a r.rx.n r.rx.cap)] w1 fun e w' => e = .returned (strV (txt r.rx)) ∧ Bx2 w o o' w') := Lib.hid fun q o o' w1 hb => (text_right q w1 (h.now hb.out).2.1).mono fun e w' q => ⟨q.1, hb.to q.2⟩
  have HTT : Hid (rightB r.tr = true → ∀ o o' w1, Bx2 w o o' w1 → Calls Tryz.prog 70 #[nodeV r.tr.k r.tr.s r.tr.lo r.tr.hi (.slice r.tr.a r.tr.n r.tr.cap)] w1 fun e w' => e = .returned (strV (txt r.tr)) ∧ Bx2 w o o' w') := Lib.hid fun q o o' w1 hb => (text_right q w1 (h.now hb.out).2.2).mono fun e w' q => ⟨q.1, hb.to q.2⟩
  have hH := starts_len hr1.1 hn hnm
  have HK := Lib.hid hl.2.2.1
  have HN := Lib.hid hnm
  have hk1 := hl.1
  have hk2 := hl.2.1
  obtain ⟨⟨ka, kn, kc, kd⟩, dft, ⟨ra, rn, rc, rl⟩⟩ := s
  obtain ⟨ca, cn, cc, cs, al, bo, rx, tr, ef, ac, to⟩ := r
  obtain ⟨hs1, ha1, hp1⟩ := hr1
  dsimp only at HHD HTX HTT hH HK HN hk1 hk2 ha1 hn1 hn
  unfold maxLen at hk2
  clear h hl hr hnm hs1
  unfold ruleT
  dsimp only
  obtain ⟨HD, hHD⟩ : ∃ x, x = startsT ⟨ca, cn, cc, cs, al, bo, rx, tr, ef, ac, to⟩ kd := ⟨_, rfl⟩
  rw [← hHD] at HHD hH ⊢
  clear hHD
  obtain ⟨X, hX⟩ : ∃ X, X = (((HD ++ matchT ⟨ca, cn, cc, cs, al, bo, rx, tr, ef, ac, to⟩) ++ [32]) ++ actT ac (nmL (kd to.toNat))) ++ [10] := ⟨_, rfl⟩
  rw [← hX]
  unfold matchT at hX
  unfold patB at hp1
  unfold actB at ha1
  dsimp only at hX hp1 ha1
  cases ef
  · simp only [Bool.false_eq_true, if_false, Bool.and_eq_true, Bool.or_eq_true] at hp1 hX
    have HTX := Lib.hid (HTX.out hp1.1)
    have hlx := (txt_right hp1.1).1
    obtain ⟨T, hT⟩ : ∃ T, T = txt rx := ⟨_, rfl⟩
    rw [← hT] at HTX hX hlx
    clear hT
    cases hn0 : noneB tr
    · have hrt : rightB tr = true := hp1.2.resolve_left (by rw [hn0]; simp)
      have HTT := Lib.hid (HTT.out hrt)
      have hlt := (txt_right hrt).1
      have hk0 := right_k hrt
      rw [hn0] at hX
      simp only [Bool.false_eq_true, if_false] at hX
      obtain ⟨U, hU⟩ : ∃ U, U = txt tr := ⟨_, rfl⟩
      rw [← hU] at HTT hX hlt
      clear hU hn0 hp1 hrt
      cases bo
      · simp only [Bool.false_eq_true, if_false] at hX
        by_cases a1 : ac = 1
        · subst a1
          clear HK ha1
          have hX2 : X = ((((HD) ++ T) ++ [47]) ++ U) ++ [32, 101, 109, 105, 116, 10] := by rw [hX]; simp [actT]
          clear hX
          have ha0 := fun w => str_add (HD) T (by (try simp only [List.length_append, List.length_cons, List.length_nil]); omega) w
          have ha1 := fun w => str_add ((HD) ++ T) [47] (by (try simp only [List.length_append, List.length_cons, List.length_nil]); omega) w
          have ha2 := fun w => str_add (((HD) ++ T) ++ [47]) U (by (try simp only [List.length_append, List.length_cons, List.length_nil]); omega) w
          have ha3 := fun w => str_add ((((HD) ++ T) ++ [47]) ++ U) [32, 101, 109, 105, 116, 10] (by (try simp only [List.length_append, List.length_cons, List.length_nil]); omega) w
          generalize HD ++ T = A0 at hX2 ha0 ha1 ha2 ha3
          generalize A0 ++ [47] = A1 at hX2 ha1 ha2 ha3
          generalize A1 ++ U = A2 at hX2 ha2 ha3
          generalize A2 ++ [32, 101, 109, 105, 116, 10] = A3 at hX2 ha3
          subst hX2
          go_enter Tryz.func43, Tryz.ntmps43
          go_wp2_with (first | (refine wpList_load42 _ rfl rfl _ _ rfl ⟨ca, cn, cc, cs, al, false, rx, tr, false, 1, to⟩ (ld22 (Bx2.refl w _ _).two) ?_) | (go_at_call 69; refine (HHD.out _ _ _ (Bx2.refl w _ _)).mono ?_; clear HHD; rintro e w1 ⟨rfl, hb1⟩; obtain ⟨x0, x1, x2, x3, x4, x5, x6, x7, x8, x9, x10, x11, x12, x13, x14, x15, x16, x17, x18, x19, x20, x21⟩ := cell22 (r := ⟨ca, cn, cc, cs, al, false, rx, tr, false, 1, to⟩) hb1.two; obtain ⟨y0, y1, y2⟩ := cell3 (s := ⟨⟨ka, kn, kc, kd⟩, dft, ⟨ra, rn, rc, rl⟩⟩) hb1.one; dsimp only at x0 x1 x2 x3 x4 x5 x6 x7 x8 x9 x10 x11 x12 x13 x14 x15 x16 x17 x18 x19 x20 x21 y0 y1 y2) | (go_at_call 70; refine (HTX.out _ _ _ hb1).mono ?_; clear HTX; rintro e w2 ⟨rfl, hb2⟩; clear x0 x1 x2 x3 x4 x5 x6 x7 x8 x9 x10 x11 x12 x13 x14 x15 x16 x17 x18 x19 x20 x21 y0 y1 y2; obtain ⟨x0, x1, x2, x3, x4, x5, x6, x7, x8, x9, x10, x11, x12, x13, x14, x15, x16, x17, x18, x19, x20, x21⟩ := cell22 (r := ⟨ca, cn, cc, cs, al, false, rx, tr, false, 1, to⟩) hb2.two; obtain ⟨y0, y1, y2⟩ := cell3 (s := ⟨⟨ka, kn, kc, kd⟩, dft, ⟨ra, rn, rc, rl⟩⟩) hb2.one; dsimp only at x0 x1 x2 x3 x4 x5 x6 x7 x8 x9 x10 x11 x12 x13 x14 x15 x16 x17 x18 x19 x20 x21 y0 y1 y2) | (go_at_call 70; refine (HTT.out _ _ _ hb2).mono ?_; clear HTT; rintro e w3 ⟨rfl, hb3⟩; clear x0 x1 x2 x3 x4 x5 x6 x7 x8 x9 x10 x11 x12 x13 x14 x15 x16 x17 x18 x19 x20 x21 y0 y1 y2; obtain ⟨x0, x1, x2, x3, x4, x5, x6, x7, x8, x9, x10, x11, x12, x13, x14, x15, x16, x17, x18, x19, x20, x21⟩ := cell22 (r := ⟨ca, cn, cc, cs, al, false, rx, tr, false, 1, to⟩) hb3.two; obtain ⟨y0, y1, y2⟩ := cell3 (s := ⟨⟨ka, kn, kc, kd⟩, dft, ⟨ra, rn, rc, rl⟩⟩) hb3.one; dsimp only at x0 x1 x2 x3 x4 x5 x6 x7 x8 x9 x10 x11 x12 x13 x14 x15 x16 x17 x18 x19 x20 x21 y0 y1 y2))
          go_ret
          exact ⟨rfl, hb3.out⟩
        by_cases a2 : ac = 2
        · subst a2
          clear HK ha1
          have hX2 : X = ((((HD) ++ T) ++ [47]) ++ U) ++ [32, 115, 107, 105, 112, 10] := by rw [hX]; simp [actT]
          clear hX
          have ha0 := fun w => str_add (HD) T (by (try simp only [List.length_append, List.length_cons, List.length_nil]); omega) w
          have ha1 := fun w => str_add ((HD) ++ T) [47] (by (try simp only [List.length_append, List.length_cons, List.length_nil]); omega) w
          have ha2 := fun w => str_add (((HD) ++ T) ++ [47]) U (by (try simp only [List.length_append, List.length_cons, List.length_nil]); omega) w
          have ha3 := fun w => str_add ((((HD) ++ T) ++ [47]) ++ U) [32, 115, 107, 105, 112, 10] (by (try simp only [List.length_append, List.length_cons, List.length_nil]); omega) w
          generalize HD ++ T = A0 at hX2 ha0 ha1 ha2 ha3
          generalize A0 ++ [47] = A1 at hX2 ha1 ha2 ha3
          generalize A1 ++ U = A2 at hX2 ha2 ha3
          generalize A2 ++ [32, 115, 107, 105, 112, 10] = A3 at hX2 ha3
          subst hX2
          go_enter Tryz.func43, Tryz.ntmps43
          go_wp2_with (first | (refine wpList_load42 _ rfl rfl _ _ rfl ⟨ca, cn, cc, cs, al, false, rx, tr, false, 2, to⟩ (ld22 (Bx2.refl w _ _).two) ?_) | (go_at_call 69; refine (HHD.out _ _ _ (Bx2.refl w _ _)).mono ?_; clear HHD; rintro e w1 ⟨rfl, hb1⟩; obtain ⟨x0, x1, x2, x3, x4, x5, x6, x7, x8, x9, x10, x11, x12, x13, x14, x15, x16, x17, x18, x19, x20, x21⟩ := cell22 (r := ⟨ca, cn, cc, cs, al, false, rx, tr, false, 2, to⟩) hb1.two; obtain ⟨y0, y1, y2⟩ := cell3 (s := ⟨⟨ka, kn, kc, kd⟩, dft, ⟨ra, rn, rc, rl⟩⟩) hb1.one; dsimp only at x0 x1 x2 x3 x4 x5 x6 x7 x8 x9 x10 x11 x12 x13 x14 x15 x16 x17 x18 x19 x20 x21 y0 y1 y2) | (go_at_call 70; refine (HTX.out _ _ _ hb1).mono ?_; clear HTX; rintro e w2 ⟨rfl, hb2⟩; clear x0 x1 x2 x3 x4 x5 x6 x7 x8 x9 x10 x11 x12 x13 x14 x15 x16 x17 x18 x19 x20 x21 y0 y1 y2; obtain ⟨x0, x1, x2, x3, x4, x5, x6, x7, x8, x9, x10, x11, x12, x13, x14, x15, x16, x17, x18, x19, x20, x21⟩ := cell22 (r := ⟨ca, cn, cc, cs, al, false, rx, tr, false, 2, to⟩) hb2.two; obtain ⟨y0, y1, y2⟩ := cell3 (s := ⟨⟨ka, kn, kc, kd⟩, dft, ⟨ra, rn, rc, rl⟩⟩) hb2.one; dsimp only at x0 x1 x2 x3 x4 x5 x6 x7 x8 x9 x10 x11 x12 x13 x14 x15 x16 x17 x18 x19 x20 x21 y0 y1 y2) | (go_at_call 70; refine (HTT.out _ _ _ hb2).mono ?_; clear HTT; rintro e w3 ⟨rfl, hb3⟩; clear x0 x1 x2 x3 x4 x5 x6 x7 x8 x9 x10 x11 x12 x13 x14 x15 x16 x17 x18 x19 x20 x21 y0 y1 y2; obtain ⟨x0, x1, x2, x3, x4, x5, x6, x7, x8, x9, x10, x11, x12, x13, x14, x15, x16, x17, x18, x19, x20, x21⟩ := cell22 (r := ⟨ca, cn, cc, cs, al, false, rx, tr, false, 2, to⟩) hb3.two; obtain ⟨y0, y1, y2⟩ := cell3 (s := ⟨⟨ka, kn, kc, kd⟩, dft, ⟨ra, rn, rc, rl⟩⟩) hb3.one; dsimp only at x0 x1 x2 x3 x4 x5 x6 x7 x8 x9 x10 x11 x12 x13 x14 x15 x16 x17 x18 x19 x20 x21 y0 y1 y2))
          go_ret
          exact ⟨rfl, hb3.out⟩
        obtain rfl : ac = 3 := by
          rw [if_neg (by omega)] at ha1
          by_cases a3 : ac = 3
          · exact a3
          · rw [if_neg a3] at ha1; cases ha1
        rw [if_neg (by omega), if_pos rfl] at ha1
        have hto := ixB_iff.1 ha1
        obtain ⟨k, rfl⟩ : ∃ k : Nat, to = (k : Int) := ⟨to.toNat, by omega⟩
        have hkn : k < kn := by omega
        rw [Int.toNat_natCast] at hX
        obtain ⟨g, off, rfl, hg, hc⟩ := HK.out (by omega)
        obtain ⟨l, hl1, hl2, hl3⟩ := nm_eta (kd k).nm
        have d0 : ∀ o o' w1, Bx2 w o o' w1 → w1.cell? ⟨g, off + k * 2, none⟩ = some (.string ⟨l.toArray⟩) := fun o o' w1 hb => by rw [← hl1]; exact ((hc k hkn).below hg hb.out).1
        have hl12 : l.length ≤ 12 := by rw [hl3]; exact HN.out k hkn
        rw [show nmL (kd k) = l by unfold nmL; rw [hl2]] at hX
        have HD0 := Lib.hid d0
        clear a1 a2 ha1 hto hl1 hl2 hl3 hc d0 HK HN
        have hX2 : X = ((((((HD) ++ T) ++ [47]) ++ U) ++ [32, 98, 101, 103, 105, 110, 32]) ++ l) ++ [10] := by rw [hX]; simp [actT]
        clear hX
        have ha0 := fun w => str_add (HD) T (by (try simp only [List.length_append, List.length_cons, List.length_nil]); omega) w
        have ha1 := fun w => str_add ((HD) ++ T) [47] (by (try simp only [List.length_append, List.length_cons, List.length_nil]); omega) w
        have ha2 := fun w => str_add (((HD) ++ T) ++ [47]) U (by (try simp only [List.length_append, List.length_cons, List.length_nil]); omega) w
        have ha3 := fun w => str_add ((((HD) ++ T) ++ [47]) ++ U) [32, 98, 101, 103, 105, 110, 32] (by (try simp only [List.length_append, List.length_cons, List.length_nil]); omega) w
        have ha4 := fun w => str_add (((((HD) ++ T) ++ [47]) ++ U) ++ [32, 98, 101, 103, 105, 110, 32]) l (by (try simp only [List.length_append, List.length_cons, List.length_nil]); omega) w
        have ha5 := fun w => str_add ((((((HD) ++ T) ++ [47]) ++ U) ++ [32, 98, 101, 103, 105, 110, 32]) ++ l) [10] (by (try simp only [List.length_append, List.length_cons, List.length_nil]); omega) w
        generalize HD ++ T = A0 at hX2 ha0 ha1 ha2 ha3 ha4 ha5
        generalize A0 ++ [47] = A1 at hX2 ha1 ha2 ha3 ha4 ha5
        generalize A1 ++ U = A2 at hX2 ha2 ha3 ha4 ha5
        generalize A2 ++ [32, 98, 101, 103, 105, 110, 32] = A3 at hX2 ha3 ha4 ha5
        generalize A3 ++ l = A4 at hX2 ha4 ha5
        generalize A4 ++ [10] = A5 at hX2 ha5
        subst hX2
        go_enter Tryz.func43, Tryz.ntmps43
        go_wp2_with (first | (refine wpList_load42 _ rfl rfl _ _ rfl ⟨ca, cn, cc, cs, al, false, rx, tr, false, 3, (k : Int)⟩ (ld22 (Bx2.refl w _ _).two) ?_) | (go_at_call 69; refine (HHD.out _ _ _ (Bx2.refl w _ _)).mono ?_; clear HHD; rintro e w1 ⟨rfl, hb1⟩; obtain ⟨x0, x1, x2, x3, x4, x5, x6, x7, x8, x9, x10, x11, x12, x13, x14, x15, x16, x17, x18, x19, x20, x21⟩ := cell22 (r := ⟨ca, cn, cc, cs, al, false, rx, tr, false, 3, (k : Int)⟩) hb1.two; obtain ⟨y0, y1, y2⟩ := cell3 (s := ⟨⟨some ⟨g, off, none⟩, kn, kc, kd⟩, dft, ⟨ra, rn, rc, rl⟩⟩) hb1.one; dsimp only at x0 x1 x2 x3 x4 x5 x6 x7 x8 x9 x10 x11 x12 x13 x14 x15 x16 x17 x18 x19 x20 x21 y0 y1 y2) | (go_at_call 70; refine (HTX.out _ _ _ hb1).mono ?_; clear HTX; rintro e w2 ⟨rfl, hb2⟩; clear x0 x1 x2 x3 x4 x5 x6 x7 x8 x9 x10 x11 x12 x13 x14 x15 x16 x17 x18 x19 x20 x21 y0 y1 y2; obtain ⟨x0, x1, x2, x3, x4, x5, x6, x7, x8, x9, x10, x11, x12, x13, x14, x15, x16, x17, x18, x19, x20, x21⟩ := cell22 (r := ⟨ca, cn, cc, cs, al, false, rx, tr, false, 3, (k : Int)⟩) hb2.two; obtain ⟨y0, y1, y2⟩ := cell3 (s := ⟨⟨some ⟨g, off, none⟩, kn, kc, kd⟩, dft, ⟨ra, rn, rc, rl⟩⟩) hb2.one; dsimp only at x0 x1 x2 x3 x4 x5 x6 x7 x8 x9 x10 x11 x12 x13 x14 x15 x16 x17 x18 x19 x20 x21 y0 y1 y2) | (go_at_call 70; refine (HTT.out _ _ _ hb2).mono ?_; clear HTT; rintro e w3 ⟨rfl, hb3⟩; clear x0 x1 x2 x3 x4 x5 x6 x7 x8 x9 x10 x11 x12 x13 x14 x15 x16 x17 x18 x19 x20 x21 y0 y1 y2; obtain ⟨x0, x1, x2, x3, x4, x5, x6, x7, x8, x9, x10, x11, x12, x13, x14, x15, x16, x17, x18, x19, x20, x21⟩ := cell22 (r := ⟨ca, cn, cc, cs, al, false, rx, tr, false, 3, (k : Int)⟩) hb3.two; obtain ⟨y0, y1, y2⟩ := cell3 (s := ⟨⟨some ⟨g, off, none⟩, kn, kc, kd⟩, dft, ⟨ra, rn, rc, rl⟩⟩) hb3.one; have dk := HD0.out _ _ _ hb3; dsimp only at x0 x1 x2 x3 x4 x5 x6 x7 x8 x9 x10 x11 x12 x13 x14 x15 x16 x17 x18 x19 x20 x21 y0 y1 y2))
        go_ret
        exact ⟨rfl, hb3.out⟩
      · simp only [if_true] at hX
        by_cases a1 : ac = 1
        · subst a1
          clear HK ha1
          have hX2 : X = (((((HD) ++ [94]) ++ T) ++ [47]) ++ U) ++ [32, 101, 109, 105, 116, 10] := by rw [hX]; simp [actT]
          clear hX
          have ha0 := fun w => str_add (HD) [94] (by (try simp only [List.length_append, List.length_cons, List.length_nil]); omega) w
          have ha1 := fun w => str_add ((HD) ++ [94]) T (by (try simp only [List.length_append, List.length_cons, List.length_nil]); omega) w
          have ha2 := fun w => str_add (((HD) ++ [94]) ++ T) [47] (by (try simp only [List.length_append, List.length_cons, List.length_nil]); omega) w
          have ha3 := fun w => str_add ((((HD) ++ [94]) ++ T) ++ [47]) U (by (try simp only [List.length_append, List.length_cons, List.length_nil]); omega) w
          have ha4 := fun w => str_add (((((HD) ++ [94]) ++ T) ++ [47]) ++ U) [32, 101, 109, 105, 116, 10] (by (try simp only [List.length_append, List.length_cons, List.length_nil]); omega) w
          generalize HD ++ [94] = A0 at hX2 ha0 ha1 ha2 ha3 ha4
          generalize A0 ++ T = A1 at hX2 ha1 ha2 ha3 ha4
          generalize A1 ++ [47] = A2 at hX2 ha2 ha3 ha4
          generalize A2 ++ U = A3 at hX2 ha3 ha4
          generalize A3 ++ [32, 101, 109, 105, 116, 10] = A4 at hX2 ha4
          subst hX2
          go_enter Tryz.func43, Tryz.ntmps43
          go_wp2_with (first | (refine wpList_load42 _ rfl rfl _ _ rfl ⟨ca, cn, cc, cs, al, true, rx, tr, false, 1, to⟩ (ld22 (Bx2.refl w _ _).two) ?_) | (go_at_call 69; refine (HHD.out _ _ _ (Bx2.refl w _ _)).mono ?_; clear HHD; rintro e w1 ⟨rfl, hb1⟩; obtain ⟨x0, x1, x2, x3, x4, x5, x6, x7, x8, x9, x10, x11, x12, x13, x14, x15, x16, x17, x18, x19, x20, x21⟩ := cell22 (r := ⟨ca, cn, cc, cs, al, true, rx, tr, false, 1, to⟩) hb1.two; obtain ⟨y0, y1, y2⟩ := cell3 (s := ⟨⟨ka, kn, kc, kd⟩, dft, ⟨ra, rn, rc, rl⟩⟩) hb1.one; dsimp only at x0 x1 x2 x3 x4 x5 x6 x7 x8 x9 x10 x11 x12 x13 x14 x15 x16 x17 x18 x19 x20 x21 y0 y1 y2) | (go_at_call 70; refine (HTX.out _ _ _ hb1).mono ?_; clear HTX; rintro e w2 ⟨rfl, hb2⟩; clear x0 x1 x2 x3 x4 x5 x6 x7 x8 x9 x10 x11 x12 x13 x14 x15 x16 x17 x18 x19 x20 x21 y0 y1 y2; obtain ⟨x0, x1, x2, x3, x4, x5, x6, x7, x8, x9, x10, x11, x12, x13, x14, x15, x16, x17, x18, x19, x20, x21⟩ := cell22 (r := ⟨ca, cn, cc, cs, al, true, rx, tr, false, 1, to⟩) hb2.two; obtain ⟨y0, y1, y2⟩ := cell3 (s := ⟨⟨ka, kn, kc, kd⟩, dft, ⟨ra, rn, rc, rl⟩⟩) hb2.one; dsimp only at x0 x1 x2 x3 x4 x5 x6 x7 x8 x9 x10 x11 x12 x13 x14 x15 x16 x17 x18 x19 x20 x21 y0 y1 y2) | (go_at_call 70; refine (HTT.out _ _ _ hb2).mono ?_; clear HTT; rintro e w3 ⟨rfl, hb3⟩; clear x0 x1 x2 x3 x4 x5 x6 x7 x8 x9 x10 x11 x12 x13 x14 x15 x16 x17 x18 x19 x20 x21 y0 y1 y2; obtain ⟨x0, x1, x2, x3, x4, x5, x6, x7, x8, x9, x10, x11, x12, x13, x14, x15, x16, x17, x18, x19, x20, x21⟩ := cell22 (r := ⟨ca, cn, cc, cs, al, true, rx, tr, false, 1, to⟩) hb3.two; obtain ⟨y0, y1, y2⟩ := cell3 (s := ⟨⟨ka, kn, kc, kd⟩, dft, ⟨ra, rn, rc, rl⟩⟩) hb3.one; dsimp only at x0 x1 x2 x3 x4 x5 x6 x7 x8 x9 x10 x11 x12 x13 x14 x15 x16 x17 x18 x19 x20 x21 y0 y1 y2))
          go_ret
          exact ⟨rfl, hb3.out⟩
        by_cases a2 : ac = 2
        · subst a2
          clear HK ha1
          have hX2 : X = (((((HD) ++ [94]) ++ T) ++ [47]) ++ U) ++ [32, 115, 107, 105, 112, 10] := by rw [hX]; simp [actT]
          clear hX
          have ha0 := fun w => str_add (HD) [94] (by (try simp only [List.length_append, List.length_cons, List.length_nil]); omega) w
          have ha1 := fun w => str_add ((HD) ++ [94]) T (by (try simp only [List.length_append, List.length_cons, List.length_nil]); omega) w
          have ha2 := fun w => str_add (((HD) ++ [94]) ++ T) [47] (by (try simp only [List.length_append, List.length_cons, List.length_nil]); omega) w
          have ha3 := fun w => str_add ((((HD) ++ [94]) ++ T) ++ [47]) U (by (try simp only [List.length_append, List.length_cons, List.length_nil]); omega) w
          have ha4 := fun w => str_add (((((HD) ++ [94]) ++ T) ++ [47]) ++ U) [32, 115, 107, 105, 112, 10] (by (try simp only [List.length_append, List.length_cons, List.length_nil]); omega) w
          generalize HD ++ [94] = A0 at hX2 ha0 ha1 ha2 ha3 ha4
          generalize A0 ++ T = A1 at hX2 ha1 ha2 ha3 ha4
          generalize A1 ++ [47] = A2 at hX2 ha2 ha3 ha4
          generalize A2 ++ U = A3 at hX2 ha3 ha4
          generalize A3 ++ [32, 115, 107, 105, 112, 10] = A4 at hX2 ha4
          subst hX2
          go_enter Tryz.func43, Tryz.ntmps43
          go_wp2_with (first | (refine wpList_load42 _ rfl rfl _ _ rfl ⟨ca, cn, cc, cs, al, true, rx, tr, false, 2, to⟩ (ld22 (Bx2.refl w _ _).two) ?_) | (go_at_call 69; refine (HHD.out _ _ _ (Bx2.refl w _ _)).mono ?_; clear HHD; rintro e w1 ⟨rfl, hb1⟩; obtain ⟨x0, x1, x2, x3, x4, x5, x6, x7, x8, x9, x10, x11, x12, x13, x14, x15, x16, x17, x18, x19, x20, x21⟩ := cell22 (r := ⟨ca, cn, cc, cs, al, true, rx, tr, false, 2, to⟩) hb1.two; obtain ⟨y0, y1, y2⟩ := cell3 (s := ⟨⟨ka, kn, kc, kd⟩, dft, ⟨ra, rn, rc, rl⟩⟩) hb1.one; dsimp only at x0 x1 x2 x3 x4 x5 x6 x7 x8 x9 x10 x11 x12 x13 x14 x15 x16 x17 x18 x19 x20 x21 y0 y1 y2) | (go_at_call 70; refine (HTX.out _ _ _ hb1).mono ?_; clear HTX; rintro e w2 ⟨rfl, hb2⟩; clear x0 x1 x2 x3 x4 x5 x6 x7 x8 x9 x10 x11 x12 x13 x14 x15 x16 x17 x18 x19 x20 x21 y0 y1 y2; obtain ⟨x0, x1, x2, x3, x4, x5, x6, x7, x8, x9, x10, x11, x12, x13, x14, x15, x16, x17, x18, x19, x20, x21⟩ := cell22 (r := ⟨ca, cn, cc, cs, al, true, rx, tr, false, 2, to⟩) hb2.two; obtain ⟨y0, y1, y2⟩ := cell3 (s := ⟨⟨ka, kn, kc, kd⟩, dft, ⟨ra, rn, rc, rl⟩⟩) hb2.one; dsimp only at x0 x1 x2 x3 x4 x5 x6 x7 x8 x9 x10 x11 x12 x13 x14 x15 x16 x17 x18 x19 x20 x21 y0 y1 y2) | (go_at_call 70; refine (HTT.out _ _ _ hb2).mono ?_; clear HTT; rintro e w3 ⟨rfl, hb3⟩; clear x0 x1 x2 x3 x4 x5 x6 x7 x8 x9 x10 x11 x12 x13 x14 x15 x16 x17 x18 x19 x20 x21 y0 y1 y2; obtain ⟨x0, x1, x2, x3, x4, x5, x6, x7, x8, x9, x10, x11, x12, x13, x14, x15, x16, x17, x18, x19, x20, x21⟩ := cell22 (r := ⟨ca, cn, cc, cs, al, true, rx, tr, false, 2, to⟩) hb3.two; obtain ⟨y0, y1, y2⟩ := cell3 (s := ⟨⟨ka, kn, kc, kd⟩, dft, ⟨ra, rn, rc, rl⟩⟩) hb3.one; dsimp only at x0 x1 x2 x3 x4 x5 x6 x7 x8 x9 x10 x11 x12 x13 x14 x15 x16 x17 x18 x19 x20 x21 y0 y1 y2))
          go_ret
          exact ⟨rfl, hb3.out⟩
        obtain rfl : ac = 3 := by
          rw [if_neg (by omega)] at ha1
          by_cases a3 : ac = 3
          · exact a3
          · rw [if_neg a3] at ha1; cases ha1
        rw [if_neg (by omega), if_pos rfl] at ha1
        have hto := ixB_iff.1 ha1
        obtain ⟨k, rfl⟩ : ∃ k : Nat, to = (k : Int) := ⟨to.toNat, by omega⟩
        have hkn : k < kn := by omega
        rw [Int.toNat_natCast] at hX
        obtain ⟨g, off, rfl, hg, hc⟩ := HK.out (by omega)
        obtain ⟨l, hl1, hl2, hl3⟩ := nm_eta (kd k).nm
        have d0 : ∀ o o' w1, Bx2 w o o' w1 → w1.cell? ⟨g, off + k * 2, none⟩ = some (.string ⟨l.toArray⟩) := fun o o' w1 hb => by rw [← hl1]; exact ((hc k hkn).below hg hb.out).1
        have hl12 : l.length ≤ 12 := by rw [hl3]; exact HN.out k hkn
        rw [show nmL (kd k) = l by unfold nmL; rw [hl2]] at hX
        have HD0 := Lib.hid d0
        clear a1 a2 ha1 hto hl1 hl2 hl3 hc d0 HK HN
        have hX2 : X = (((((((HD) ++ [94]) ++ T) ++ [47]) ++ U) ++ [32, 98, 101, 103, 105, 110, 32]) ++ l) ++ [10] := by rw [hX]; simp [actT]
        clear hX
        have ha0 := fun w => str_add (HD) [94] (by (try simp only [List.length_append, List.length_cons, List.length_nil]); omega) w
        have ha1 := fun w => str_add ((HD) ++ [94]) T (by (try simp only [List.length_append, List.length_cons, List.length_nil]); omega) w
        have ha2 := fun w => str_add (((HD) ++ [94]) ++ T) [47] (by (try simp only [List.length_append, List.length_cons, List.length_nil]); omega) w
        have ha3 := fun w => str_add ((((HD) ++ [94]) ++ T) ++ [47]) U (by (try simp only [List.length_append, List.length_cons, List.length_nil]); omega) w
        have ha4 := fun w => str_add (((((HD) ++ [94]) ++ T) ++ [47]) ++ U) [32, 98, 101, 103, 105, 110, 32] (by (try simp only [List.length_append, List.length_cons, List.length_nil]); omega) w
        have ha5 := fun w => str_add ((((((HD) ++ [94]) ++ T) ++ [47]) ++ U) ++ [32, 98, 101, 103, 105, 110, 32]) l (by (try simp only [List.length_append, List.length_cons, List.length_nil]); omega) w
        have ha6 := fun w => str_add (((((((HD) ++ [94]) ++ T) ++ [47]) ++ U) ++ [32, 98, 101, 103, 105, 110, 32]) ++ l) [10] (by (try simp only [List.length_append, List.length_cons, List.length_nil]); omega) w
        generalize HD ++ [94] = A0 at hX2 ha0 ha1 ha2 ha3 ha4 ha5 ha6
        generalize A0 ++ T = A1 at hX2 ha1 ha2 ha3 ha4 ha5 ha6
        generalize A1 ++ [47] = A2 at hX2 ha2 ha3 ha4 ha5 ha6
        generalize A2 ++ U = A3 at hX2 ha3 ha4 ha5 ha6
        generalize A3 ++ [32, 98, 101, 103, 105, 110, 32] = A4 at hX2 ha4 ha5 ha6
        generalize A4 ++ l = A5 at hX2 ha5 ha6
        generalize A5 ++ [10] = A6 at hX2 ha6
        subst hX2
        go_enter Tryz.func43, Tryz.ntmps43
        go_wp2_with (first | (refine wpList_load42 _ rfl rfl _ _ rfl ⟨ca, cn, cc, cs, al, true, rx, tr, false, 3, (k : Int)⟩ (ld22 (Bx2.refl w _ _).two) ?_) | (go_at_call 69; refine (HHD.out _ _ _ (Bx2.refl w _ _)).mono ?_; clear HHD; rintro e w1 ⟨rfl, hb1⟩; obtain ⟨x0, x1, x2, x3, x4, x5, x6, x7, x8, x9, x10, x11, x12, x13, x14, x15, x16, x17, x18, x19, x20, x21⟩ := cell22 (r := ⟨ca, cn, cc, cs, al, true, rx, tr, false, 3, (k : Int)⟩) hb1.two; obtain ⟨y0, y1, y2⟩ := cell3 (s := ⟨⟨some ⟨g, off, none⟩, kn, kc, kd⟩, dft, ⟨ra, rn, rc, rl⟩⟩) hb1.one; dsimp only at x0 x1 x2 x3 x4 x5 x6 x7 x8 x9 x10 x11 x12 x13 x14 x15 x16 x17 x18 x19 x20 x21 y0 y1 y2) | (go_at_call 70; refine (HTX.out _ _ _ hb1).mono ?_; clear HTX; rintro e w2 ⟨rfl, hb2⟩; clear x0 x1 x2 x3 x4 x5 x6 x7 x8 x9 x10 x11 x12 x13 x14 x15 x16 x17 x18 x19 x20 x21 y0 y1 y2; obtain ⟨x0, x1, x2, x3, x4, x5, x6, x7, x8, x9, x10, x11, x12, x13, x14, x15, x16, x17, x18, x19, x20, x21⟩ := cell22 (r := ⟨ca, cn, cc, cs, al, true, rx, tr, false, 3, (k : Int)⟩) hb2.two; obtain ⟨y0, y1, y2⟩ := cell3 (s := ⟨⟨some ⟨g, off, none⟩, kn, kc, kd⟩, dft, ⟨ra, rn, rc, rl⟩⟩) hb2.one; dsimp only at x0 x1 x2 x3 x4 x5 x6 x7 x8 x9 x10 x11 x12 x13 x14 x15 x16 x17 x18 x19 x20 x21 y0 y1 y2) | (go_at_call 70; refine (HTT.out _ _ _ hb2).mono ?_; clear HTT; rintro e w3 ⟨rfl, hb3⟩; clear x0 x1 x2 x3 x4 x5 x6 x7 x8 x9 x10 x11 x12 x13 x14 x15 x16 x17 x18 x19 x20 x21 y0 y1 y2; obtain ⟨x0, x1, x2, x3, x4, x5, x6, x7, x8, x9, x10, x11, x12, x13, x14, x15, x16, x17, x18, x19, x20, x21⟩ := cell22 (r := ⟨ca, cn, cc, cs, al, true, rx, tr, false, 3, (k : Int)⟩) hb3.two; obtain ⟨y0, y1, y2⟩ := cell3 (s := ⟨⟨some ⟨g, off, none⟩, kn, kc, kd⟩, dft, ⟨ra, rn, rc, rl⟩⟩) hb3.one; have dk := HD0.out _ _ _ hb3; dsimp only at x0 x1 x2 x3 x4 x5 x6 x7 x8 x9 x10 x11 x12 x13 x14 x15 x16 x17 x18 x19 x20 x21 y0 y1 y2))
        go_ret
        exact ⟨rfl, hb3.out⟩
    · have hk0 := none_k hn0
      rw [hn0] at hX
      simp only [if_true] at hX
      clear hn0 hp1 HTT
      cases bo
      · simp only [Bool.false_eq_true, if_false] at hX
        by_cases a1 : ac = 1
        · subst a1
          clear HK ha1
          have hX2 : X = ((HD) ++ T) ++ [32, 101, 109, 105, 116, 10] := by rw [hX]; simp [actT]
          clear hX
          have ha0 := fun w => str_add (HD) T (by (try simp only [List.length_append, List.length_cons, List.length_nil]); omega) w
          have ha1 := fun w => str_add ((HD) ++ T) [32, 101, 109, 105, 116, 10] (by (try simp only [List.length_append, List.length_cons, List.length_nil]); omega) w
          generalize HD ++ T = A0 at hX2 ha0 ha1
          generalize A0 ++ [32, 101, 109, 105, 116, 10] = A1 at hX2 ha1
          subst hX2
          go_enter Tryz.func43, Tryz.ntmps43
          go_wp2_with (first | (refine wpList_load42 _ rfl rfl _ _ rfl ⟨ca, cn, cc, cs, al, false, rx, tr, false, 1, to⟩ (ld22 (Bx2.refl w _ _).two) ?_) | (go_at_call 69; refine (HHD.out _ _ _ (Bx2.refl w _ _)).mono ?_; clear HHD; rintro e w1 ⟨rfl, hb1⟩; obtain ⟨x0, x1, x2, x3, x4, x5, x6, x7, x8, x9, x10, x11, x12, x13, x14, x15, x16, x17, x18, x19, x20, x21⟩ := cell22 (r := ⟨ca, cn, cc, cs, al, false, rx, tr, false, 1, to⟩) hb1.two; obtain ⟨y0, y1, y2⟩ := cell3 (s := ⟨⟨ka, kn, kc, kd⟩, dft, ⟨ra, rn, rc, rl⟩⟩) hb1.one; dsimp only at x0 x1 x2 x3 x4 x5 x6 x7 x8 x9 x10 x11 x12 x13 x14 x15 x16 x17 x18 x19 x20 x21 y0 y1 y2) | (go_at_call 70; refine (HTX.out _ _ _ hb1).mono ?_; clear HTX; rintro e w2 ⟨rfl, hb2⟩; clear x0 x1 x2 x3 x4 x5 x6 x7 x8 x9 x10 x11 x12 x13 x14 x15 x16 x17 x18 x19 x20 x21 y0 y1 y2; obtain ⟨x0, x1, x2, x3, x4, x5, x6, x7, x8, x9, x10, x11, x12, x13, x14, x15, x16, x17, x18, x19, x20, x21⟩ := cell22 (r := ⟨ca, cn, cc, cs, al, false, rx, tr, false, 1, to⟩) hb2.two; obtain ⟨y0, y1, y2⟩ := cell3 (s := ⟨⟨ka, kn, kc, kd⟩, dft, ⟨ra, rn, rc, rl⟩⟩) hb2.one; dsimp only at x0 x1 x2 x3 x4 x5 x6 x7 x8 x9 x10 x11 x12 x13 x14 x15 x16 x17 x18 x19 x20 x21 y0 y1 y2))
          go_ret
          exact ⟨rfl, hb2.out⟩
        by_cases a2 : ac = 2
        · subst a2
          clear HK ha1
          have hX2 : X = ((HD) ++ T) ++ [32, 115, 107, 105, 112, 10] := by rw [hX]; simp [actT]
          clear hX
          have ha0 := fun w => str_add (HD) T (by (try simp only [List.length_append, List.length_cons, List.length_nil]); omega) w
          have ha1 := fun w => str_add ((HD) ++ T) [32, 115, 107, 105, 112, 10] (by (try simp only [List.length_append, List.length_cons, List.length_nil]); omega) w
          generalize HD ++ T = A0 at hX2 ha0 ha1
          generalize A0 ++ [32, 115, 107, 105, 112, 10] = A1 at hX2 ha1
          subst hX2
          go_enter Tryz.func43, Tryz.ntmps43
          go_wp2_with (first | (refine wpList_load42 _ rfl rfl _ _ rfl ⟨ca, cn, cc, cs, al, false, rx, tr, false, 2, to⟩ (ld22 (Bx2.refl w _ _).two) ?_) | (go_at_call 69; refine (HHD.out _ _ _ (Bx2.refl w _ _)).mono ?_; clear HHD; rintro e w1 ⟨rfl, hb1⟩; obtain ⟨x0, x1, x2, x3, x4, x5, x6, x7, x8, x9, x10, x11, x12, x13, x14, x15, x16, x17, x18, x19, x20, x21⟩ := cell22 (r := ⟨ca, cn, cc, cs, al, false, rx, tr, false, 2, to⟩) hb1.two; obtain ⟨y0, y1, y2⟩ := cell3 (s := ⟨⟨ka, kn, kc, kd⟩, dft, ⟨ra, rn, rc, rl⟩⟩) hb1.one; dsimp only at x0 x1 x2 x3 x4 x5 x6 x7 x8 x9 x10 x11 x12 x13 x14 x15 x16 x17 x18 x19 x20 x21 y0 y1 y2) | (go_at_call 70; refine (HTX.out _ _ _ hb1).mono ?_; clear HTX; rintro e w2 ⟨rfl, hb2⟩; clear x0 x1 x2 x3 x4 x5 x6 x7 x8 x9 x10 x11 x12 x13 x14 x15 x16 x17 x18 x19 x20 x21 y0 y1 y2; obtain ⟨x0, x1, x2, x3, x4, x5, x6, x7, x8, x9, x10, x11, x12, x13, x14, x15, x16, x17, x18, x19, x20, x21⟩ := cell22 (r := ⟨ca, cn, cc, cs, al, false, rx, tr, false, 2, to⟩) hb2.two; obtain ⟨y0, y1, y2⟩ := cell3 (s := ⟨⟨ka, kn, kc, kd⟩, dft, ⟨ra, rn, rc, rl⟩⟩) hb2.one; dsimp only at x0 x1 x2 x3 x4 x5 x6 x7 x8 x9 x10 x11 x12 x13 x14 x15 x16 x17 x18 x19 x20 x21 y0 y1 y2))
          go_ret
          exact ⟨rfl, hb2.out⟩
        obtain rfl : ac = 3 := by
          rw [if_neg (by omega)] at ha1
          by_cases a3 : ac = 3
          · exact a3
          · rw [if_neg a3] at ha1; cases ha1
        rw [if_neg (by omega), if_pos rfl] at ha1
        have hto := ixB_iff.1 ha1
        obtain ⟨k, rfl⟩ : ∃ k : Nat, to = (k : Int) := ⟨to.toNat, by omega⟩
        have hkn : k < kn := by omega
        rw [Int.toNat_natCast] at hX
        obtain ⟨g, off, rfl, hg, hc⟩ := HK.out (by omega)
        obtain ⟨l, hl1, hl2, hl3⟩ := nm_eta (kd k).nm
        have d0 : ∀ o o' w1, Bx2 w o o' w1 → w1.cell? ⟨g, off + k * 2, none⟩ = some (.string ⟨l.toArray⟩) := fun o o' w1 hb => by rw [← hl1]; exact ((hc k hkn).below hg hb.out).1
        have hl12 : l.length ≤ 12 := by rw [hl3]; exact HN.out k hkn
        rw [show nmL (kd k) = l by unfold nmL; rw [hl2]] at hX
        have HD0 := Lib.hid d0
        clear a1 a2 ha1 hto hl1 hl2 hl3 hc d0 HK HN
        have hX2 : X = ((((HD) ++ T) ++ [32, 98, 101, 103, 105, 110, 32]) ++ l) ++ [10] := by rw [hX]; simp [actT]
        clear hX
        have ha0 := fun w => str_add (HD) T (by (try simp only [List.length_append, List.length_cons, List.length_nil]); omega) w
        have ha1 := fun w => str_add ((HD) ++ T) [32, 98, 101, 103, 105, 110, 32] (by (try simp only [List.length_append, List.length_cons, List.length_nil]); omega) w
        have ha2 := fun w => str_add (((HD) ++ T) ++ [32, 98, 101, 103, 105, 110, 32]) l (by (try simp only [List.length_append, List.length_cons, List.length_nil]); omega) w
        have ha3 := fun w => str_add ((((HD) ++ T) ++ [32, 98, 101, 103, 105, 110, 32]) ++ l) [10] (by (try simp only [List.length_append, List.length_cons, List.length_nil]); omega) w
        generalize HD ++ T = A0 at hX2 ha0 ha1 ha2 ha3
        generalize A0 ++ [32, 98, 101, 103, 105, 110, 32] = A1 at hX2 ha1 ha2 ha3
        generalize A1 ++ l = A2 at hX2 ha2 ha3
        generalize A2 ++ [10] = A3 at hX2 ha3
        subst hX2
        go_enter Tryz.func43, Tryz.ntmps43
        go_wp2_with (first | (refine wpList_load42 _ rfl rfl _ _ rfl ⟨ca, cn, cc, cs, al, false, rx, tr, false, 3, (k : Int)⟩ (ld22 (Bx2.refl w _ _).two) ?_) | (go_at_call 69; refine (HHD.out _ _ _ (Bx2.refl w _ _)).mono ?_; clear HHD; rintro e w1 ⟨rfl, hb1⟩; obtain ⟨x0, x1, x2, x3, x4, x5, x6, x7, x8, x9, x10, x11, x12, x13, x14, x15, x16, x17, x18, x19, x20, x21⟩ := cell22 (r := ⟨ca, cn, cc, cs, al, false, rx, tr, false, 3, (k : Int)⟩) hb1.two; obtain ⟨y0, y1, y2⟩ := cell3 (s := ⟨⟨some ⟨g, off, none⟩, kn, kc, kd⟩, dft, ⟨ra, rn, rc, rl⟩⟩) hb1.one; dsimp only at x0 x1 x2 x3 x4 x5 x6 x7 x8 x9 x10 x11 x12 x13 x14 x15 x16 x17 x18 x19 x20 x21 y0 y1 y2) | (go_at_call 70; refine (HTX.out _ _ _ hb1).mono ?_; clear HTX; rintro e w2 ⟨rfl, hb2⟩; clear x0 x1 x2 x3 x4 x5 x6 x7 x8 x9 x10 x11 x12 x13 x14 x15 x16 x17 x18 x19 x20 x21 y0 y1 y2; obtain ⟨x0, x1, x2, x3, x4, x5, x6, x7, x8, x9, x10, x11, x12, x13, x14, x15, x16, x17, x18, x19, x20, x21⟩ := cell22 (r := ⟨ca, cn, cc, cs, al, false, rx, tr, false, 3, (k : Int)⟩) hb2.two; obtain ⟨y0, y1, y2⟩ := cell3 (s := ⟨⟨some ⟨g, off, none⟩, kn, kc, kd⟩, dft, ⟨ra, rn, rc, rl⟩⟩) hb2.one; have dk := HD0.out _ _ _ hb2; dsimp only at x0 x1 x2 x3 x4 x5 x6 x7 x8 x9 x10 x11 x12 x13 x14 x15 x16 x17 x18 x19 x20 x21 y0 y1 y2))
        go_ret
        exact ⟨rfl, hb2.out⟩
      · simp only [if_true] at hX
        by_cases a1 : ac = 1
        · subst a1
          clear HK ha1
          have hX2 : X = (((HD) ++ [94]) ++ T) ++ [32, 101, 109, 105, 116, 10] := by rw [hX]; simp [actT]
          clear hX
          have ha0 := fun w => str_add (HD) [94] (by (try simp only [List.length_append, List.length_cons, List.length_nil]); omega) w
          have ha1 := fun w => str_add ((HD) ++ [94]) T (by (try simp only [List.length_append, List.length_cons, List.length_nil]); omega) w
          have ha2 := fun w => str_add (((HD) ++ [94]) ++ T) [32, 101, 109, 105, 116, 10] (by (try simp only [List.length_append, List.length_cons, List.length_nil]); omega) w
          generalize HD ++ [94] = A0 at hX2 ha0 ha1 ha2
          generalize A0 ++ T = A1 at hX2 ha1 ha2
          generalize A1 ++ [32, 101, 109, 105, 116, 10] = A2 at hX2 ha2
          subst hX2
          go_enter Tryz.func43, Tryz.ntmps43
          go_wp2_with (first | (refine wpList_load42 _ rfl rfl _ _ rfl ⟨ca, cn, cc, cs, al, true, rx, tr, false, 1, to⟩ (ld22 (Bx2.refl w _ _).two) ?_) | (go_at_call 69; refine (HHD.out _ _ _ (Bx2.refl w _ _)).mono ?_; clear HHD; rintro e w1 ⟨rfl, hb1⟩; obtain ⟨x0, x1, x2, x3, x4, x5, x6, x7, x8, x9, x10, x11, x12, x13, x14, x15, x16, x17, x18, x19, x20, x21⟩ := cell22 (r := ⟨ca, cn, cc, cs, al, true, rx, tr, false, 1, to⟩) hb1.two; obtain ⟨y0, y1, y2⟩ := cell3 (s := ⟨⟨ka, kn, kc, kd⟩, dft, ⟨ra, rn, rc, rl⟩⟩) hb1.one; dsimp only at x0 x1 x2 x3 x4 x5 x6 x7 x8 x9 x10 x11 x12 x13 x14 x15 x16 x17 x18 x19 x20 x21 y0 y1 y2) | (go_at_call 70; refine (HTX.out _ _ _ hb1).mono ?_; clear HTX; rintro e w2 ⟨rfl, hb2⟩; clear x0 x1 x2 x3 x4 x5 x6 x7 x8 x9 x10 x11 x12 x13 x14 x15 x16 x17 x18 x19 x20 x21 y0 y1 y2; obtain ⟨x0, x1, x2, x3, x4, x5, x6, x7, x8, x9, x10, x11, x12, x13, x14, x15, x16, x17, x18, x19, x20, x21⟩ := cell22 (r := ⟨ca, cn, cc, cs, al, true, rx, tr, false, 1, to⟩) hb2.two; obtain ⟨y0, y1, y2⟩ := cell3 (s := ⟨⟨ka, kn, kc, kd⟩, dft, ⟨ra, rn, rc, rl⟩⟩) hb2.one; dsimp only at x0 x1 x2 x3 x4 x5 x6 x7 x8 x9 x10 x11 x12 x13 x14 x15 x16 x17 x18 x19 x20 x21 y0 y1 y2))
          go_ret
          exact ⟨rfl, hb2.out⟩
        by_cases a2 : ac = 2
        · subst a2
          clear HK ha1
          have hX2 : X = (((HD) ++ [94]) ++ T) ++ [32, 115, 107, 105, 112, 10] := by rw [hX]; simp [actT]
          clear hX
          have ha0 := fun w => str_add (HD) [94] (by (try simp only [List.length_append, List.length_cons, List.length_nil]); omega) w
          have ha1 := fun w => str_add ((HD) ++ [94]) T (by (try simp only [List.length_append, List.length_cons, List.length_nil]); omega) w
          have ha2 := fun w => str_add (((HD) ++ [94]) ++ T) [32, 115, 107, 105, 112, 10] (by (try simp only [List.length_append, List.length_cons, List.length_nil]); omega) w
          generalize HD ++ [94] = A0 at hX2 ha0 ha1 ha2
          generalize A0 ++ T = A1 at hX2 ha1 ha2
          generalize A1 ++ [32, 115, 107, 105, 112, 10] = A2 at hX2 ha2
          subst hX2
          go_enter Tryz.func43, Tryz.ntmps43
          go_wp2_with (first | (refine wpList_load42 _ rfl rfl _ _ rfl ⟨ca, cn, cc, cs, al, true, rx, tr, false, 2, to⟩ (ld22 (Bx2.refl w _ _).two) ?_) | (go_at_call 69; refine (HHD.out _ _ _ (Bx2.refl w _ _)).mono ?_; clear HHD; rintro e w1 ⟨rfl, hb1⟩; obtain ⟨x0, x1, x2, x3, x4, x5, x6, x7, x8, x9, x10, x11, x12, x13, x14, x15, x16, x17, x18, x19, x20, x21⟩ := cell22 (r := ⟨ca, cn, cc, cs, al, true, rx, tr, false, 2, to⟩) hb1.two; obtain ⟨y0, y1, y2⟩ := cell3 (s := ⟨⟨ka, kn, kc, kd⟩, dft, ⟨ra, rn, rc, rl⟩⟩) hb1.one; dsimp only at x0 x1 x2 x3 x4 x5 x6 x7 x8 x9 x10 x11 x12 x13 x14 x15 x16 x17 x18 x19 x20 x21 y0 y1 y2) | (go_at_call 70; refine (HTX.out _ _ _ hb1).mono ?_; clear HTX; rintro e w2 ⟨rfl, hb2⟩; clear x0 x1 x2 x3 x4 x5 x6 x7 x8 x9 x10 x11 x12 x13 x14 x15 x16 x17 x18 x19 x20 x21 y0 y1 y2; obtain ⟨x0, x1, x2, x3, x4, x5, x6, x7, x8, x9, x10, x11, x12, x13, x14, x15, x16, x17, x18, x19, x20, x21⟩ := cell22 (r := ⟨ca, cn, cc, cs, al, true, rx, tr, false, 2, to⟩) hb2.two; obtain ⟨y0, y1, y2⟩ := cell3 (s := ⟨⟨ka, kn, kc, kd⟩, dft, ⟨ra, rn, rc, rl⟩⟩) hb2.one; dsimp only at x0 x1 x2 x3 x4 x5 x6 x7 x8 x9 x10 x11 x12 x13 x14 x15 x16 x17 x18 x19 x20 x21 y0 y1 y2))
          go_ret
          exact ⟨rfl, hb2.out⟩
        obtain rfl : ac = 3 := by
          rw [if_neg (by omega)] at ha1
          by_cases a3 : ac = 3
          · exact a3
          · rw [if_neg a3] at ha1; cases ha1
        rw [if_neg (by omega), if_pos rfl] at ha1
        have hto := ixB_iff.1 ha1
        obtain ⟨k, rfl⟩ : ∃ k : Nat, to = (k : Int) := ⟨to.toNat, by omega⟩
        have hkn : k < kn := by omega
        rw [Int.toNat_natCast] at hX
        obtain ⟨g, off, rfl, hg, hc⟩ := HK.out (by omega)
        obtain ⟨l, hl1, hl2, hl3⟩ := nm_eta (kd k).nm
        have d0 : ∀ o o' w1, Bx2 w o o' w1 → w1.cell? ⟨g, off + k * 2, none⟩ = some (.string ⟨l.toArray⟩) := fun o o' w1 hb => by rw [← hl1]; exact ((hc k hkn).below hg hb.out).1
        have hl12 : l.length ≤ 12 := by rw [hl3]; exact HN.out k hkn
        rw [show nmL (kd k) = l by unfold nmL; rw [hl2]] at hX
        have HD0 := Lib.hid d0
        clear a1 a2 ha1 hto hl1 hl2 hl3 hc d0 HK HN
        have hX2 : X = (((((HD) ++ [94]) ++ T) ++ [32, 98, 101, 103, 105, 110, 32]) ++ l) ++ [10] := by rw [hX]; simp [actT]
        clear hX
        have ha0 := fun w => str_add (HD) [94] (by (try simp only [List.length_append, List.length_cons, List.length_nil]); omega) w
        have ha1 := fun w => str_add ((HD) ++ [94]) T (by (try simp only [List.length_append, List.length_cons, List.length_nil]); omega) w
        have ha2 := fun w => str_add (((HD) ++ [94]) ++ T) [32, 98, 101, 103, 105, 110, 32] (by (try simp only [List.length_append, List.length_cons, List.length_nil]); omega) w
        have ha3 := fun w => str_add ((((HD) ++ [94]) ++ T) ++ [32, 98, 101, 103, 105, 110, 32]) l (by (try simp only [List.length_append, List.length_cons, List.length_nil]); omega) w
        have ha4 := fun w => str_add (((((HD) ++ [94]) ++ T) ++ [32, 98, 101, 103, 105, 110, 32]) ++ l) [10] (by (try simp only [List.length_append, List.length_cons, List.length_nil]); omega) w
        generalize HD ++ [94] = A0 at hX2 ha0 ha1 ha2 ha3 ha4
        generalize A0 ++ T = A1 at hX2 ha1 ha2 ha3 ha4
        generalize A1 ++ [32, 98, 101, 103, 105, 110, 32] = A2 at hX2 ha2 ha3 ha4
        generalize A2 ++ l = A3 at hX2 ha3 ha4
        generalize A3 ++ [10] = A4 at hX2 ha4
        subst hX2
        go_enter Tryz.func43, Tryz.ntmps43
        go_wp2_with (first | (refine wpList_load42 _ rfl rfl _ _ rfl ⟨ca, cn, cc, cs, al, true, rx, tr, false, 3, (k : Int)⟩ (ld22 (Bx2.refl w _ _).two) ?_) | (go_at_call 69; refine (HHD.out _ _ _ (Bx2.refl w _ _)).mono ?_; clear HHD; rintro e w1 ⟨rfl, hb1⟩; obtain ⟨x0, x1, x2, x3, x4, x5, x6, x7, x8, x9, x10, x11, x12, x13, x14, x15, x16, x17, x18, x19, x20, x21⟩ := cell22 (r := ⟨ca, cn, cc, cs, al, true, rx, tr, false, 3, (k : Int)⟩) hb1.two; obtain ⟨y0, y1, y2⟩ := cell3 (s := ⟨⟨some ⟨g, off, none⟩, kn, kc, kd⟩, dft, ⟨ra, rn, rc, rl⟩⟩) hb1.one; dsimp only at x0 x1 x2 x3 x4 x5 x6 x7 x8 x9 x10 x11 x12 x13 x14 x15 x16 x17 x18 x19 x20 x21 y0 y1 y2) | (go_at_call 70; refine (HTX.out _ _ _ hb1).mono ?_; clear HTX; rintro e w2 ⟨rfl, hb2⟩; clear x0 x1 x2 x3 x4 x5 x6 x7 x8 x9 x10 x11 x12 x13 x14 x15 x16 x17 x18 x19 x20 x21 y0 y1 y2; obtain ⟨x0, x1, x2, x3, x4, x5, x6, x7, x8, x9, x10, x11, x12, x13, x14, x15, x16, x17, x18, x19, x20, x21⟩ := cell22 (r := ⟨ca, cn, cc, cs, al, true, rx, tr, false, 3, (k : Int)⟩) hb2.two; obtain ⟨y0, y1, y2⟩ := cell3 (s := ⟨⟨some ⟨g, off, none⟩, kn, kc, kd⟩, dft, ⟨ra, rn, rc, rl⟩⟩) hb2.one; have dk := HD0.out _ _ _ hb2; dsimp only at x0 x1 x2 x3 x4 x5 x6 x7 x8 x9 x10 x11 x12 x13 x14 x15 x16 x17 x18 x19 x20 x21 y0 y1 y2))
        go_ret
        exact ⟨rfl, hb2.out⟩
  · simp only [if_true, Bool.and_eq_true, Bool.not_eq_true'] at hp1 hX
    have hk0 := none_k hp1.2.2
    obtain rfl : bo = false := hp1.1
    clear hp1 HTT HTX
    by_cases a1 : ac = 1
    · subst a1
      clear HK ha1
      have hX2 : X = ((HD) ++ [60, 60, 69, 79, 70, 62, 62]) ++ [32, 101, 109, 105, 116, 10] := by rw [hX]; simp [actT]
      clear hX
      have ha0 := fun w => str_add (HD) [60, 60, 69, 79, 70, 62, 62] (by (try simp only [List.length_append, List.length_cons, List.length_nil]); omega) w
      have ha1 := fun w => str_add ((HD) ++ [60, 60, 69, 79, 70, 62, 62]) [32, 101, 109, 105, 116, 10] (by (try simp only [List.length_append, List.length_cons, List.length_nil]); omega) w
      generalize HD ++ [60, 60, 69, 79, 70, 62, 62] = A0 at hX2 ha0 ha1
      generalize A0 ++ [32, 101, 109, 105, 116, 10] = A1 at hX2 ha1
      subst hX2
      go_enter Tryz.func43, Tryz.ntmps43
      go_wp2_with (first | (refine wpList_load42 _ rfl rfl _ _ rfl ⟨ca, cn, cc, cs, al, false, rx, tr, true, 1, to⟩ (ld22 (Bx2.refl w _ _).two) ?_) | (go_at_call 69; refine (HHD.out _ _ _ (Bx2.refl w _ _)).mono ?_; clear HHD; rintro e w1 ⟨rfl, hb1⟩; obtain ⟨x0, x1, x2, x3, x4, x5, x6, x7, x8, x9, x10, x11, x12, x13, x14, x15, x16, x17, x18, x19, x20, x21⟩ := cell22 (r := ⟨ca, cn, cc, cs, al, false, rx, tr, true, 1, to⟩) hb1.two; obtain ⟨y0, y1, y2⟩ := cell3 (s := ⟨⟨ka, kn, kc, kd⟩, dft, ⟨ra, rn, rc, rl⟩⟩) hb1.one; dsimp only at x0 x1 x2 x3 x4 x5 x6 x7 x8 x9 x10 x11 x12 x13 x14 x15 x16 x17 x18 x19 x20 x21 y0 y1 y2))
      go_ret
      exact ⟨rfl, hb1.out⟩
    by_cases a2 : ac = 2
    · subst a2
      clear HK ha1
      have hX2 : X = ((HD) ++ [60, 60, 69, 79, 70, 62, 62]) ++ [32, 115, 107, 105, 112, 10] := by rw [hX]; simp [actT]
      clear hX
      have ha0 := fun w => str_add (HD) [60, 60, 69, 79, 70, 62, 62] (by (try simp only [List.length_append, List.length_cons, List.length_nil]); omega) w
      have ha1 := fun w => str_add ((HD) ++ [60, 60, 69, 79, 70, 62, 62]) [32, 115, 107, 105, 112, 10] (by (try simp only [List.length_append, List.length_cons, List.length_nil]); omega) w
      generalize HD ++ [60, 60, 69, 79, 70, 62, 62] = A0 at hX2 ha0 ha1
      generalize A0 ++ [32, 115, 107, 105, 112, 10] = A1 at hX2 ha1
      subst hX2
      go_enter Tryz.func43, Tryz.ntmps43
      go_wp2_with (first | (refine wpList_load42 _ rfl rfl _ _ rfl ⟨ca, cn, cc, cs, al, false, rx, tr, true, 2, to⟩ (ld22 (Bx2.refl w _ _).two) ?_) | (go_at_call 69; refine (HHD.out _ _ _ (Bx2.refl w _ _)).mono ?_; clear HHD; rintro e w1 ⟨rfl, hb1⟩; obtain ⟨x0, x1, x2, x3, x4, x5, x6, x7, x8, x9, x10, x11, x12, x13, x14, x15, x16, x17, x18, x19, x20, x21⟩ := cell22 (r := ⟨ca, cn, cc, cs, al, false, rx, tr, true, 2, to⟩) hb1.two; obtain ⟨y0, y1, y2⟩ := cell3 (s := ⟨⟨ka, kn, kc, kd⟩, dft, ⟨ra, rn, rc, rl⟩⟩) hb1.one; dsimp only at x0 x1 x2 x3 x4 x5 x6 x7 x8 x9 x10 x11 x12 x13 x14 x15 x16 x17 x18 x19 x20 x21 y0 y1 y2))
      go_ret
      exact ⟨rfl, hb1.out⟩
    obtain rfl : ac = 3 := by
      rw [if_neg (by omega)] at ha1
      by_cases a3 : ac = 3
      · exact a3
      · rw [if_neg a3] at ha1; cases ha1
    rw [if_neg (by omega), if_pos rfl] at ha1
    have hto := ixB_iff.1 ha1
    obtain ⟨k, rfl⟩ : ∃ k : Nat, to = (k : Int) := ⟨to.toNat, by omega⟩
    have hkn : k < kn := by omega
    rw [Int.toNat_natCast] at hX
    obtain ⟨g, off, rfl, hg, hc⟩ := HK.out (by omega)
    obtain ⟨l, hl1, hl2, hl3⟩ := nm_eta (kd k).nm
    have d0 : ∀ o o' w1, Bx2 w o o' w1 → w1.cell? ⟨g, off + k * 2, none⟩ = some (.string ⟨l.toArray⟩) := fun o o' w1 hb => by rw [← hl1]; exact ((hc k hkn).below hg hb.out).1
    have hl12 : l.length ≤ 12 := by rw [hl3]; exact HN.out k hkn
    rw [show nmL (kd k) = l by unfold nmL; rw [hl2]] at hX
    have HD0 := Lib.hid d0
    clear a1 a2 ha1 hto hl1 hl2 hl3 hc d0 HK HN
    have hX2 : X = ((((HD) ++ [60, 60, 69, 79, 70, 62, 62]) ++ [32, 98, 101, 103, 105, 110, 32]) ++ l) ++ [10] := by rw [hX]; simp [actT]
    clear hX
    have ha0 := fun w => str_add (HD) [60, 60, 69, 79, 70, 62, 62] (by (try simp only [List.length_append, List.length_cons, List.length_nil]); omega) w
    have ha1 := fun w => str_add ((HD) ++ [60, 60, 69, 79, 70, 62, 62]) [32, 98, 101, 103, 105, 110, 32] (by (try simp only [List.length_append, List.length_cons, List.length_nil]); omega) w
    have ha2 := fun w => str_add (((HD) ++ [60, 60, 69, 79, 70, 62, 62]) ++ [32, 98, 101, 103, 105, 110, 32]) l (by (try simp only [List.length_append, List.length_cons, List.length_nil]); omega) w
    have ha3 := fun w => str_add ((((HD) ++ [60, 60, 69, 79, 70, 62, 62]) ++ [32, 98, 101, 103, 105, 110, 32]) ++ l) [10] (by (try simp only [List.length_append, List.length_cons, List.length_nil]); omega) w
    generalize HD ++ [60, 60, 69, 79, 70, 62, 62] = A0 at hX2 ha0 ha1 ha2 ha3
    generalize A0 ++ [32, 98, 101, 103, 105, 110, 32] = A1 at hX2 ha1 ha2 ha3
    generalize A1 ++ l = A2 at hX2 ha2 ha3
    generalize A2 ++ [10] = A3 at hX2 ha3
    subst hX2
    go_enter Tryz.func43, Tryz.ntmps43
    go_wp2_with (first | (refine wpList_load42 _ rfl rfl _ _ rfl ⟨ca, cn, cc, cs, al, false, rx, tr, true, 3, (k : Int)⟩ (ld22 (Bx2.refl w _ _).two) ?_) | (go_at_call 69; refine (HHD.out _ _ _ (Bx2.refl w _ _)).mono ?_; clear HHD; rintro e w1 ⟨rfl, hb1⟩; obtain ⟨x0, x1, x2, x3, x4, x5, x6, x7, x8, x9, x10, x11, x12, x13, x14, x15, x16, x17, x18, x19, x20, x21⟩ := cell22 (r := ⟨ca, cn, cc, cs, al, false, rx, tr, true, 3, (k : Int)⟩) hb1.two; obtain ⟨y0, y1, y2⟩ := cell3 (s := ⟨⟨some ⟨g, off, none⟩, kn, kc, kd⟩, dft, ⟨ra, rn, rc, rl⟩⟩) hb1.one; have dk := HD0.out _ _ _ hb1; dsimp only at x0 x1 x2 x3 x4 x5 x6 x7 x8 x9 x10 x11 x12 x13 x14 x15 x16 x17 x18 x19 x20 x21 y0 y1 y2))
    go_ret
    exact ⟨rfl, hb1.out⟩
end Go.Proofs.YtnjplgfpnobicaaGreatDoor
