/- Contracts of the landed code's sameConds, sameRule. -/
import Derived.Test.YtnfchlkdppblfaaDoorCf
namespace Go.Proofs.YtnfchlkdppblfaaDoor
open Go.RowKit
def eqC (a b : Cn) : Bool := (a.nm.toList == b.nm.toList) && (a.ex == b.ex)
def sameCs (l m : Cs) : Bool := decide (l.n = m.n) && allTo (fun i => eqC (l.c i) (m.c i)) l.n
set_option maxRecDepth 100000 in
set_option maxHeartbeats 2000000 in
theorem sameConds_any (l m : Cs) (w : World) (h : CsIn w w.heap.size l) (h' : CsIn w w.heap.size m) : Calls Tryd.prog 35 #[l.val, m.val] w fun e w' => e = .returned (.bool (sameCs l m)) ∧ Below w.heap.size w w' := by
  obtain ⟨a, n, cap, c⟩ := l
  obtain ⟨a', n', cap', c'⟩ := m
  have hm := h.1
  have hm2 := h.2.1
  have hm3 := h'.1
  have hm4 := h'.2.1
  have H := Lib.hid h.2.2.1
  have H' := Lib.hid h'.2.2.1
  clear h h'
  dsimp only at hm hm2 hm3 hm4 H H'
  unfold maxLen at hm2 hm4
  show Calls Tryd.prog 35 #[.slice a n cap, .slice a' n' cap'] w _
  by_cases hn : n = n'
  · subst hn
    have HS := Lib.hid (show sameCs ⟨a, n, cap, c⟩ ⟨a', n, cap', c'⟩ = allTo (fun i => eqC (c i) (c' i)) n by unfold sameCs; simp)
    go_enter Tryd.func35, Tryd.ntmps35
    go_wp2
    go_loopw [13] (fun i wr => ∃ j : Nat, j ≤ n ∧ i = .int .i64 j ∧ Hid (allTo (fun i => eqC (c i) (c' i)) j = true) ∧ ∃ kk, wr = w.drewN kk) (fun i _ => n - (intOf i).toNat)
    case atStart => exact ⟨0, by omega, rfl, Lib.hid rfl, 0, rfl⟩
    case round =>
      obtain ⟨j, hj, rfl, HA, kk, rfl⟩ := hrel
      by_cases hlt : j < n
      · obtain ⟨g, off, rfl, hg, hc⟩ := H.out (by omega)
        obtain ⟨g', off', rfl, hg', hc'⟩ := H'.out (by omega)
        obtain ⟨c0, c1⟩ := hc j hlt
        obtain ⟨d0, d1⟩ := hc' j hlt
        have HE := Lib.hid (show allTo (fun i => eqC (c i) (c' i)) (j + 1) = (((c j).nm.toList == (c' j).nm.toList) && ((c j).ex == (c' j).ex)) by
          show (allTo (fun i => eqC (c i) (c' i)) j && eqC (c j) (c' j)) = _
          rw [HA.out]; rfl)
        have HF := Lib.hid (fun (q : (((c j).nm.toList == (c' j).nm.toList) && ((c j).ex == (c' j).ex)) = false) => allTo_not (p := fun i => eqC (c i) (c' i)) hlt q)
        obtain ⟨x, hx⟩ : ∃ x, x = (c j).nm := ⟨_, rfl⟩
        obtain ⟨y, hy⟩ : ∃ y, y = (c' j).nm := ⟨_, rfl⟩
        obtain ⟨u, hu⟩ : ∃ u, u = (c j).ex := ⟨_, rfl⟩
        obtain ⟨v, hv⟩ : ∃ v, v = (c' j).ex := ⟨_, rfl⟩
        rw [← hx] at c0 HE HF
        rw [← hy] at d0 HE HF
        rw [← hu] at c1 HE HF
        rw [← hv] at d1 HE HF
        clear hc hc' hx hy hu hv
        cases hq : (x.toList == y.toList)
        · have HZ := Lib.hid (HF.out (by rw [hq]; rfl))
          clear HE HF
          go_wp2
          go_quiet (fail)
          go_wp2
          go_ret
          exact ⟨ret_bool (by rw [HS.out, HZ.out]), below_drewN (below_drewN (Below.refl _ _) _) _⟩
        · cases hr : (u == v)
          · have HZ := Lib.hid (HF.out (by rw [hq, hr]; rfl))
            clear HE HF
            go_wp2
            go_quiet (fail)
            go_wp2
            go_ret
            exact ⟨ret_bool (by rw [HS.out, HZ.out]), below_drewN (below_drewN (Below.refl _ _) _) _⟩
          · have HZ := Lib.hid (show allTo (fun i => eqC (c i) (c' i)) (j + 1) = true by rw [HE.out, hq, hr]; rfl)
            clear HE HF
            go_wp2
            go_quiet (fail)
            go_wp2
            go_roundw
            case rel => exact ⟨j + 1, by omega, by go_num, HZ, _, rfl⟩
            case measure => simp [intOf]; omega
      · obtain rfl : n = j := by omega
        go_wp2
        go_ret
        exact ⟨ret_bool (by rw [HS.out, HA.out]), below_drewN (Below.refl _ _) _⟩
  · have hn' : ((n : Int) == (n' : Int)) = false := by simp; omega
    have HS := Lib.hid (show sameCs ⟨a, n, cap, c⟩ ⟨a', n', cap', c'⟩ = false by unfold sameCs; rw [decide_eq_false hn]; rfl)
    go_enter Tryd.func35, Tryd.ntmps35
    go_wp2
    go_ret
    exact ⟨ret_bool HS.out.symm, Below.refl _ _⟩
/-- Are two rules the same? -/
def plainR (a b : Rl) : Bool := (a.all == b.all) && ((a.bol == b.bol) && ((a.eof == b.eof) && ((a.act == b.act) && (a.to == b.to))))
def sameR (a b : Rl) : Bool := plainR a b && (sameN a.cn b.cn a.cs b.cs && (sameT a.rx b.rx && sameT a.tr b.tr))
def Bx2 (w : World) (o o' : Obj) (w1 : World) : Prop := Below ((w.alloc o).alloc o').heap.size ((w.alloc o).alloc o') w1
theorem Bx2.refl (w : World) (o o' : Obj) : Bx2 w o o' ((w.alloc o).alloc o') := Below.refl _ _
theorem Bx2.to {w w1 w2 : World} {o o' : Obj} (h : Bx2 w o o' w1) (h' : Below w1.heap.size w1 w2) : Bx2 w o o' w2 := Below.trans h (h'.mono (Below.size h))
theorem Bx2.out {w w1 : World} {o o' : Obj} (h : Bx2 w o o' w1) : Below w.heap.size w w1 := (alloc2_below w o o').trans (Below.mono h (by simp; omega))
theorem Bx2.one {w w1 : World} {o o' : Obj} (h : Bx2 w o o' w1) : w1.heap[w.heap.size]? = some o := (Below.block h _ (by simp; omega)).trans ((Below.heap_alloc _ _ _ (by simp)).trans (heap_alloc_new _ _))
theorem Bx2.two {w w1 : World} {o o' : Obj} (h : Bx2 w o o' w1) : w1.heap[w.heap.size + 1]? = some o' := (Below.block h _ (by simp)).trans (by have := heap_alloc_new (w.alloc o) o'; simpa using this)
set_option maxRecDepth 100000 in
set_option maxHeartbeats 4000000 in
theorem sameRule_any (r s : Rl) (w : World) (h : RlIn w w.heap.size r) (h' : RlIn w w.heap.size s) (cx : cnt r.rx ≤ 2000) (ct : cnt r.tr ≤ 2000) : Calls Tryd.prog 37 #[ruleV r, ruleV s] w fun e w' => e = .returned (.bool (sameR r s)) ∧ Below w.heap.size w w' := by
  have HEQ : Hid (∀ o o' w1, Bx2 w o o' w1 → Calls Tryd.prog 59 #[.slice r.ca r.cn r.cc, .slice s.ca s.cn s.cc] w1 fun e w' => e = .returned (.bool (sameN r.cn s.cn r.cs s.cs)) ∧ Bx2 w o o' w') := Lib.hid fun o o' w1 hb => (equal_any r.ca s.ca r.cn r.cc s.cn s.cc r.cs s.cs w1 (h.now hb.out).1 (h'.now hb.out).1).mono fun e w' q => ⟨q.1, hb.to q.2⟩
  have HSX : Hid (∀ o o' w1, Bx2 w o o' w1 → Calls Tryd.prog 21 #[nodeV r.rx.k r.rx.s r.rx.lo r.rx.hi (.slice r.rx.a r.rx.n r.rx.cap), nodeV s.rx.k s.rx.s s.rx.lo s.rx.hi (.slice s.rx.a s.rx.n s.rx.cap)] w1 fun e w' => e = .returned (.bool (sameT r.rx s.rx)) ∧ Bx2 w o o' w') := Lib.hid fun o o' w1 hb => (same_any r.rx s.rx w1 (h.now hb.out).2.1 (h'.now hb.out).2.1 cx).mono fun e w' q => ⟨q.1, hb.to q.2⟩
  have HST : Hid (∀ o o' w1, Bx2 w o o' w1 → Calls Tryd.prog 21 #[nodeV r.tr.k r.tr.s r.tr.lo r.tr.hi (.slice r.tr.a r.tr.n r.tr.cap), nodeV s.tr.k s.tr.s s.tr.lo s.tr.hi (.slice s.tr.a s.tr.n s.tr.cap)] w1 fun e w' => e = .returned (.bool (sameT r.tr s.tr)) ∧ Bx2 w o o' w') := Lib.hid fun o o' w1 hb => (same_any r.tr s.tr w1 (h.now hb.out).2.2 (h'.now hb.out).2.2 ct).mono fun e w' q => ⟨q.1, hb.to q.2⟩
  clear h h' cx ct
  obtain ⟨ca, cn, cc, cs, al, bo, rx, tr, ef, ac, to⟩ := r
  obtain ⟨ca', cn', cc', cs', al', bo', rx', tr', ef', ac', to'⟩ := s
  dsimp only at HEQ HSX HST
  obtain ⟨b, hb⟩ : ∃ b, b = sameR ⟨ca, cn, cc, cs, al, bo, rx, tr, ef, ac, to⟩ ⟨ca', cn', cc', cs', al', bo', rx', tr', ef', ac', to'⟩ := ⟨_, rfl⟩
  rw [← hb]
  unfold sameR plainR at hb
  dsimp only at hb
  obtain ⟨b1, h1⟩ : ∃ x, x = sameN cn cn' cs cs' := ⟨_, rfl⟩
  obtain ⟨b2, h2⟩ : ∃ x, x = sameT rx rx' := ⟨_, rfl⟩
  obtain ⟨b3, h3⟩ : ∃ x, x = sameT tr tr' := ⟨_, rfl⟩
  rw [← h1] at HEQ hb
  rw [← h2] at HSX hb
  rw [← h3] at HST hb
  clear h1 h2 h3
  cases ea : (al == al')
  · obtain rfl : b = false := by rw [hb, ea]; simp
    clear hb HEQ HSX HST
    go_enter Tryd.func37, Tryd.ntmps37
    go_wp2
    go_ret
    exact ⟨rfl, alloc2_below _ _ _⟩
  · rw [ea, Bool.true_and] at hb
    cases eb : (bo == bo')
    · obtain rfl : b = false := by rw [hb, eb]; simp
      clear hb HEQ HSX HST
      go_enter Tryd.func37, Tryd.ntmps37
      go_wp2
      go_ret
      exact ⟨rfl, alloc2_below _ _ _⟩
    · rw [eb, Bool.true_and] at hb
      cases ee : (ef == ef')
      · obtain rfl : b = false := by rw [hb, ee]; simp
        clear hb HEQ HSX HST
        go_enter Tryd.func37, Tryd.ntmps37
        go_wp2
        go_ret
        exact ⟨rfl, alloc2_below _ _ _⟩
      · rw [ee, Bool.true_and] at hb
        cases ec : (ac == ac')
        · obtain rfl : b = false := by rw [hb, ec]; simp
          have ec' : (ac != ac') = true := by simp [bne, ec]
          clear hb HEQ HSX HST
          go_enter Tryd.func37, Tryd.ntmps37
          go_wp2
          go_ret
          exact ⟨rfl, alloc2_below _ _ _⟩
        · rw [ec, Bool.true_and] at hb
          have ec' : (ac != ac') = false := by simp [bne, ec]
          cases et : (to == to')
          · obtain rfl : b = false := by rw [hb, et]; simp
            have et' : (to != to') = true := by simp [bne, et]
            clear hb HEQ HSX HST
            go_enter Tryd.func37, Tryd.ntmps37
            go_wp2
            go_ret
            exact ⟨rfl, alloc2_below _ _ _⟩
          · rw [et, Bool.true_and] at hb
            have et' : (to != to') = false := by simp [bne, et]
            cases b1
            · obtain rfl : b = false := by rw [hb]; rfl
              clear hb HSX HST
              go_enter Tryd.func37, Tryd.ntmps37
              go_wp2_with (first | (go_at_call 59; refine (HEQ.out _ _ _ (Bx2.refl _ _ _)).mono ?_; rintro e w1 ⟨rfl, hb1⟩))
              go_ret
              exact ⟨rfl, hb1.out⟩
            · cases b2
              · obtain rfl : b = false := by rw [hb]; rfl
                clear hb HST
                go_enter Tryd.func37, Tryd.ntmps37
                go_wp2_with (first | (go_at_call 59; refine (HEQ.out _ _ _ (Bx2.refl _ _ _)).mono ?_; rintro e w1 ⟨rfl, hb1⟩; obtain ⟨x0, x1, x2, x3, x4, x5, x6, x7, x8, x9, x10, x11, x12, x13, x14, x15, x16, x17, x18, x19, x20, x21⟩ := cell22 (r := ⟨ca, cn, cc, cs, al, bo, rx, tr, ef, ac, to⟩) hb1.one; obtain ⟨y0, y1, y2, y3, y4, y5, y6, y7, y8, y9, y10, y11, y12, y13, y14, y15, y16, y17, y18, y19, y20, y21⟩ := cell22 (r := ⟨ca', cn', cc', cs', al', bo', rx', tr', ef', ac', to'⟩) hb1.two; clear x0 y0 x1 y1 x2 y2 x19 y19 x20 y20 x21 y21) | (go_at_call 21; refine (HSX.out _ _ _ hb1).mono ?_; rintro e w2 ⟨rfl, hb2⟩))
                go_ret
                exact ⟨rfl, hb2.out⟩
              · obtain rfl : b = b3 := by rw [hb]; rfl
                clear hb
                go_enter Tryd.func37, Tryd.ntmps37
                go_wp2_with (first | (go_at_call 59; refine (HEQ.out _ _ _ (Bx2.refl _ _ _)).mono ?_; rintro e w1 ⟨rfl, hb1⟩; obtain ⟨x0, x1, x2, x3, x4, x5, x6, x7, x8, x9, x10, x11, x12, x13, x14, x15, x16, x17, x18, x19, x20, x21⟩ := cell22 (r := ⟨ca, cn, cc, cs, al, bo, rx, tr, ef, ac, to⟩) hb1.one; obtain ⟨y0, y1, y2, y3, y4, y5, y6, y7, y8, y9, y10, y11, y12, y13, y14, y15, y16, y17, y18, y19, y20, y21⟩ := cell22 (r := ⟨ca', cn', cc', cs', al', bo', rx', tr', ef', ac', to'⟩) hb1.two; clear x0 y0 x1 y1 x2 y2 x19 y19 x20 y20 x21 y21) | (go_at_call 21; refine (HSX.out _ _ _ hb1).mono ?_; clear HSX; rintro e w2 ⟨rfl, hb2⟩; clear x3 y3 x4 y4 x5 y5 x6 y6 x7 y7 x8 y8 x9 y9 x10 y10 x11 y11 x12 y12 x13 y13 x14 y14 x15 y15 x16 y16 x17 y17 x18 y18; obtain ⟨x0, x1, x2, x3, x4, x5, x6, x7, x8, x9, x10, x11, x12, x13, x14, x15, x16, x17, x18, x19, x20, x21⟩ := cell22 (r := ⟨ca, cn, cc, cs, al, bo, rx, tr, ef, ac, to⟩) hb2.one; obtain ⟨y0, y1, y2, y3, y4, y5, y6, y7, y8, y9, y10, y11, y12, y13, y14, y15, y16, y17, y18, y19, y20, y21⟩ := cell22 (r := ⟨ca', cn', cc', cs', al', bo', rx', tr', ef', ac', to'⟩) hb2.two; clear x0 y0 x1 y1 x2 y2 x19 y19 x20 y20 x21 y21) | (go_at_call 21; refine (HST.out _ _ _ hb2).mono ?_; rintro e w3 ⟨rfl, hb3⟩))
                go_ret
                exact ⟨rfl, hb3.out⟩
end Go.Proofs.YtnfchlkdppblfaaDoor
/- Contracts of Go's slices.EqualFunc with the landed code's sameRule, and of the landed code's Same. -/
namespace Go.Proofs.YtnfchlkdppblfaaDoor
open Go.RowKit
/-- The store of a rule into a box just made, behind other boxes. -/
theorem wpList_store42m {ops : Array Oper} {rest : List Oper} {o : Oper} {a : Act} {w : World} {c : Array Value} {Q : Exit → Act → World → Prop} (x v : Operand) (ho : o.op = .store 46 x v) (hd : o.dst = none) (hg : o.guard = none)
    (n0 : Nat) (hx : a.eval x = .pointer (some ⟨n0, 0, none⟩)) (hn : n0 = w.heap.size) (hc : c.size = 22) (r : Rl) (hv : a.eval v = ruleV r)
    (h : wpList Tryd.prog ops Q rest a (w.alloc (.cells (row22 r) 46))) : wpList Tryd.prog ops Q (o :: rest) a (w.alloc (.cells c 46)) :=
  wpList_store42 x v ho hd hg (hn ▸ hx) hc r hv h
def sameRs (l m : Rs) : Bool := decide (l.n = m.n) && allTo (fun i => sameR (l.r i) (m.r i)) l.n
set_option maxRecDepth 100000 in
set_option maxHeartbeats 2000000 in
theorem sameRules_any (l m : Rs) (w : World) (h : RsIn w w.heap.size l) (h' : RsIn w w.heap.size m) (hc : Sm l) : Calls Tryd.prog 36 #[l.val, m.val, .func (.func 37) #[] #[]] w fun e w' => e = .returned (.bool (sameRs l m)) ∧ Below w.heap.size w w' := by
  obtain ⟨a, n, cap, r⟩ := l
  obtain ⟨a', n', cap', r'⟩ := m
  have hm := h.1
  have hm2 := h.2.1
  have hm3 := h'.1
  have hm4 := h'.2.1
  have H := Lib.hid h.2.2.1
  have H' := Lib.hid h'.2.2.1
  have HC : Hid (∀ i, i < n → i < n' → ∀ w1, Below w.heap.size w w1 → Calls Tryd.prog 37 #[ruleV (r i), ruleV (r' i)] w1 fun e w' => e = .returned (.bool (sameR (r i) (r' i))) ∧ Below w.heap.size w w') := Lib.hid fun i hi hi' w1 hb => (sameRule_any (r i) (r' i) w1 ((h.2.2.2 i hi).now hb) ((h'.2.2.2 i hi').now hb) (hc i hi).1 (hc i hi).2).mono fun e w' q => ⟨q.1, hb.trans (q.2.mono hb.size)⟩
  clear h h' hc
  dsimp only at hm hm2 hm3 hm4 H H'
  unfold maxLen at hm2 hm4
  show Calls Tryd.prog 36 #[.slice a n cap, .slice a' n' cap', .func (.func 37) #[] #[]] w _
  by_cases hn : n = n'
  · subst hn
    have HS := Lib.hid (show sameRs ⟨a, n, cap, r⟩ ⟨a', n, cap', r'⟩ = allTo (fun i => sameR (r i) (r' i)) n by unfold sameRs; simp)
    go_enter Tryd.func36, Tryd.ntmps36
    go_wp2
    go_loopw [17] (fun i wr => ∃ j : Nat, j ≤ n ∧ i = .int .i64 j ∧ Hid (allTo (fun i => sameR (r i) (r' i)) j = true) ∧ Below w.heap.size w wr) (fun i _ => n - (intOf i).toNat)
    case atStart => exact ⟨0, by omega, rfl, Lib.hid rfl, Below.refl _ _⟩
    case round =>
      obtain ⟨j, hj, rfl, HA, hb⟩ := hrel
      by_cases hlt : j < n
      · obtain ⟨g, off, rfl, hg, hc⟩ := H.out (by omega)
        obtain ⟨g', off', rfl, hg', hc'⟩ := H'.out (by omega)
        have HL1 := Lib.hid (ldAt22 ((hc j hlt).below hg hb))
        have HL2 := Lib.hid (fun o => ldAt22 (((hc' j hlt).below hg' hb).below (show g' < wr.heap.size by have := hb.size; omega) (alloc_below wr o)))
        have HCL := Lib.hid (HC.out j hlt hlt)
        have HF := Lib.hid (fun (q : sameR (r j) (r' j) = false) => allTo_not (p := fun i => sameR (r i) (r' i)) hlt q)
        have HE := Lib.hid (show allTo (fun i => sameR (r i) (r' i)) (j + 1) = sameR (r j) (r' j) by
          show (allTo (fun i => sameR (r i) (r' i)) j && sameR (r j) (r' j)) = _
          rw [HA.out]; rfl)
        obtain ⟨x, hx⟩ : ∃ x, x = r j := ⟨_, rfl⟩
        obtain ⟨y, hy⟩ : ∃ y, y = r' j := ⟨_, rfl⟩
        rw [← hx] at HL1 HCL HF HE
        rw [← hy] at HL2 HCL HF HE
        obtain ⟨q, hq⟩ : ∃ q, q = sameR x y := ⟨_, rfl⟩
        rw [← hq] at HCL HF HE
        have HB := Lib.hid hb
        clear hc hc' hx hy hq hb
        have HG : Hid (∀ o o', Below w.heap.size w ((wr.alloc o).alloc o')) := Lib.hid fun o o' => HB.out.trans ((alloc2_below wr o o').mono HB.out.size)
        cases q
        · go_wp2_with (first
            | (refine wpList_load42 _ rfl rfl _ _ rfl x HL1.out ?_)
            | (refine wpList_load42 _ rfl rfl _ _ rfl y (HL2.out _) ?_)
            | (refine wpList_store42m _ _ rfl rfl rfl _ rfl (by simp) rfl x rfl ?_)
            | (refine wpList_store42m _ _ rfl rfl rfl _ rfl (by simp) rfl y rfl ?_)
            | (refine wpList_load42 _ rfl rfl _ _ rfl x (ld22 (Bx2.refl wr _ _).one) ?_)
            | (refine wpList_load42 _ rfl rfl _ _ rfl y (ld22 (Bx2.refl wr _ _).two) ?_)
            | (go_at_call 37; refine (HCL.out _ (HG.out _ _)).mono ?_; rintro e w2 ⟨rfl, hb2⟩))
          go_ret
          exact ⟨ret_bool (by rw [HS.out]; exact (HF.out (by first | rfl | trivial)).symm), hb2⟩
        · go_wp2_with (first
            | (refine wpList_load42 _ rfl rfl _ _ rfl x HL1.out ?_)
            | (refine wpList_load42 _ rfl rfl _ _ rfl y (HL2.out _) ?_)
            | (refine wpList_store42m _ _ rfl rfl rfl _ rfl (by simp) rfl x rfl ?_)
            | (refine wpList_store42m _ _ rfl rfl rfl _ rfl (by simp) rfl y rfl ?_)
            | (refine wpList_load42 _ rfl rfl _ _ rfl x (ld22 (Bx2.refl wr _ _).one) ?_)
            | (refine wpList_load42 _ rfl rfl _ _ rfl y (ld22 (Bx2.refl wr _ _).two) ?_)
            | (go_at_call 37; refine (HCL.out _ (HG.out _ _)).mono ?_; rintro e w2 ⟨rfl, hb2⟩))
          go_roundw
          case rel => exact ⟨j + 1, by omega, by go_num, HE, hb2⟩
          case measure => simp [intOf]; omega
      · obtain rfl : n = j := by omega
        go_wp2
        go_ret
        exact ⟨ret_bool (by rw [HS.out, HA.out]), hb⟩
  · have hn' : ((n : Int) == (n' : Int)) = false := by simp; omega
    have HS := Lib.hid (show sameRs ⟨a, n, cap, r⟩ ⟨a', n', cap', r'⟩ = false by unfold sameRs; rw [decide_eq_false hn]; rfl)
    go_enter Tryd.func36, Tryd.ntmps36
    go_wp2
    go_ret
    exact ⟨ret_bool HS.out.symm, Below.refl _ _⟩
def sameS (s t : Sp) : Bool := (s.dft == t.dft) && (sameCs s.cs t.cs && sameRs s.rs t.rs)
set_option maxRecDepth 100000 in
set_option maxHeartbeats 2000000 in
theorem spsame_any (s t : Sp) (w : World) (h : SpIn w s) (h' : SpIn w t) (hc : Sm s.rs) : Calls Tryd.prog 13 #[specV s, specV t] w fun e w' => e = .returned (.bool (sameS s t)) ∧ Below w.heap.size w w' := by
  have HCO : Hid (∀ o o' w1, Bx2 w o o' w1 → Calls Tryd.prog 35 #[.slice s.cs.a s.cs.n s.cs.cap, .slice t.cs.a t.cs.n t.cs.cap] w1 fun e w' => e = .returned (.bool (sameCs s.cs t.cs)) ∧ Bx2 w o o' w') := Lib.hid fun o o' w1 hb => (sameConds_any s.cs t.cs w1 (h.1.now hb.out) (h'.1.now hb.out)).mono fun e w' q => ⟨q.1, hb.to q.2⟩
  have HRU : Hid (∀ o o' w1, Bx2 w o o' w1 → Calls Tryd.prog 36 #[.slice s.rs.a s.rs.n s.rs.cap, .slice t.rs.a t.rs.n t.rs.cap, .func (.func 37) #[] #[]] w1 fun e w' => e = .returned (.bool (sameRs s.rs t.rs)) ∧ Bx2 w o o' w') := Lib.hid fun o o' w1 hb => (sameRules_any s.rs t.rs w1 (h.2.now hb.out) (h'.2.now hb.out) hc).mono fun e w' q => ⟨q.1, hb.to q.2⟩
  clear h h' hc
  obtain ⟨⟨ka, kn, kc, kd⟩, dft, ⟨ra, rn, rc, rl⟩⟩ := s
  obtain ⟨⟨ka', kn', kc', kd'⟩, dft', ⟨ra', rn', rc', rl'⟩⟩ := t
  dsimp only at HCO HRU
  obtain ⟨b, hb⟩ : ∃ b, b = sameS ⟨⟨ka, kn, kc, kd⟩, dft, ⟨ra, rn, rc, rl⟩⟩ ⟨⟨ka', kn', kc', kd'⟩, dft', ⟨ra', rn', rc', rl'⟩⟩ := ⟨_, rfl⟩
  rw [← hb]
  unfold sameS at hb
  dsimp only at hb
  obtain ⟨b1, h1⟩ : ∃ x, x = sameCs ⟨ka, kn, kc, kd⟩ ⟨ka', kn', kc', kd'⟩ := ⟨_, rfl⟩
  obtain ⟨b2, h2⟩ : ∃ x, x = sameRs ⟨ra, rn, rc, rl⟩ ⟨ra', rn', rc', rl'⟩ := ⟨_, rfl⟩
  rw [← h1] at HCO hb
  rw [← h2] at HRU hb
  clear h1 h2
  cases ed : (dft == dft')
  · obtain rfl : b = false := by rw [hb, ed]; rfl
    clear hb HCO HRU
    go_enter Tryd.func13, Tryd.ntmps13
    go_wp2
    go_ret
    exact ⟨rfl, alloc2_below _ _ _⟩
  · rw [ed, Bool.true_and] at hb
    cases b1
    · obtain rfl : b = false := by rw [hb]; rfl
      clear hb HRU
      go_enter Tryd.func13, Tryd.ntmps13
      go_wp2_with (first | (go_at_call 35; refine (HCO.out _ _ _ (Bx2.refl _ _ _)).mono ?_; rintro e w1 ⟨rfl, hb1⟩))
      go_ret
      exact ⟨rfl, hb1.out⟩
    · obtain rfl : b = b2 := by rw [hb]; rfl
      clear hb
      go_enter Tryd.func13, Tryd.ntmps13
      go_wp2_with (first | (go_at_call 35; refine (HCO.out _ _ _ (Bx2.refl _ _ _)).mono ?_; rintro e w1 ⟨rfl, hb1⟩; obtain ⟨x0, x1, x2⟩ := cell3 (s := ⟨⟨ka, kn, kc, kd⟩, dft, ⟨ra, rn, rc, rl⟩⟩) hb1.one; obtain ⟨y0, y1, y2⟩ := cell3 (s := ⟨⟨ka', kn', kc', kd'⟩, dft', ⟨ra', rn', rc', rl'⟩⟩) hb1.two) | (go_at_call 36; refine (HRU.out _ _ _ hb1).mono ?_; rintro e w2 ⟨rfl, hb2⟩))
      go_ret
      exact ⟨rfl, hb2.out⟩
end Go.Proofs.YtnfchlkdppblfaaDoor
