/- Contracts of Go's slices.EqualFunc with the landed code's sameRule, and of the landed code's Same. -/
import Derived.Test.YtnjplgfpnobicaaGreatDoorCk
namespace Go.Proofs.YtnjplgfpnobicaaGreatDoor
open Go.RowKit
/-- The store of a rule into a box just made, behind other boxes. -/
theorem wpList_store42m {ops : Array Oper} {rest : List Oper} {o : Oper} {a : Act} {w : World} {c : Array Value} {Q : Exit → Act → World → Prop} (x v : Operand) (ho : o.op = .store 42 x v) (hd : o.dst = none) (hg : o.guard = none)
    (n0 : Nat) (hx : a.eval x = .pointer (some ⟨n0, 0, none⟩)) (hn : n0 = w.heap.size) (hc : c.size = 22) (r : Rl) (hv : a.eval v = ruleV r)
    (h : wpList Tryz.prog ops Q rest a (w.alloc (.cells (row22 r) 42))) : wpList Tryz.prog ops Q (o :: rest) a (w.alloc (.cells c 42)) :=
  wpList_store42 x v ho hd hg (hn ▸ hx) hc r hv h
def sameRs (l m : Rs) : Bool := decide (l.n = m.n) && allTo (fun i => sameR (l.r i) (m.r i)) l.n
set_option maxRecDepth 100000 in
set_option maxHeartbeats 2000000 in
theorem sameRules_any (l m : Rs) (w : World) (h : RsIn w w.heap.size l) (h' : RsIn w w.heap.size m) (hc : Sm l) : Calls Tryz.prog 41 #[l.val, m.val, .func (.func 42) #[] #[]] w fun e w' => e = .returned (.bool (sameRs l m)) ∧ Below w.heap.size w w' := by
  obtain ⟨a, n, cap, r⟩ := l
  obtain ⟨a', n', cap', r'⟩ := m
  have hm := h.1
  have hm2 := h.2.1
  have hm3 := h'.1
  have hm4 := h'.2.1
  have H := Lib.hid h.2.2.1
  have H' := Lib.hid h'.2.2.1
  have HC : Hid (∀ i, i < n → i < n' → ∀ w1, Below w.heap.size w w1 → Calls Tryz.prog 42 #[ruleV (r i), ruleV (r' i)] w1 fun e w' => e = .returned (.bool (sameR (r i) (r' i))) ∧ Below w.heap.size w w') := Lib.hid fun i hi hi' w1 hb => (sameRule_any (r i) (r' i) w1 ((h.2.2.2 i hi).now hb) ((h'.2.2.2 i hi').now hb) (hc i hi).1 (hc i hi).2).mono fun e w' q => ⟨q.1, hb.trans (q.2.mono hb.size)⟩
  clear h h' hc
  dsimp only at hm hm2 hm3 hm4 H H'
  unfold maxLen at hm2 hm4
  show Calls Tryz.prog 41 #[.slice a n cap, .slice a' n' cap', .func (.func 42) #[] #[]] w _
  by_cases hn : n = n'
  · subst hn
    have HS := Lib.hid (show sameRs ⟨a, n, cap, r⟩ ⟨a', n, cap', r'⟩ = allTo (fun i => sameR (r i) (r' i)) n by unfold sameRs; simp)
    go_enter Tryz.func41, Tryz.ntmps41
    go_wp2
    go_loopw [17] (fun i wr => ∃ j : Nat, j ≤ n ∧ i = .int .i64 j ∧ Hid (allTo (fun i => sameR (r i) (r' i)) j = true) ∧ Below w.heap.size w wr) (fun i _ => n - (intOf i).toNat)
    case atStart => exact ⟨0, by omega, rfl, Lib.hid rfl, Below.refl _ _⟩
    case round =>
      obtain ⟨j, hj, rfl, HA, hb⟩ := hrel
      by_cases hlt : j < n
      · obtain ⟨g, off, rfl, hg, hc⟩ := H.out (by omega)
        obtain ⟨g', off', rfl, hg', hc'⟩ := H'.out (by omega)
        have HL1 := Lib.hid (ldAt22 ((hc j hlt).below hg hb))
        have HL2 := Lib.hid (fun o => ldAt22 (((hc' j hlt).below hg' hb).below (show g' < wr.heap.size by have := hb.size; omega) (alloc_below wr o)))
        have HCL := Lib.hid (HC.out j hlt hlt)
        have HF := Lib.hid (fun (q : sameR (r j) (r' j) = false) => allTo_not (p := fun i => sameR (r i) (r' i)) hlt q)
        have HE := Lib.hid (show allTo (fun i => sameR (r i) (r' i)) (j + 1) = sameR (r j) (r' j) by
          show (allTo (fun i => sameR (r i) (r' i)) j && sameR (r j) (r' j)) = _
          rw [HA.out]; rfl)
        obtain ⟨x, hx⟩ : ∃ x, x = r j := ⟨_, rfl⟩
        obtain ⟨y, hy⟩ : ∃ y, y = r' j := ⟨_, rfl⟩
        rw [← hx] at HL1 HCL HF HE
        rw [← hy] at HL2 HCL HF HE
        obtain ⟨q, hq⟩ : ∃ q, q = sameR x y := ⟨_, rfl⟩
        rw [← hq] at HCL HF HE
        have HB := Lib.hid hb
        clear hc hc' hx hy hq hb
        have HG : Hid (∀ o o', Below w.heap.size w ((wr.alloc o).alloc o')) := Lib.hid fun o o' => HB.out.trans ((alloc2_below wr o o').mono HB.out.size)
        cases q
        · go_wp2_with (first
            | (refine wpList_load42 _ rfl rfl _ _ rfl x HL1.out ?_)
            | (refine wpList_load42 _ rfl rfl _ _ rfl y (HL2.out _) ?_)
            | (refine wpList_store42m _ _ rfl rfl rfl _ rfl (by simp) rfl x rfl ?_)
            | (refine wpList_store42m _ _ rfl rfl rfl _ rfl (by simp) rfl y rfl ?_)
            | (refine wpList_load42 _ rfl rfl _ _ rfl x (ld22 (Bx2.refl wr _ _).one) ?_)
            | (refine wpList_load42 _ rfl rfl _ _ rfl y (ld22 (Bx2.refl wr _ _).two) ?_)
            | (go_at_call 42; refine (HCL.out _ (HG.out _ _)).mono ?_; rintro e w2 ⟨rfl, hb2⟩))
          go_ret
          exact ⟨ret_bool (by rw [HS.out]; exact (HF.out (by first | rfl | trivial)).symm), hb2⟩
        · go_wp2_with (first
            | (refine wpList_load42 _ rfl rfl _ _ rfl x HL1.out ?_)
            | (refine wpList_load42 _ rfl rfl _ _ rfl y (HL2.out _) ?_)
            | (refine wpList_store42m _ _ rfl rfl rfl _ rfl (by simp) rfl x rfl ?_)
            | (refine wpList_store42m _ _ rfl rfl rfl _ rfl (by simp) rfl y rfl ?_)
            | (refine wpList_load42 _ rfl rfl _ _ rfl x (ld22 (Bx2.refl wr _ _).one) ?_)
            | (refine wpList_load42 _ rfl rfl _ _ rfl y (ld22 (Bx2.refl wr _ _).two) ?_)
            | (go_at_call 42; refine (HCL.out _ (HG.out _ _)).mono ?_; rintro e w2 ⟨rfl, hb2⟩))
          go_roundw
          case rel => exact ⟨j + 1, by omega, by go_num, HE, hb2⟩
          case measure => simp [intOf]; omega
      · obtain rfl : n = j := by omega
        go_wp2
        go_ret
        exact ⟨ret_bool (by rw [HS.out, HA.out]), hb⟩
  · have hn' : ((n : Int) == (n' : Int)) = false := by simp; omega
    have HS := Lib.hid (show sameRs ⟨a, n, cap, r⟩ ⟨a', n', cap', r'⟩ = false by unfold sameRs; rw [decide_eq_false hn]; rfl)
    go_enter Tryz.func41, Tryz.ntmps41
    go_wp2
    go_ret
    exact ⟨ret_bool HS.out.symm, Below.refl _ _⟩
def sameS (s t : Sp) : Bool := (s.dft == t.dft) && (sameCs s.cs t.cs && sameRs s.rs t.rs)
set_option maxRecDepth 100000 in
set_option maxHeartbeats 2000000 in
theorem spsame_any (s t : Sp) (w : World) (h : SpIn w s) (h' : SpIn w t) (hc : Sm s.rs) : Calls Tryz.prog 20 #[specV s, specV t] w fun e w' => e = .returned (.bool (sameS s t)) ∧ Below w.heap.size w w' := by
  have HCO : Hid (∀ o o' w1, Bx2 w o o' w1 → Calls Tryz.prog 40 #[.slice s.cs.a s.cs.n s.cs.cap, .slice t.cs.a t.cs.n t.cs.cap] w1 fun e w' => e = .returned (.bool (sameCs s.cs t.cs)) ∧ Bx2 w o o' w') := Lib.hid fun o o' w1 hb => (sameConds_any s.cs t.cs w1 (h.1.now hb.out) (h'.1.now hb.out)).mono fun e w' q => ⟨q.1, hb.to q.2⟩
  have HRU : Hid (∀ o o' w1, Bx2 w o o' w1 → Calls Tryz.prog 41 #[.slice s.rs.a s.rs.n s.rs.cap, .slice t.rs.a t.rs.n t.rs.cap, .func (.func 42) #[] #[]] w1 fun e w' => e = .returned (.bool (sameRs s.rs t.rs)) ∧ Bx2 w o o' w') := Lib.hid fun o o' w1 hb => (sameRules_any s.rs t.rs w1 (h.2.now hb.out) (h'.2.now hb.out) hc).mono fun e w' q => ⟨q.1, hb.to q.2⟩
  clear h h' hc
  obtain ⟨⟨ka, kn, kc, kd⟩, dft, ⟨ra, rn, rc, rl⟩⟩ := s
  obtain ⟨⟨ka', kn', kc', kd'⟩, dft', ⟨ra', rn', rc', rl'⟩⟩ := t
  dsimp only at HCO HRU
  obtain ⟨b, hb⟩ : ∃ b, b = sameS ⟨⟨ka, kn, kc, kd⟩, dft, ⟨ra, rn, rc, rl⟩⟩ ⟨⟨ka', kn', kc', kd'⟩, dft', ⟨ra', rn', rc', rl'⟩⟩ := ⟨_, rfl⟩
  rw [← hb]
  unfold sameS at hb
  dsimp only at hb
  obtain ⟨b1, h1⟩ : ∃ x, x = sameCs ⟨ka, kn, kc, kd⟩ ⟨ka', kn', kc', kd'⟩ := ⟨_, rfl⟩
  obtain ⟨b2, h2⟩ : ∃ x, x = sameRs ⟨ra, rn, rc, rl⟩ ⟨ra', rn', rc', rl'⟩ := ⟨_, rfl⟩
  rw [← h1] at HCO hb
  rw [← h2] at HRU hb
  clear h1 h2
  cases ed : (dft == dft')
  · obtain rfl : b = false := by rw [hb, ed]; rfl
    clear hb HCO HRU
    go_enter Tryz.func20, Tryz.ntmps20
    go_wp2
    go_ret
    exact ⟨rfl, alloc2_below _ _ _⟩
  · rw [ed, Bool.true_and] at hb
    cases b1
    · obtain rfl : b = false := by rw [hb]; rfl
      clear hb HRU
      go_enter Tryz.func20, Tryz.ntmps20
      go_wp2_with (first | (go_at_call 40; refine (HCO.out _ _ _ (Bx2.refl _ _ _)).mono ?_; rintro e w1 ⟨rfl, hb1⟩))
      go_ret
      exact ⟨rfl, hb1.out⟩
    · obtain rfl : b = b2 := by rw [hb]; rfl
      clear hb
      go_enter Tryz.func20, Tryz.ntmps20
      go_wp2_with (first | (go_at_call 40; refine (HCO.out _ _ _ (Bx2.refl _ _ _)).mono ?_; rintro e w1 ⟨rfl, hb1⟩; obtain ⟨x0, x1, x2⟩ := cell3 (s := ⟨⟨ka, kn, kc, kd⟩, dft, ⟨ra, rn, rc, rl⟩⟩) hb1.one; obtain ⟨y0, y1, y2⟩ := cell3 (s := ⟨⟨ka', kn', kc', kd'⟩, dft', ⟨ra', rn', rc', rl'⟩⟩) hb1.two) | (go_at_call 41; refine (HRU.out _ _ _ hb1).mono ?_; rintro e w2 ⟨rfl, hb2⟩))
      go_ret
      exact ⟨rfl, hb2.out⟩
end Go.Proofs.YtnjplgfpnobicaaGreatDoor
