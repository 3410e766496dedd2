/- Contract of the landed code's Active. -/
import Derived.Test.YtnfchlkdppblfaaDoorCf
namespace Go.Proofs.YtnfchlkdppblfaaDoor
open Go.RowKit
/-- The store of a rule into a box just made, behind other boxes. -/
theorem wpList_store42n {ops : Array Oper} {rest : List Oper} {o : Oper} {a : Act} {w : World} {c : Array Value} {Q : Exit → Act → World → Prop} (x v : Operand) (ho : o.op = .store 46 x v) (hd : o.dst = none) (hg : o.guard = none)
    (n0 : Nat) (hx : a.eval x = .pointer (some ⟨n0, 0, none⟩)) (hn : n0 = w.heap.size) (hc : c.size = 22) (r : Rl) (hv : a.eval v = ruleV r)
    (h : wpList Tryd.prog ops Q rest a (w.alloc (.cells (row22 r) 46))) : wpList Tryd.prog ops Q (o :: rest) a (w.alloc (.cells c 46)) :=
  wpList_store42 x v ho hd hg (hn ▸ hx) hc r hv h
/-- Does a rule hold in a condition? -/
def holdB (r : Rl) (x : Bool) (c : Int) : Bool := r.all || (hasN r.cs c r.cn || (decide (r.cn = 0) && !x))
def activeB (s : Sp) (i c : Int) : Bool := ixB i s.rs.n && (ixB c s.cs.n && holdB (s.rs.r i.toNat) (s.cs.c c.toNat).ex c)
set_option maxRecDepth 100000 in
set_option maxHeartbeats 4000000 in
theorem active_any (s : Sp) (i c : Int) (w : World) (h : SpIn w s) : Calls Tryd.prog 12 #[specV s, .int .i64 i, .int .i64 c] w fun e w' => e = .returned (.bool (activeB s i c)) ∧ Below w.heap.size w w' := by
  obtain ⟨⟨ka, kn, kc, kd⟩, dft, ⟨ra, rn, rc, rl⟩⟩ := s
  have hk1 := h.1.1
  have hk2 := h.1.2.1
  have hr1 := h.2.1
  have hr2 := h.2.2.1
  have HKA := Lib.hid h.1.2.2.1
  have HRA := Lib.hid h.2.2.2.1
  have HRI : Hid (∀ k, k < rn → IntsIn w w.heap.size (rl k).ca (rl k).cn (rl k).cc (rl k).cs) := Lib.hid fun k hk => (h.2.2.2.2 k hk).1
  clear h
  dsimp only at hk1 hk2 hr1 hr2 HRA HKA
  unfold maxLen at hk2 hr2
  obtain ⟨b, hb⟩ : ∃ b, b = activeB ⟨⟨ka, kn, kc, kd⟩, dft, ⟨ra, rn, rc, rl⟩⟩ i c := ⟨_, rfl⟩
  rw [← hb]
  unfold activeB at hb
  dsimp only at hb
  cases hi : ixB i rn
  · obtain rfl : b = false := by rw [hb, hi]; rfl
    have HI := Lib.hid (fun w1 => isIndex_any i rn w1)
    rw [hi] at HI
    clear hb hi HRA HKA HRI
    go_enter Tryd.func12, Tryd.ntmps12
    go_wp2_with (first | (go_at_call 33; refine (HI.out _).mono ?_; rintro e w1 ⟨rfl, rfl⟩))
    go_ret
    exact ⟨rfl, alloc_below _ _⟩
  · cases hc : ixB c kn
    · obtain rfl : b = false := by rw [hb, hc, Bool.false_and, Bool.and_false]
      have HI := Lib.hid (fun w1 => isIndex_any i rn w1)
      have HC := Lib.hid (fun w1 => isIndex_any c kn w1)
      rw [hi] at HI
      rw [hc] at HC
      clear hb hi hc HRA HKA HRI
      go_enter Tryd.func12, Tryd.ntmps12
      go_wp2_with (first | (go_at_call 33; refine (HI.out _).mono ?_; clear HI; rintro e w1 ⟨rfl, rfl⟩) | (go_at_call 33; refine (HC.out _).mono ?_; rintro e w1 ⟨rfl, rfl⟩))
      go_ret
      exact ⟨rfl, alloc_below _ _⟩
    · rw [hi, hc, Bool.true_and, Bool.true_and] at hb
      have HI := Lib.hid (fun w1 => isIndex_any i rn w1)
      have HC := Lib.hid (fun w1 => isIndex_any c kn w1)
      rw [hi] at HI
      rw [hc] at HC
      obtain ⟨k, rfl⟩ : ∃ k : Nat, i = (k : Int) := ⟨i.toNat, by have := ixB_iff.1 hi; omega⟩
      obtain ⟨m, rfl⟩ : ∃ m : Nat, c = (m : Int) := ⟨c.toNat, by have := ixB_iff.1 hc; omega⟩
      have hk : k < rn := by have := ixB_iff.1 hi; omega
      have hm : m < kn := by have := ixB_iff.1 hc; omega
      rw [Int.toNat_natCast, Int.toNat_natCast] at hb
      clear hi hc
      obtain ⟨g, off, rfl, hg, hA⟩ := HRA.out (by omega)
      obtain ⟨g2, off2, rfl, hg2, hA2⟩ := HKA.out (by omega)
      have HLD := Lib.hid (fun o => ldAt22 ((hA k hk).below hg (alloc_below w o)))
      have hII := HRI.out k hk
      have d1 : ∀ o o', ((w.alloc o).alloc o').cell? ⟨g2, off2 + m * 2 + 1, none⟩ = some (.bool (kd m).ex) := fun o o' => ((hA2 m hm).below hg2 (alloc2_below w o o')).2
      obtain ⟨r, hr⟩ : ∃ r, r = rl k := ⟨_, rfl⟩
      obtain ⟨x, hx⟩ : ∃ x, x = (kd m).ex := ⟨_, rfl⟩
      rw [← hr] at HLD hb hII
      rw [← hx] at d1 hb
      unfold holdB at hb
      have HCN : Hid (∀ w1, Below w.heap.size w w1 → Calls Tryd.prog 34 #[.slice r.ca r.cn r.cc, .int .i64 m] w1 fun e w' => e = .returned (.bool (hasN r.cs m r.cn)) ∧ w' = w1) := Lib.hid fun w1 hb1 => contains_any r.ca r.cn r.cc r.cs m w1 ((hII.below hb1).mono hb1.size)
      have hcn0 := hII.1
      have hcn1 := hII.2.1
      unfold maxLen at hcn1
      clear hr hx hA hA2 hII HRI HRA HKA
      obtain ⟨ca, cn, cc, cs, all, bol, rx, tr, eof, act, to⟩ := r
      dsimp only at hb HCN HLD hcn0 hcn1
      obtain ⟨hs, hhs⟩ : ∃ x, x = hasN cs m cn := ⟨_, rfl⟩
      rw [← hhs] at hb HCN
      clear hhs
      cases all
      · cases hs
        · by_cases h0 : cn = 0
          · obtain rfl : b = !x := by rw [hb, decide_eq_true h0]; rfl
            have h0' : ((cn : Int) == 0) = true := by simp [h0]
            clear h0 hb
            go_enter Tryd.func12, Tryd.ntmps12
            go_wp2_with (first
        | (refine wpList_load42 _ rfl rfl _ _ rfl ⟨ca, cn, cc, cs, false, bol, rx, tr, eof, act, to⟩ (HLD.out _) ?_)
        | (refine wpList_store42n _ _ rfl rfl rfl _ rfl (by simp) rfl ⟨ca, cn, cc, cs, false, bol, rx, tr, eof, act, to⟩ rfl ?_)
        | (go_at_call 33; refine (HI.out _).mono ?_; clear HI; rintro e w1 ⟨rfl, rfl⟩)
        | (go_at_call 33; refine (HC.out _).mono ?_; rintro e w1 ⟨rfl, rfl⟩)
        | (go_at_call 34; refine (HCN.out _ (alloc2_below w _ _)).mono ?_; rintro e w2 ⟨rfl, rfl⟩))
            go_ret
            exact ⟨rfl, alloc2_below _ _ _⟩
          · have h0' : ((cn : Int) == 0) = false := by simp; omega
            obtain rfl : b = false := by rw [hb, decide_eq_false h0]; rfl
            clear hb
            go_enter Tryd.func12, Tryd.ntmps12
            go_wp2_with (first
        | (refine wpList_load42 _ rfl rfl _ _ rfl ⟨ca, cn, cc, cs, false, bol, rx, tr, eof, act, to⟩ (HLD.out _) ?_)
        | (refine wpList_store42n _ _ rfl rfl rfl _ rfl (by simp) rfl ⟨ca, cn, cc, cs, false, bol, rx, tr, eof, act, to⟩ rfl ?_)
        | (go_at_call 33; refine (HI.out _).mono ?_; clear HI; rintro e w1 ⟨rfl, rfl⟩)
        | (go_at_call 33; refine (HC.out _).mono ?_; rintro e w1 ⟨rfl, rfl⟩)
        | (go_at_call 34; refine (HCN.out _ (alloc2_below w _ _)).mono ?_; rintro e w2 ⟨rfl, rfl⟩))
            go_ret
            exact ⟨rfl, alloc2_below _ _ _⟩
        · obtain rfl : b = true := by rw [hb]; rfl
          clear hb
          go_enter Tryd.func12, Tryd.ntmps12
          go_wp2_with (first
        | (refine wpList_load42 _ rfl rfl _ _ rfl ⟨ca, cn, cc, cs, false, bol, rx, tr, eof, act, to⟩ (HLD.out _) ?_)
        | (refine wpList_store42n _ _ rfl rfl rfl _ rfl (by simp) rfl ⟨ca, cn, cc, cs, false, bol, rx, tr, eof, act, to⟩ rfl ?_)
        | (go_at_call 33; refine (HI.out _).mono ?_; clear HI; rintro e w1 ⟨rfl, rfl⟩)
        | (go_at_call 33; refine (HC.out _).mono ?_; rintro e w1 ⟨rfl, rfl⟩)
        | (go_at_call 34; refine (HCN.out _ (alloc2_below w _ _)).mono ?_; rintro e w2 ⟨rfl, rfl⟩))
          go_ret
          exact ⟨rfl, alloc2_below _ _ _⟩
      · obtain rfl : b = true := by rw [hb]; rfl
        clear hb
        go_enter Tryd.func12, Tryd.ntmps12
        go_wp2_with (first
        | (refine wpList_load42 _ rfl rfl _ _ rfl ⟨ca, cn, cc, cs, true, bol, rx, tr, eof, act, to⟩ (HLD.out _) ?_)
        | (refine wpList_store42n _ _ rfl rfl rfl _ rfl (by simp) rfl ⟨ca, cn, cc, cs, true, bol, rx, tr, eof, act, to⟩ rfl ?_)
        | (go_at_call 33; refine (HI.out _).mono ?_; clear HI; rintro e w1 ⟨rfl, rfl⟩)
        | (go_at_call 33; refine (HC.out _).mono ?_; rintro e w1 ⟨rfl, rfl⟩))
        go_ret
        exact ⟨rfl, alloc2_below _ _ _⟩
end Go.Proofs.YtnfchlkdppblfaaDoor
