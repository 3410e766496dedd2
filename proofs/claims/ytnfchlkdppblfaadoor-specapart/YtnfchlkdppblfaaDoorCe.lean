/- Laws for loading and storing a rule as a whole (twenty-two cells): the walk's own steps, one by one, are too many for the kernel. -/
import Derived.Test.YtnfchlkdppblfaaDoorCc
import Derived.Deep.WholeRow
namespace Go.Proofs.YtnfchlkdppblfaaDoor
open Go.RowKit Go
set_option maxRecDepth 100000 in
theorem info42 : (Tryd.prog.info? 46).map (·.size) = some 22 := by kernel_rfl
set_option maxRecDepth 100000 in
/-- A rule's cells, out of a box, out of a row. -/
theorem ld22 {w : World} {g e : Nat} {r : Rl} (h : w.heap[g]? = some (.cells (row22 r) e (0, 0))) : (loadCells ⟨g, 0, none⟩ (row22 r).toList.length).run Tryd.prog w = .ok (row22 r).toList.toArray w :=
  run_loadCells_list (P := Tryd.prog) w ⟨g, 0, none⟩ (row22 r).toList fun j v hv => by rw [Addr.add_lit, Nat.zero_add, cell_of_row w g j _ _ _ h]; simpa using hv
set_option maxRecDepth 100000 in
theorem ldAt22 {w : World} {g o : Nat} {r : Rl} (h : At22 w g o r) : (loadCells ⟨g, o, none⟩ (row22 r).toList.length).run Tryd.prog w = .ok (row22 r).toList.toArray w := by
  obtain ⟨h0, h1, h2, h3, h4, h5, h6, h7, h8, h9, h10, h11, h12, h13, h14, h15, h16, h17, h18, h19, h20, h21⟩ := h
  refine run_loadCells_list (P := Tryd.prog) w ⟨g, o, none⟩ (row22 r).toList fun j v hv => ?_
  rw [Addr.add_lit]
  have hj : j < 22 := by have := List.getElem?_eq_some_iff.1 hv; obtain ⟨q, _⟩ := this; exact q
  match j, hj with
  | 0, _ => cases hv; exact h0
  | 1, _ => cases hv; exact h1
  | 2, _ => cases hv; exact h2
  | 3, _ => cases hv; exact h3
  | 4, _ => cases hv; exact h4
  | 5, _ => cases hv; exact h5
  | 6, _ => cases hv; exact h6
  | 7, _ => cases hv; exact h7
  | 8, _ => cases hv; exact h8
  | 9, _ => cases hv; exact h9
  | 10, _ => cases hv; exact h10
  | 11, _ => cases hv; exact h11
  | 12, _ => cases hv; exact h12
  | 13, _ => cases hv; exact h13
  | 14, _ => cases hv; exact h14
  | 15, _ => cases hv; exact h15
  | 16, _ => cases hv; exact h16
  | 17, _ => cases hv; exact h17
  | 18, _ => cases hv; exact h18
  | 19, _ => cases hv; exact h19
  | 20, _ => cases hv; exact h20
  | 21, _ => cases hv; exact h21
theorem run_loadVar_at {w : World} {g o : Nat} {ty : TypeId} {cs : Array Value} (hl : (loadCells ⟨g, o, none⟩ cs.size).run Tryd.prog w = .ok cs w) (hagg : (isAgg ty).run Tryd.prog w = .ok true w) (hi : (Tryd.prog.info? ty).map (·.size) = some cs.size) : (loadVar ty ⟨g, o, none⟩).run Tryd.prog w = .ok (.agg cs) w := by
  cases hq : Tryd.prog.info? ty with
  | none => simp [hq] at hi
  | some i =>
    have hs : i.size = cs.size := by simpa [hq] using hi
    simp [loadVar, Sem.run_bind, hagg, sizeOf, typeInfo, hq, hs, hl]
set_option maxRecDepth 100000 in
theorem run_load42 {w : World} {g o : Nat} {r : Rl} (hl : (loadCells ⟨g, o, none⟩ (row22 r).toList.length).run Tryd.prog w = .ok (row22 r).toList.toArray w) : (loadVar 46 ⟨g, o, none⟩).run Tryd.prog w = .ok (ruleV r) w :=
  run_loadVar_at (cs := row22 r) hl (Tryd.isAgg46 w) info42
/-- The load of a rule, an operation of a walk. -/
theorem wpList_load42 {ops : Array Oper} {rest : List Oper} {o : Oper} {a : Act} {w : World} {Q : Exit → Act → World → Prop} (x : Operand) (ho : o.op = .load 46 x) (hw : Region.wanted o (yielded ops a.tmps) = true)
    (g off : Nat) (hx : a.eval x = .pointer (some ⟨g, off, none⟩)) (r : Rl) (hl : (loadCells ⟨g, off, none⟩ (row22 r).toList.length).run Tryd.prog w = .ok (row22 r).toList.toArray w)
    (h : wpList Tryd.prog ops Q rest (a.put o.dst (ruleV r)) w) : wpList Tryd.prog ops Q (o :: rest) a w :=
  wpList_step fun K hK => by
    rw [if_pos hw]
    unfold Oper.wp execOp
    simp only [ho, hx, Instr.loadAt, Instr.sureAddr, Sem.run_bind, Sem.run_pure, Result.andThen_ok, run_load42 hl]
    exact hK _ _ h
set_option maxRecDepth 100000 in
/-- The store of a rule into a box just made, an operation of a walk. -/
theorem wpList_store42 {ops : Array Oper} {rest : List Oper} {o : Oper} {a : Act} {w : World} {c : Array Value} {Q : Exit → Act → World → Prop} (x v : Operand) (ho : o.op = .store 46 x v) (hd : o.dst = none) (hg : o.guard = none)
    (hx : a.eval x = .pointer (some ⟨w.heap.size, 0, none⟩)) (hc : c.size = 22) (r : Rl) (hv : a.eval v = ruleV r)
    (h : wpList Tryd.prog ops Q rest a (w.alloc (.cells (row22 r) 46))) : wpList Tryd.prog ops Q (o :: rest) a (w.alloc (.cells c 46)) :=
  wpList_plain hg fun K hK => by
    unfold Oper.wp execOp
    have hst := run_storeAt_new (P := Tryd.prog) w 46 c (row22 r) info42 (hc.trans rfl) (by simp [Value.oneCell'])
    simp only [ho, hx, hv, Sem.run_bind, Sem.run_pure, hst, Result.andThen_ok]
    exact hK _ _ (by rw [hd]; exact h)
end Go.Proofs.YtnfchlkdppblfaaDoor
/- Contracts of the landed code's rightRule, isNamed, rightConds, Right. -/
namespace Go.Proofs.YtnfchlkdppblfaaDoor
open Go.RowKit
set_option maxRecDepth 100000 in
set_option maxHeartbeats 4000000 in
theorem rule_any (r : Rl) (n : Nat) (w : World) (hn : n ≤ maxLen) (h : RlIn w w.heap.size r) (cx : cnt r.rx ≤ 2000) (ct : cnt r.tr ≤ 2000) : Calls Tryd.prog 52 #[ruleV r, .int .i64 n] w fun e w' => e = .returned (.bool (ruleB r n)) ∧ Below w.heap.size w w' := by
  have H1 : Hid (∀ o w1, Bx w o w1 → Calls Tryd.prog 70 #[ruleV r, .int .i64 n] w1 fun e w' => e = .returned (.bool (startsB r n)) ∧ Bx w o w') := Lib.hid fun o w1 hb => (starts_any r n w1 hn (h.now hb.out).1).mono fun e w' h => ⟨h.1, hb.to h.2⟩
  have H2 : Hid (∀ o w1, Bx w o w1 → Calls Tryd.prog 71 #[ruleV r, .int .i64 n] w1 fun e w' => e = .returned (.bool (actB r n)) ∧ Bx w o w') := Lib.hid fun o w1 hb => (action_any r n w1).mono fun e w' h => ⟨h.1, hb.to h.2⟩
  have H3 : Hid (∀ o w1, Bx w o w1 → Calls Tryd.prog 72 #[ruleV r] w1 fun e w' => e = .returned (.bool (patB r)) ∧ Bx w o w') := Lib.hid fun o w1 hb => (patterns_any r w1 (h.now hb.out).2.1 (h.now hb.out).2.2 cx ct).mono fun e w' h => ⟨h.1, hb.to h.2⟩
  clear h cx ct hn
  obtain ⟨b, hb⟩ : ∃ b, b = ruleB r n := ⟨_, rfl⟩
  rw [← hb]
  unfold ruleB at hb
  obtain ⟨b1, h1⟩ : ∃ x, x = startsB r n := ⟨_, rfl⟩
  obtain ⟨b2, h2⟩ : ∃ x, x = actB r n := ⟨_, rfl⟩
  obtain ⟨b3, h3⟩ : ∃ x, x = patB r := ⟨_, rfl⟩
  rw [← h1] at H1 hb
  rw [← h2] at H2 hb
  rw [← h3] at H3 hb
  clear h1 h2 h3
  cases b1
  · obtain rfl : b = false := hb
    clear H2 H3
    go_enter Tryd.func52, Tryd.ntmps52
    go_wp2_with (first | (refine wpList_load42 _ rfl rfl _ _ rfl r (ld22 (heap_alloc_new w _)) ?_) | (go_at_call 70; refine (H1.out _ _ (Bx.refl _ _)).mono ?_; rintro e w1 ⟨rfl, hb1⟩))
    go_ret
    exact ⟨rfl, hb1.out⟩
  · cases b2
    · obtain rfl : b = false := hb
      clear H3
      go_enter Tryd.func52, Tryd.ntmps52
      go_wp2_with (first | (refine wpList_load42 _ rfl rfl _ _ rfl r (ld22 (box_kept hb1)) ?_) | (refine wpList_load42 _ rfl rfl _ _ rfl r (ld22 (heap_alloc_new w _)) ?_) | (go_at_call 70; refine (H1.out _ _ (Bx.refl _ _)).mono ?_; rintro e w1 ⟨rfl, hb1⟩) | (go_at_call 71; refine (H2.out _ _ hb1).mono ?_; rintro e w2 ⟨rfl, hb2⟩))
      go_ret
      exact ⟨rfl, hb2.out⟩
    · obtain rfl : b = b3 := hb
      go_enter Tryd.func52, Tryd.ntmps52
      go_wp2_with (first | (refine wpList_load42 _ rfl rfl _ _ rfl r (ld22 (box_kept hb2)) ?_) | (refine wpList_load42 _ rfl rfl _ _ rfl r (ld22 (box_kept hb1)) ?_) | (refine wpList_load42 _ rfl rfl _ _ rfl r (ld22 (heap_alloc_new w _)) ?_) | (go_at_call 70; refine (H1.out _ _ (Bx.refl _ _)).mono ?_; rintro e w1 ⟨rfl, hb1⟩) | (go_at_call 71; refine (H2.out _ _ hb1).mono ?_; rintro e w2 ⟨rfl, hb2⟩) | (go_at_call 72; refine (H3.out _ _ hb2).mono ?_; rintro e w3 ⟨rfl, hb3⟩))
      go_ret
      exact ⟨rfl, hb3.out⟩
/-- Has one of the first j conditions the name? -/
def namedB (c : Nat → Cn) (nm : ByteArray) (j : Nat) : Bool := anyTo (fun i => (c i).nm.toList == nm.toList) j
set_option maxRecDepth 100000 in
set_option maxHeartbeats 1000000 in
theorem named_any (a : Option Addr) (n cap : Nat) (c : Nat → Cn) (nm : ByteArray) (w : World) (hn : n ≤ maxLen) (H : Hid (0 < n → ∃ g off, a = some ⟨g, off, none⟩ ∧ g < w.heap.size ∧ ∀ i, i < n → At2 w g (off + i * 2) (c i))) :
    Calls Tryd.prog 69 #[.slice a n cap, .string nm] w fun e w' => e = .returned (.bool (namedB c nm n)) ∧ Below w.heap.size w w' := by
  unfold maxLen at hn
  go_enter Tryd.func69, Tryd.ntmps69
  go_wp2
  go_loopw [9] (fun i wr => ∃ j : Nat, j ≤ n ∧ i = .int .i64 j ∧ Hid (namedB c nm j = false) ∧ Below w.heap.size w wr) (fun i _ => n - (intOf i).toNat)
  case atStart => exact ⟨0, by omega, rfl, Lib.hid rfl, Below.refl _ _⟩
  case round =>
    obtain ⟨j, hj, rfl, HA, hb⟩ := hrel
    by_cases hlt : j < n
    · obtain ⟨g, off, rfl, hg, hc⟩ := H.out (by omega)
      obtain ⟨c0, c1⟩ := (hc j hlt).below hg hb
      obtain ⟨x, hx⟩ : ∃ x, x = (c j).nm := ⟨_, rfl⟩
      rw [← hx] at c0
      have HX := Lib.hid hx
      clear hc hx
      cases hk : (x.toList == nm.toList)
      · have HZ := Lib.hid (show namedB c nm (j + 1) = false by
          show (namedB c nm j || ((c j).nm.toList == nm.toList)) = false
          rw [HA.out, ← HX.out, hk]; rfl)
        go_wp2
        go_roundw
        case rel => exact ⟨j + 1, by omega, by go_num, HZ, hb.alloc hb.size _⟩
        case measure => simp [intOf]; omega
      · have HZ := Lib.hid (anyTo_yes (p := fun i => (c i).nm.toList == nm.toList) hlt (by show ((c j).nm.toList == nm.toList) = true; rw [← HX.out]; exact hk))
        go_wp2
        go_ret
        exact ⟨ret_bool HZ.out.symm, hb.alloc hb.size _⟩
    · obtain rfl : n = j := by omega
      go_wp2
      go_ret
      exact ⟨ret_bool HA.out.symm, hb⟩
end Go.Proofs.YtnfchlkdppblfaaDoor
/- Contracts of the landed code's rightConds. -/
namespace Go.Proofs.YtnfchlkdppblfaaDoor
open Go.RowKit
def initC (c : Cn) : Bool := (c.nm.toList == [73, 78, 73, 84, 73, 65, 76]) && !c.ex
def namesB (c : Nat → Cn) (j : Nat) : Bool := allTo (fun i => nameB (c i).nm && !namedB c (c i).nm i) j
/-- May conditions be these? -/
def condsB (l : Cs) : Bool := decide (1 ≤ l.n) && (decide (l.n ≤ 8) && (initC (l.c 0) && namesB l.c l.n))
set_option maxRecDepth 100000 in
set_option maxHeartbeats 4000000 in
theorem conds_any (l : Cs) (w : World) (h : CsIn w w.heap.size l) : Calls Tryd.prog 51 #[l.val] w fun e w' => e = .returned (.bool (condsB l)) ∧ Below w.heap.size w w' := by
  obtain ⟨a, n, cap, c⟩ := l
  have hm := h.1
  have hm2 := h.2.1
  unfold maxLen at hm2
  have H := Lib.hid h.2.2.1
  have HN := Lib.hid h.2.2.2
  clear h
  dsimp only at hm hm2 H HN
  obtain ⟨b, hb⟩ : ∃ b, b = condsB ⟨a, n, cap, c⟩ := ⟨_, rfl⟩
  rw [← hb]
  unfold condsB at hb
  dsimp only at hb
  show Calls Tryd.prog 51 #[.slice a n cap] w _
  by_cases h1 : 1 ≤ n
  · by_cases h8 : n ≤ 8
    · rw [decide_eq_true h1, decide_eq_true h8, Bool.true_and, Bool.true_and] at hb
      obtain ⟨g, off, rfl, hg, hc⟩ := H.out (by omega)
      have c0 : w.cell? ⟨g, off, none⟩ = some (.string (c 0).nm) := by simpa using (hc 0 (by omega)).1
      have c1 : w.cell? ⟨g, off + 1, none⟩ = some (.bool (c 0).ex) := by simpa using (hc 0 (by omega)).2
      have i0 : ((n : Int) == 0) = false := by simp; omega
      have i1 : ¬ (8 : Int) < (n : Int) := by omega
      have HC := Lib.hid hc
      clear hc H
      cases hq : ((c 0).nm.toList == [73, 78, 73, 84, 73, 65, 76])
      · obtain rfl : b = false := by rw [hb]; unfold initC; rw [hq]; rfl
        clear hb
        go_enter Tryd.func51, Tryd.ntmps51
        go_wp2
        go_ret
        exact ⟨rfl, Below.refl _ _⟩
      · cases hx : (c 0).ex
        · have HB := Lib.hid (show b = namesB c n by rw [hb]; unfold initC; rw [hq, hx]; rfl)
          rw [hx] at c1
          clear hb
          go_enter Tryd.func51, Tryd.ntmps51
          go_wp2
          clear c0 c1 hq hx i0 i1
          go_loopw [22] (fun i wr => ∃ j : Nat, j ≤ n ∧ i = .int .i64 j ∧ Hid (namesB c j = true) ∧ Below w.heap.size w wr) (fun i _ => n - (intOf i).toNat)
          case atStart => exact ⟨0, by omega, rfl, Lib.hid rfl, Below.refl _ _⟩
          case round =>
            obtain ⟨j, hj, rfl, HA, hbr⟩ := hrel
            by_cases hlt : j < n
            · obtain ⟨d0, d1⟩ := (HC.out j hlt).below hg hbr
              have hjc : j ≤ cap := by omega
              obtain ⟨x, hx⟩ : ∃ x, x = (c j).nm := ⟨_, rfl⟩
              rw [← hx] at d0
              have HXN := Lib.hid (show x.size ≤ maxLen by rw [hx]; exact HN.out j hlt)
              have HNM : Hid (∀ w1, Calls Tryd.prog 68 #[.string x] w1 fun e w' => e = .returned (.bool (nameB x)) ∧ w1 = w') := Lib.hid fun w1 => name_any x w1 HXN.out
              have HND : Hid (∀ w1, Below wr.heap.size wr w1 → Calls Tryd.prog 69 #[.slice (some ⟨g, off, none⟩) j cap, .string x] w1 fun e w' => e = .returned (.bool (namedB c x j)) ∧ Below wr.heap.size wr w') := Lib.hid fun w1 hb1 =>
                (named_any (some ⟨g, off, none⟩) j cap c x w1 (by unfold maxLen; omega) (Lib.hid fun _ => ⟨g, off, rfl, by have := hbr.size; have := hb1.size; omega, fun i hi => ((HC.out i (by omega)).below hg hbr).below (by have := hbr.size; omega) hb1⟩)).mono fun e w' h => ⟨h.1, hb1.trans (h.2.mono hb1.size)⟩
              have HS := Lib.hid (show namesB c (j + 1) = (nameB x && !namedB c x j) by
                show (namesB c j && (nameB (c j).nm && !namedB c (c j).nm j)) = _
                rw [HA.out, hx]; rfl)
              have HF := Lib.hid (fun (q : (nameB x && !namedB c x j) = false) => allTo_not (p := fun i => nameB (c i).nm && !namedB c (c i).nm i) hlt (by show (nameB (c j).nm && !namedB c (c j).nm j) = false; rw [← hx]; exact q))
              have HBR := Lib.hid hbr
              have hsr := hbr.size
              clear hx hbr
              cases hnm : nameB x
              · have HZ := Lib.hid (HF.out (by rw [hnm]; rfl))
                rw [hnm] at HNM
                clear HND HS HF
                go_wp2
                first | (go_region_with (first | (go_at_call 68; refine (HNM.out _).mono ?_; rintro e w1 ⟨rfl, rfl⟩))) | fail
                all_goals
                  go_wp2
                  go_ret
                  exact ⟨ret_bool (by rw [HB.out]; exact HZ.out.symm), (HBR.out.alloc hsr _).drew⟩
              · rw [hnm] at HNM
                cases hnd : namedB c x j
                · have HZ := Lib.hid (show namesB c (j + 1) = true by rw [HS.out, hnm, hnd]; rfl)
                  rw [hnd] at HND
                  clear HS HF
                  go_wp2
                  go_region_with (first | (go_at_call 68; refine (HNM.out _).mono ?_; rintro e w1 ⟨rfl, rfl⟩) | (go_at_call 69; refine (HND.out _ (alloc_below wr _).drew).mono ?_; rintro e w2 ⟨rfl, hb2⟩))
                  all_goals
                    go_wp2
                    go_roundw
                    case rel => exact ⟨j + 1, by omega, by go_num, HZ, HBR.out.trans (hb2.mono hsr)⟩
                    case measure => simp [intOf]; omega
                · have HZ := Lib.hid (HF.out (by rw [hnm, hnd]; rfl))
                  rw [hnd] at HND
                  clear HS HF
                  go_wp2
                  go_region_with (first | (go_at_call 68; refine (HNM.out _).mono ?_; rintro e w1 ⟨rfl, rfl⟩) | (go_at_call 69; refine (HND.out _ (alloc_below wr _).drew).mono ?_; rintro e w2 ⟨rfl, hb2⟩))
                  all_goals
                    go_wp2
                    go_ret
                    exact ⟨ret_bool (by rw [HB.out]; exact HZ.out.symm), HBR.out.trans (hb2.mono hsr)⟩
            · obtain rfl : n = j := by omega
              go_wp2
              go_ret
              exact ⟨ret_bool (by rw [HB.out, HA.out]), hbr⟩
        · obtain rfl : b = false := by rw [hb]; unfold initC; rw [hq, hx]; rfl
          rw [hx] at c1
          clear hb
          go_enter Tryd.func51, Tryd.ntmps51
          go_wp2
          go_ret
          exact ⟨rfl, Below.refl _ _⟩
    · obtain rfl : b = false := by rw [hb, decide_eq_false h8, Bool.false_and, Bool.and_false]
      have i0 : ((n : Int) == 0) = false := by simp; omega
      have i1 : (8 : Int) < (n : Int) := by omega
      clear hb H
      go_enter Tryd.func51, Tryd.ntmps51
      go_wp2
      go_ret
      exact ⟨rfl, Below.refl _ _⟩
  · obtain rfl : n = 0 := by omega
    obtain rfl : b = false := by rw [hb]; rfl
    clear hb
    go_enter Tryd.func51, Tryd.ntmps51
    go_wp2
    go_ret
    exact ⟨rfl, Below.refl _ _⟩
end Go.Proofs.YtnfchlkdppblfaaDoor
