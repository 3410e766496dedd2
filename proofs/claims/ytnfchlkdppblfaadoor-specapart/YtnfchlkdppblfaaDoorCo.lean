/- Contract of the landed code's ruleLine. -/
import Derived.Test.YtnfchlkdppblfaaDoorCn
import Derived.Deep.RegionHeld3
namespace Go.Proofs.YtnfchlkdppblfaaDoor
open Go.RowKit Go
/-- The load of a rule, an operation of a region that draws its order. -/
theorem exec_load42 {ρ : Operand → Value} {o : Oper} {w : World} (x : Operand) (ho : o.op = .load 46 x) (g off : Nat) (hx : ρ x = .pointer (some ⟨g, off, none⟩)) (r : Rl)
    (hl : (loadCells ⟨g, off, none⟩ (row22 r).toList.length).run Tryd.prog w = .ok (row22 r).toList.toArray w) : (execOp ρ o).run Tryd.prog w = .ok (.value (ruleV r)) w := by
  unfold execOp
  simp only [ho, hx, Instr.loadAt, Instr.sureAddr, Sem.run_bind, Sem.run_pure, Result.andThen_ok, run_load42 hl]
/-- A rule's line. -/
def ruleT (r : Rl) (c : Nat → Cn) : List UInt8 := ((startsT r c ++ matchT r) ++ [32]) ++ actT r.act (nmL (c r.to.toNat))
theorem starts_len {r : Rl} {c : Nat → Cn} {n : Nat} (hs : startsB r n = true) (hn : n ≤ 8) (hnm : ∀ i, i < n → (c i).nm.size ≤ 12) : (startsT r c).length ≤ 106 := by
  unfold startsT
  split
  · simp
  · rename_i hal
    split
    · simp
    · rename_i h0
      unfold startsB at hs
      rw [if_neg hal] at hs
      have hris := ris_le hs
      have hcn : r.cn ≤ 8 := by have := hris (r.cn - 1) (by omega); omega
      have := join_len ((namesT r c r.cn).map (·.data.toList)) (by
        intro x hx
        simp only [List.mem_map, namesT, List.mem_range] at hx
        obtain ⟨y, ⟨i, hi', rfl⟩, rfl⟩ := hx
        have h1 := hris i hi'
        have h2 := hnm (r.cs i).toNat (by omega)
        rw [Array.length_toList]
        exact h2)
      rw [List.length_map, namesT_len] at this
      simp only [List.length_append, List.length_cons, List.length_nil]
      omega
theorem match_len {r : Rl} (hp : patB r = true) : (matchT r).length ≤ 6000010 := by
  unfold patB at hp
  unfold matchT
  split
  · simp
  · rename_i he
    rw [if_neg he] at hp
    simp only [Bool.and_eq_true, Bool.or_eq_true] at hp
    have h1 := (txt_right hp.1).1
    split
    · split <;> simp <;> omega
    · rename_i hn
      have h2 := (txt_right (hp.2.resolve_left hn)).1
      split <;> simp <;> omega
theorem act_len {act : Int} {l : List UInt8} (h : l.length ≤ 12) : (actT act l).length ≤ 18 := by
  unfold actT
  split
  · simp
  · split
    · simp
    · simp; omega
theorem nmL_len (c : Cn) : (nmL c).length = c.nm.size := Array.length_toList
set_option maxRecDepth 100000 in
set_option maxHeartbeats 4000000 in
theorem ruleLine_any (r : Rl) (l : Cs) (w : World) (h : RlIn w w.heap.size r) (hl : CsIn w w.heap.size l) (hr : ruleB r l.n = true) (ct : cnt r.tr ≤ 2000) (hn : l.n ≤ 8) (hn1 : 1 ≤ l.n) (hnm : ∀ i, i < l.n → (l.c i).nm.size ≤ 12) :
    Calls Tryd.prog 56 #[ruleV r, l.val] w fun e w' => e = .returned (strV (ruleT r l.c)) ∧ Below w.heap.size w w' := by
  unfold ruleB at hr
  simp only [Bool.and_eq_true] at hr
  obtain ⟨hs, hac, hp⟩ := hr
  obtain ⟨k, hk, hkn⟩ : ∃ k : Nat, r.to = (k : Int) ∧ k < l.n := by
    unfold actB at hac
    split at hac
    · exact ⟨0, by have := of_decide_eq_true hac; omega, by omega⟩
    · split at hac
      · have := ixB_iff.1 hac
        exact ⟨r.to.toNat, by omega, by omega⟩
      · cases hac
  have H1 : Hid (∀ w1, Below w.heap.size w w1 → Calls Tryd.prog 73 #[ruleV r, .slice l.a l.n l.cap] w1 fun e w' => e = .returned (strV (startsT r l.c)) ∧ Below w1.heap.size w1 w') := Lib.hid fun w1 hb => startsText_any r l w1 (h.now hb).1 (hl.now hb) hs hn hnm
  have H2 : Hid (∀ w1, Below w.heap.size w w1 → Calls Tryd.prog 74 #[ruleV r] w1 fun e w' => e = .returned (strV (matchT r)) ∧ Below w1.heap.size w1 w') := Lib.hid fun w1 hb => matchText_any r w1 (h.now hb).2.1 (h.now hb).2.2 ct hp
  have hl1 := starts_len hs hn hnm
  have hl2 := match_len hp
  have hl3 : (nmL (l.c k)).length ≤ 12 := by rw [nmL_len]; exact hnm k hkn
  have hl4 := act_len (act := r.act) hl3
  have H3 : Hid (∀ w1, Calls Tryd.prog 75 #[.agg #[.int .i64 r.act, .string ⟨(nmL (l.c k)).toArray⟩]] w1 fun e w' => e = .returned (strV (actT r.act (nmL (l.c k)))) ∧ Below w1.heap.size w1 w') := Lib.hid fun w1 => action_text r.act (nmL (l.c k)) w1 hl3
  obtain ⟨g, off, hga, hg, hc⟩ := hl.2.2.1 (by omega)
  have HD : Hid (∀ o, (w.alloc o).cell? ⟨g, off + k * 2, none⟩ = some (.string ⟨(nmL (l.c k)).toArray⟩)) := Lib.hid fun o => by
    rw [((hc k hkn).below hg (alloc_below w o)).1]
    obtain ⟨q, hq, hq2, _⟩ := nm_eta (l.c k).nm
    unfold nmL
    rw [← hq2, ← hq]
  have hm := hl.1
  have hm2 := hl.2.1
  unfold maxLen at hm2
  obtain ⟨X, hX⟩ : ∃ X, X = ruleT r l.c := ⟨_, rfl⟩
  rw [← hX]
  unfold ruleT at hX
  rw [show r.to.toNat = k by omega] at hX
  obtain ⟨a, n, cap, c⟩ := l
  dsimp only at hga hkn hm hm2 H1 H2 H3 HD hl1 hl3 hl4 hX
  subst hga
  obtain ⟨S1, hS1⟩ : ∃ x, x = startsT r c := ⟨_, rfl⟩
  obtain ⟨S2, hS2⟩ : ∃ x, x = matchT r := ⟨_, rfl⟩
  obtain ⟨nm, hnmm⟩ : ∃ x, x = nmL (c k) := ⟨_, rfl⟩
  rw [← hS1] at H1 hl1 hX
  rw [← hS2] at H2 hl2 hX
  rw [← hnmm] at H3 HD hl3 hl4 hX
  obtain ⟨S3, hS3⟩ : ∃ x, x = actT r.act nm := ⟨_, rfl⟩
  rw [← hS3] at H3 hl4 hX
  have ha1 := fun w => str_add S1 S2 (by omega) w
  obtain ⟨T1, hT1⟩ : ∃ x, x = S1 ++ S2 := ⟨_, rfl⟩
  have hlt1 : T1.length ≤ 6000200 := by rw [hT1, List.length_append]; omega
  rw [← hT1] at ha1 hX
  have ha2 := fun w => str_add T1 [32] (by simp only [List.length_cons, List.length_nil]; omega) w
  obtain ⟨T2, hT2⟩ : ∃ x, x = T1 ++ [32] := ⟨_, rfl⟩
  have hlt2 : T2.length ≤ 6000201 := by rw [hT2, List.length_append]; simp only [List.length_cons, List.length_nil]; omega
  rw [← hT2] at ha2 hX
  have ha3 := fun w => str_add T2 S3 (by omega) w
  rw [← hX] at ha3
  have HAA := Lib.hid (And.intro ha1 (And.intro ha2 ha3))
  clear hX hT1 hT2 hS1 hS2 hS3 hnmm hs hac hp h hl hc hl1 hl2 hl3 hl4 hlt1 hlt2 ha1 ha2 ha3 ct hnm
  obtain ⟨ca, cn, cc, cs, al, bo, rx, tr, ef, ac, to⟩ := r
  dsimp only at hk H1 H2 H3
  subst hk
  have d0 := HD.out
  have hkn' : (k : Int) < (n : Int) := by omega
  show Calls Tryd.prog 56 #[ruleV ⟨ca, cn, cc, cs, al, bo, rx, tr, ef, ac, k⟩, .slice (some ⟨g, off, none⟩) n cap] w _
  go_enter Tryd.func56, Tryd.ntmps56
  go_wp2
  go_region
  obtain ⟨W1, hW1⟩ : ∃ W1, W1 = ((w.alloc (.cells (row22 ⟨ca, cn, cc, cs, al, bo, rx, tr, ef, ac, (k : Int)⟩) 46)).alloc (.cells #[.int .i64 ac, .string ⟨nm.toArray⟩] 116)).drew := ⟨_, rfl⟩
  have hx0 : W1.heap[w.heap.size]? = some (.cells (row22 ⟨ca, cn, cc, cs, al, bo, rx, tr, ef, ac, (k : Int)⟩) 46 (0, 0)) := by rw [hW1]; exact (Bx2.refl w _ _).one
  have hx1 : W1.heap[w.heap.size + 1]? = some (.cells #[.int .i64 ac, .string ⟨nm.toArray⟩] 116 (0, 0)) := by rw [hW1]; exact (Bx2.refl w _ _).two
  have HBW : Hid (Below w.heap.size w W1) := Lib.hid (by rw [hW1]; exact (alloc2_below w _ _).drew)
  have hsz : w.heap.size + 2 ≤ W1.heap.size := by rw [hW1]; simp
  rw [← hW1]
  have HX0 := Lib.hid (fun w' (hb : Below W1.heap.size W1 w') => ld22 (r := ⟨ca, cn, cc, cs, al, bo, rx, tr, ef, ac, (k : Int)⟩) ((hb.block _ (show w.heap.size < W1.heap.size by omega)).trans hx0))
  have HX1 := Lib.hid (fun w' (hb : Below W1.heap.size W1 w') => And.intro (cell_of_row w' (w.heap.size + 1) 0 _ _ _ ((hb.block _ (show w.heap.size + 1 < W1.heap.size by omega)).trans hx1)) (cell_of_row w' (w.heap.size + 1) 1 _ _ _ ((hb.block _ (show w.heap.size + 1 < W1.heap.size by omega)).trans hx1)))
  obtain ⟨y0, y1⟩ := HX1.out W1 (Below.refl _ _)
  obtain ⟨ha1, ha2, ha3⟩ := HAA.out
  clear hW1 hx0 hx1 d0 HD HAA
  go_wp2
  refine wp_region_held_drew (S := fun w' => Below W1.heap.size W1 w') (by kernel_rfl) (Below.refl _ _).drew (fun hHeld => ?_)
  refine wpAnyH_take (i := 0) (oi := { dst := some 15, op := Op.load 46 (Operand.tmp 2), type := 46, pos := "print.go:57", after := #[], guard := none }) (v := ruleV ⟨ca, cn, cc, cs, al, bo, rx, tr, ef, ac, (k : Int)⟩) rfl (by kernel_rfl) (by kernel_rfl) (by kernel_rfl) (fun _ _ _ h => h) (Or.inl ⟨by rfl, ?_⟩) (by assumption) ?_
  · exact fun w' hSw => exec_load42 (.tmp 2) rfl w.heap.size 0 rfl ⟨ca, cn, cc, cs, al, bo, rx, tr, ef, ac, (k : Int)⟩ (HX0.out w' hSw)
  try simp only [Act.put, List.setIfInBounds_toArray, List.set_cons_zero, List.set_cons_succ]
  refine wpAnyH_take (i := 1) (oi := { dst := some 16, op := Op.move (Operand.tmp 1), type := 35, pos := "print.go:57", after := #[], guard := none }) (v := ?_) rfl (by kernel_rfl) (by kernel_rfl) (by kernel_rfl) (fun _ _ _ h => h) (Or.inl ⟨by rfl, ?_⟩) (by assumption) ?_
  rotate_left
  · (intro w hSw; (try dsimp only at hSw); go_simp; try with_reducible rfl)
  try simp only [Act.put, List.setIfInBounds_toArray, List.set_cons_zero, List.set_cons_succ]
  refine wpAnyH_take (i := 3) (oi := { dst := some 18, op := Op.load 46 (Operand.tmp 2), type := 46, pos := "print.go:57", after := #[], guard := none }) (v := ruleV ⟨ca, cn, cc, cs, al, bo, rx, tr, ef, ac, (k : Int)⟩) rfl (by kernel_rfl) (by kernel_rfl) (by kernel_rfl) (fun _ _ _ h => h) (Or.inl ⟨by rfl, ?_⟩) (by assumption) ?_
  · exact fun w' hSw => exec_load42 (.tmp 2) rfl w.heap.size 0 rfl ⟨ca, cn, cc, cs, al, bo, rx, tr, ef, ac, (k : Int)⟩ (HX0.out w' hSw)
  try simp only [Act.put, List.setIfInBounds_toArray, List.set_cons_zero, List.set_cons_succ]
  refine wpAnyH_take (i := 7) (oi := { dst := some 22, op := Op.load 116 (Operand.tmp 5), type := 116, pos := "print.go:57", after := #[], guard := none }) (v := ?_) rfl (by kernel_rfl) (by kernel_rfl) (by kernel_rfl) (fun _ _ _ h => h) (Or.inl ⟨by rfl, ?_⟩) (by assumption) ?_
  rotate_left
  · (intro w' hSw; obtain ⟨y0, y1⟩ := HX1.out w' hSw; go_simp; try with_reducible rfl)
  try simp only [Act.put, List.setIfInBounds_toArray, List.set_cons_zero, List.set_cons_succ]
  refine wpAnyH_ready (rs := [2]) (by kernel_rfl) (by simp) ?_
  refine AllReadyH.cons (o := { dst := some 17, op := Op.call { callee := Callee.value (Operand.func 73), args := #[Operand.tmp 15, Operand.tmp 16], argTypes := #[46, 35] }, type := 9, pos := "print.go:57", after := #[{ on := 0, ground := Ground.data }, { on := 1, ground := Ground.data }], guard := none }) rfl (fun K hK => ?_) AllReadyH.nil
  go_simp
  refine (H1.out _ HBW.out.drew).mono ?_
  rintro e w2 ⟨rfl, hb2⟩
  go_wp2_with fail
  refine hK.out _ _ ?_ (fun hHeld => ?_)
  · exact ((Below.refl W1.heap.size W1).drew.trans hb2)
  clear hK K
  try simp only [Act.put, List.setIfInBounds_toArray, List.set_cons_zero, List.set_cons_succ]
  refine wpAnyH_ready (rs := [4]) (by kernel_rfl) (by simp) ?_
  refine AllReadyH.cons (o := { dst := some 19, op := Op.call { callee := Callee.value (Operand.func 74), args := #[Operand.tmp 18], argTypes := #[46] }, type := 9, pos := "print.go:57", after := #[{ on := 3, ground := Ground.data }, { on := 2, ground := Ground.chain }], guard := none }) rfl (fun K hK => ?_) AllReadyH.nil
  go_simp
  refine (H2.out _ (HBW.out.trans (hHeld.mono HBW.out.size))).mono ?_
  rintro e w3 ⟨rfl, hb3⟩
  go_wp2_with fail
  refine hK.out _ _ ?_ (fun hHeld => ?_)
  · exact hHeld.trans (hb3.mono hHeld.size)
  clear hK K
  try simp only [Act.put, List.setIfInBounds_toArray, List.set_cons_zero, List.set_cons_succ]
  refine wpAnyH_take (i := 5) (oi := { dst := some 20, op := Op.binOp BinOp.add 9 (Operand.tmp 17) (Operand.tmp 19) 9, type := 9, pos := "print.go:57", after := #[{ on := 2, ground := Ground.data }, { on := 4, ground := Ground.data }], guard := none }) (v := ?_) rfl (by kernel_rfl) (by kernel_rfl) (by kernel_rfl) (fun _ _ _ h => h) (Or.inl ⟨by rfl, ?_⟩) (by assumption) ?_
  rotate_left
  · (intro w hSw; (try dsimp only at hSw); go_simp; try with_reducible rfl)
  try simp only [Act.put, List.setIfInBounds_toArray, List.set_cons_zero, List.set_cons_succ]
  refine wpAnyH_take (i := 6) (oi := { dst := some 21, op := Op.binOp BinOp.add 9 (Operand.tmp 20) (Operand.const (Value.string { data := #[32] })) 9, type := 9, pos := "print.go:57", after := #[{ on := 5, ground := Ground.data }], guard := none }) (v := ?_) rfl (by kernel_rfl) (by kernel_rfl) (by kernel_rfl) (fun _ _ _ h => h) (Or.inl ⟨by rfl, ?_⟩) (by assumption) ?_
  rotate_left
  · (intro w hSw; (try dsimp only at hSw); go_simp; try with_reducible rfl)
  try simp only [Act.put, List.setIfInBounds_toArray, List.set_cons_zero, List.set_cons_succ]
  refine wpAnyH_ready (rs := [8]) (by kernel_rfl) (by simp) ?_
  refine AllReadyH.cons (o := { dst := some 23, op := Op.call { callee := Callee.value (Operand.func 75), args := #[Operand.tmp 22], argTypes := #[116] }, type := 9, pos := "print.go:57", after := #[{ on := 7, ground := Ground.data }, { on := 4, ground := Ground.chain }], guard := none }) rfl (fun K hK => ?_) AllReadyH.nil
  go_simp
  refine (H3.out _).mono ?_
  rintro e w4 ⟨rfl, hb4⟩
  go_wp2_with fail
  refine hK.out _ _ ?_ (fun hHeld => ?_)
  · exact hHeld.trans (hb4.mono hHeld.size)
  clear hK K
  try simp only [Act.put, List.setIfInBounds_toArray, List.set_cons_zero, List.set_cons_succ]
  refine wpAnyH_take (i := 9) (oi := { dst := some 24, op := Op.binOp BinOp.add 9 (Operand.tmp 21) (Operand.tmp 23) 9, type := 9, pos := "print.go:57", after := #[{ on := 6, ground := Ground.data }, { on := 8, ground := Ground.data }], guard := none }) (v := ?_) rfl (by kernel_rfl) (by kernel_rfl) (by kernel_rfl) (fun _ _ _ h => h) (Or.inl ⟨by rfl, ?_⟩) (by assumption) ?_
  rotate_left
  · (intro w hSw; (try dsimp only at hSw); go_simp; try with_reducible rfl)
  try simp only [Act.put, List.setIfInBounds_toArray, List.set_cons_zero, List.set_cons_succ]
  refine wpAnyH_take (i := 10) (oi := { dst := some 4, op := Op.assign (Operand.tmp 24), type := 9, pos := "print.go:57", after := #[{ on := 9, ground := Ground.data }, { on := 8, ground := Ground.chain }, { on := 0, ground := Ground.phase }, { on := 1, ground := Ground.phase }, { on := 2, ground := Ground.phase }, { on := 3, ground := Ground.phase }, { on := 4, ground := Ground.phase }, { on := 5, ground := Ground.phase }, { on := 6, ground := Ground.phase }, { on := 7, ground := Ground.phase }, { on := 8, ground := Ground.phase }, { on := 9, ground := Ground.phase }], guard := none }) (v := ?_) rfl (by kernel_rfl) (by kernel_rfl) (by kernel_rfl) (fun _ _ _ h => h) (Or.inl ⟨by rfl, ?_⟩) (by assumption) ?_
  rotate_left
  · (intro w hSw; (try dsimp only at hSw); go_simp; try with_reducible rfl)
  try simp only [Act.put, List.setIfInBounds_toArray, List.set_cons_zero, List.set_cons_succ]
  refine wpAnyH_done (by kernel_rfl) ?_ _
  go_wp2
  go_ret
  exact ⟨rfl, HBW.out.trans (hHeld.mono HBW.out.size)⟩
end Go.Proofs.YtnfchlkdppblfaaDoor
