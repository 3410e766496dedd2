/- The law's own Few of layer 6. -/
import Derived.Test.YtnjplgfpnobicaaGreatDoorCz
import Derived.Test.YtnjplgfpnobicaaGreatDoorOa
namespace Go.Proofs.YtnjplgfpnobicaaGreatDoor
open Go.RowKit Go
theorem nodes_b (t : Tr) : -1 ≤ nodesI t 1000 ∧ nodesI t 1000 ≤ 999 ∧ (0 < nodesI t 1000 → cnt t ≤ 2000) := by
  have := cnt_pos t
  unfold nodesI
  split
  · refine ⟨by omega, by omega, fun _ => by omega⟩
  · exact ⟨by omega, by omega, fun h => by omega⟩
/-- What Few tells: if it says yes, the patterns are not too great. -/
def FewE (l : Rs) (e : Ending) : Prop := ∃ b, e = .returned (.bool b) ∧ (b = true → Sm l)
set_option maxRecDepth 100000 in
set_option maxHeartbeats 16000000 in
theorem spfew_any (s : Sp) (w : World) (h : SpIn w s) (hz : Szd s) : Calls Tryz.prog 9 #[specV s, .int .i64 1000] w fun e w' => FewE s.rs e ∧ Below w.heap.size w w' := by
  obtain ⟨⟨ka, kn, kc, kd⟩, dft, ⟨ra, rn, rc, rl⟩⟩ := s
  have HRA := Lib.hid h.2.2.2.1
  have HND1 : Hid (∀ i, i < rn → ∀ o w1, Bx w o w1 → Calls Tryz.prog 21 #[nodeV (rl i).rx.k (rl i).rx.s (rl i).rx.lo (rl i).rx.hi (.slice (rl i).rx.a (rl i).rx.n (rl i).rx.cap), .int .i64 1000] w1 fun e w' => e = .returned (.int .i64 (nodesI (rl i).rx 1000)) ∧ Bx w o w') := Lib.hid fun i hi o w1 hb => (nodes_any (rl i).rx 1000 w1 (by omega) (((h.2.2.2.2 i hi).now hb.out).2.1)).mono fun e w' q => ⟨q.1, hb.to q.2⟩
  have HND2 : Hid (∀ i, i < rn → ∀ o w1, Bx w o w1 → Calls Tryz.prog 21 #[nodeV (rl i).tr.k (rl i).tr.s (rl i).tr.lo (rl i).tr.hi (.slice (rl i).tr.a (rl i).tr.n (rl i).tr.cap), .int .i64 1000] w1 fun e w' => e = .returned (.int .i64 (nodesI (rl i).tr 1000)) ∧ Bx w o w') := Lib.hid fun i hi o w1 hb => (nodes_any (rl i).tr 1000 w1 (by omega) (((h.2.2.2.2 i hi).now hb.out).2.2)).mono fun e w' q => ⟨q.1, hb.to q.2⟩
  have hz1 := hz.1
  have hz2 := hz.2.1
  have HZ3 := Lib.hid hz.2.2
  clear h hz
  dsimp only at HRA hz1 hz2 HZ3
  show Calls Tryz.prog 9 #[specV ⟨⟨ka, kn, kc, kd⟩, dft, ⟨ra, rn, rc, rl⟩⟩, .int .i64 1000] w fun e w' => FewE ⟨ra, rn, rc, rl⟩ e ∧ Below w.heap.size w w'
  go_enter Tryz.func9, Tryz.ntmps9
  go_wp2
  go_loopw [5, 6] (fun v i wr => ∃ (q : Nat) (n : Int), q ≤ rn ∧ v = .int .i64 n ∧ i = .int .i64 q ∧ 0 ≤ n ∧ n ≤ 281474976720000 ∧ Hid (n < 1000 → ∀ i, i < q → cnt (rl i).rx ≤ 2000 ∧ cnt (rl i).tr ≤ 2000) ∧ Hid (Bx w (.cells (row3 ⟨⟨ka, kn, kc, kd⟩, dft, ⟨ra, rn, rc, rl⟩⟩) 25) wr)) (fun _ i _ => rn - (intOf i).toNat)
  case atStart => exact ⟨0, (kn : Int) + (rn : Int), by omega, by go_num, rfl, by omega, by omega, Lib.hid (fun _ i hi => absurd hi (by omega)), Lib.hid (Bx.refl _ _)⟩
  case round =>
    obtain ⟨q, n, hq, rfl, rfl, hn0, hn1, HN, HBX⟩ := hrel
    obtain ⟨x0, x1, x2⟩ := cell3 (s := ⟨⟨ka, kn, kc, kd⟩, dft, ⟨ra, rn, rc, rl⟩⟩) (box_kept HBX.out)
    dsimp only at x0 x1 x2
    by_cases hlt : q < rn
    · have hlt' : (q : Int) < (rn : Int) := by omega
      by_cases hn : n < 1000
      · obtain ⟨g', off', rfl, hg', hA1⟩ := HRA.out (by omega)
        have HX := Lib.hid (fun w1 (hb : Bx w (.cells (row3 ⟨⟨ka, kn, kc, kd⟩, dft, ⟨some ⟨g', off', none⟩, rn, rc, rl⟩⟩) 25) w1) => And.intro (cell3 (s := ⟨⟨ka, kn, kc, kd⟩, dft, ⟨some ⟨g', off', none⟩, rn, rc, rl⟩⟩) (box_kept hb)) ((hA1 q hlt).below hg' hb.out))
        have HC1 := Lib.hid (HND1.out q hlt (.cells (row3 ⟨⟨ka, kn, kc, kd⟩, dft, ⟨some ⟨g', off', none⟩, rn, rc, rl⟩⟩) 25))
        have HC2 := Lib.hid (HND2.out q hlt (.cells (row3 ⟨⟨ka, kn, kc, kd⟩, dft, ⟨some ⟨g', off', none⟩, rn, rc, rl⟩⟩) 25))
        have hcn := HZ3.out q hlt
        have hb1 := nodes_b (rl q).rx
        have hb2 := nodes_b (rl q).tr
        have HS := Lib.hid (fun (m : Int) (e : m = n + (rl q).cn + 1000 - nodesI (rl q).rx 1000 + 1000 - nodesI (rl q).tr 1000) (hm : m < 1000) i (hi : i < q + 1) => show cnt (rl i).rx ≤ 2000 ∧ cnt (rl i).tr ≤ 2000 by
          by_cases hiq : i = q
          · subst hiq
            exact ⟨hb1.2.2 (by omega), hb2.2.2 (by omega)⟩
          · exact HN.out hn i (by omega))
        obtain ⟨r, hr⟩ : ∃ r, r = rl q := ⟨_, rfl⟩
        rw [← hr] at HX HC1 HC2 hcn hb1 hb2 HS
        obtain ⟨c1, hc1⟩ : ∃ c, c = nodesI r.rx 1000 := ⟨_, rfl⟩
        obtain ⟨c2, hc2⟩ : ∃ c, c = nodesI r.tr 1000 := ⟨_, rfl⟩
        rw [← hc1] at HC1 hb1 HS
        rw [← hc2] at HC2 hb2 HS
        obtain ⟨hb11, hb12, _⟩ := hb1
        obtain ⟨hb21, hb22, _⟩ := hb2
        obtain ⟨ca, cn, cc, cs, al, bo, rx, tr, ef, ac, tg⟩ := r
        dsimp only at HX HC1 HC2 hcn HS
        unfold At22 at HX
        try dsimp only at HX
        have HV := Lib.hid (show IntKind.i64.wrap (IntKind.i64.wrap (IntKind.i64.wrap (IntKind.i64.wrap (IntKind.i64.wrap (n + (cn : Int)) + 1000) - c1) + 1000) - c2) = n + cn + 1000 - c1 + 1000 - c2 by
          rw [IntWalk.i64_in (n + (cn : Int)) (by omega), IntWalk.i64_in (n + (cn : Int) + 1000) (by omega), IntWalk.i64_in (n + (cn : Int) + 1000 - c1) (by omega), IntWalk.i64_in (n + (cn : Int) + 1000 - c1 + 1000) (by omega), IntWalk.i64_in (n + (cn : Int) + 1000 - c1 + 1000 - c2) (by omega)])
        clear hr hc1 hc2 hA1 HN x0 x1 x2
        obtain ⟨⟨p0, p1, p2⟩, _⟩ := HX.out wr HBX.out
        try dsimp only at p0 p1 p2
        go_wp2
        clear p0 p1 p2
        refine wp_region_held_drew (S := fun w' => Bx w (.cells (row3 ⟨⟨ka, kn, kc, kd⟩, dft, ⟨some ⟨g', off', none⟩, rn, rc, rl⟩⟩) 25) w') (by kernel_rfl) HBX.out.drew (fun hHeld => ?_)
        refine wpAnyH_take (i := 0) (oi := { dst := some 26, op := Op.move (Operand.tmp 5), type := 3, pos := "law.go:26", after := #[], guard := none }) (v := ?_) rfl (by kernel_rfl) (by kernel_rfl) (by kernel_rfl) (fun _ _ _ h => h) (Or.inl ⟨by rfl, ?_⟩) (by assumption) ?_
        rotate_left
        · (intro w hSw; (try dsimp only at hSw); go_simp; try with_reducible rfl)
        try simp only [Act.put, List.setIfInBounds_toArray, List.set_cons_zero, List.set_cons_succ]
        refine wpAnyH_take (i := 1) (oi := { dst := some 27, op := Op.fieldAddr 25 (Operand.tmp 2) 2, type := 0, pos := "law.go:26", after := #[], guard := none }) (v := ?_) rfl (by kernel_rfl) (by kernel_rfl) (by kernel_rfl) (fun _ _ _ h => h) (Or.inl ⟨by rfl, ?_⟩) (by assumption) ?_
        rotate_left
        · (intro w hSw; (try dsimp only at hSw); go_simp; try with_reducible rfl)
        try simp only [Act.put, List.setIfInBounds_toArray, List.set_cons_zero, List.set_cons_succ]
        refine wpAnyH_take (i := 2) (oi := { dst := some 28, op := Op.load 23 (Operand.tmp 27), type := 23, pos := "law.go:26", after := #[{ on := 1, ground := Ground.data }], guard := none }) (v := ?_) rfl (by kernel_rfl) (by kernel_rfl) (by kernel_rfl) (fun _ _ _ h => h) (Or.inl ⟨by rfl, ?_⟩) (by assumption) ?_
        rotate_left
        · (intro w' hSw; obtain ⟨⟨p0, p1, p2⟩, x0, x1, x2, x3, x4, x5, x6, x7, x8, x9, x10, x11, x12, x13, x14, x15, x16, x17, x18, x19, x20, x21⟩ := HX.out w' hSw; (try dsimp only at p0 p1 p2); go_simp; try with_reducible rfl)
        try simp only [Act.put, List.setIfInBounds_toArray, List.set_cons_zero, List.set_cons_succ]
        refine wpAnyH_take (i := 3) (oi := { dst := some 29, op := Op.move (Operand.tmp 6), type := 3, pos := "law.go:26", after := #[], guard := none }) (v := ?_) rfl (by kernel_rfl) (by kernel_rfl) (by kernel_rfl) (fun _ _ _ h => h) (Or.inl ⟨by rfl, ?_⟩) (by assumption) ?_
        rotate_left
        · (intro w hSw; (try dsimp only at hSw); go_simp; try with_reducible rfl)
        try simp only [Act.put, List.setIfInBounds_toArray, List.set_cons_zero, List.set_cons_succ]
        refine wpAnyH_take (i := 4) (oi := { dst := some 30, op := Op.indexAddr 23 (Operand.tmp 28) (Operand.tmp 29), type := 0, pos := "law.go:26", after := #[{ on := 2, ground := Ground.data }, { on := 3, ground := Ground.data }], guard := none }) (v := ?_) rfl (by kernel_rfl) (by kernel_rfl) (by kernel_rfl) (fun _ _ _ h => h) (Or.inl ⟨by rfl, ?_⟩) (by assumption) ?_
        rotate_left
        · (intro w hSw; (try dsimp only at hSw); go_simp; try with_reducible rfl)
        try simp only [Act.put, List.setIfInBounds_toArray, List.set_cons_zero, List.set_cons_succ]
        refine wpAnyH_take (i := 5) (oi := { dst := some 31, op := Op.fieldAddr 42 (Operand.tmp 30) 0, type := 0, pos := "law.go:26", after := #[{ on := 4, ground := Ground.data }], guard := none }) (v := ?_) rfl (by kernel_rfl) (by kernel_rfl) (by kernel_rfl) (fun _ _ _ h => h) (Or.inl ⟨by rfl, ?_⟩) (by assumption) ?_
        rotate_left
        · (intro w hSw; (try dsimp only at hSw); go_simp; try with_reducible rfl)
        try simp only [Act.put, List.setIfInBounds_toArray, List.set_cons_zero, List.set_cons_succ]
        refine wpAnyH_take (i := 6) (oi := { dst := some 32, op := Op.load 34 (Operand.tmp 31), type := 34, pos := "law.go:26", after := #[{ on := 5, ground := Ground.data }], guard := none }) (v := ?_) rfl (by kernel_rfl) (by kernel_rfl) (by kernel_rfl) (fun _ _ _ h => h) (Or.inl ⟨by rfl, ?_⟩) (by assumption) ?_
        rotate_left
        · (intro w' hSw; obtain ⟨⟨p0, p1, p2⟩, x0, x1, x2, x3, x4, x5, x6, x7, x8, x9, x10, x11, x12, x13, x14, x15, x16, x17, x18, x19, x20, x21⟩ := HX.out w' hSw; (try dsimp only at p0 p1 p2); go_simp; try with_reducible rfl)
        try simp only [Act.put, List.setIfInBounds_toArray, List.set_cons_zero, List.set_cons_succ]
        refine wpAnyH_take (i := 7) (oi := { dst := some 33, op := Op.call { callee := Callee.builtin Builtin.len, args := #[Operand.tmp 32], argTypes := #[34] }, type := 3, pos := "law.go:26", after := #[{ on := 6, ground := Ground.data }], guard := none }) (v := ?_) rfl (by kernel_rfl) (by kernel_rfl) (by kernel_rfl) (fun _ _ _ h => h) (Or.inl ⟨by rfl, ?_⟩) (by assumption) ?_
        rotate_left
        · (intro w hSw; (try dsimp only at hSw); go_simp; try with_reducible rfl)
        try simp only [Act.put, List.setIfInBounds_toArray, List.set_cons_zero, List.set_cons_succ]
        refine wpAnyH_take (i := 8) (oi := { dst := some 34, op := Op.binOp BinOp.add 3 (Operand.tmp 26) (Operand.tmp 33) 3, type := 3, pos := "law.go:26", after := #[{ on := 0, ground := Ground.data }, { on := 7, ground := Ground.data }], guard := none }) (v := ?_) rfl (by kernel_rfl) (by kernel_rfl) (by kernel_rfl) (fun _ _ _ h => h) (Or.inl ⟨by rfl, ?_⟩) (by assumption) ?_
        rotate_left
        · (intro w hSw; (try dsimp only at hSw); go_simp; try with_reducible rfl)
        try simp only [Act.put, List.setIfInBounds_toArray, List.set_cons_zero, List.set_cons_succ]
        refine wpAnyH_take (i := 9) (oi := { dst := some 35, op := Op.move (Operand.tmp 1), type := 3, pos := "law.go:26", after := #[], guard := none }) (v := ?_) rfl (by kernel_rfl) (by kernel_rfl) (by kernel_rfl) (fun _ _ _ h => h) (Or.inl ⟨by rfl, ?_⟩) (by assumption) ?_
        rotate_left
        · (intro w hSw; (try dsimp only at hSw); go_simp; try with_reducible rfl)
        try simp only [Act.put, List.setIfInBounds_toArray, List.set_cons_zero, List.set_cons_succ]
        refine wpAnyH_take (i := 10) (oi := { dst := some 36, op := Op.binOp BinOp.add 3 (Operand.tmp 34) (Operand.tmp 35) 3, type := 3, pos := "law.go:26", after := #[{ on := 8, ground := Ground.data }, { on := 9, ground := Ground.data }], guard := none }) (v := ?_) rfl (by kernel_rfl) (by kernel_rfl) (by kernel_rfl) (fun _ _ _ h => h) (Or.inl ⟨by rfl, ?_⟩) (by assumption) ?_
        rotate_left
        · (intro w hSw; (try dsimp only at hSw); go_simp; try with_reducible rfl)
        try simp only [Act.put, List.setIfInBounds_toArray, List.set_cons_zero, List.set_cons_succ]
        refine wpAnyH_take (i := 11) (oi := { dst := some 37, op := Op.fieldAddr 25 (Operand.tmp 2) 2, type := 0, pos := "law.go:26", after := #[], guard := none }) (v := ?_) rfl (by kernel_rfl) (by kernel_rfl) (by kernel_rfl) (fun _ _ _ h => h) (Or.inl ⟨by rfl, ?_⟩) (by assumption) ?_
        rotate_left
        · (intro w hSw; (try dsimp only at hSw); go_simp; try with_reducible rfl)
        try simp only [Act.put, List.setIfInBounds_toArray, List.set_cons_zero, List.set_cons_succ]
        refine wpAnyH_take (i := 12) (oi := { dst := some 38, op := Op.load 23 (Operand.tmp 37), type := 23, pos := "law.go:26", after := #[{ on := 11, ground := Ground.data }], guard := none }) (v := ?_) rfl (by kernel_rfl) (by kernel_rfl) (by kernel_rfl) (fun _ _ _ h => h) (Or.inl ⟨by rfl, ?_⟩) (by assumption) ?_
        rotate_left
        · (intro w' hSw; obtain ⟨⟨p0, p1, p2⟩, x0, x1, x2, x3, x4, x5, x6, x7, x8, x9, x10, x11, x12, x13, x14, x15, x16, x17, x18, x19, x20, x21⟩ := HX.out w' hSw; (try dsimp only at p0 p1 p2); go_simp; try with_reducible rfl)
        try simp only [Act.put, List.setIfInBounds_toArray, List.set_cons_zero, List.set_cons_succ]
        refine wpAnyH_take (i := 13) (oi := { dst := some 39, op := Op.move (Operand.tmp 6), type := 3, pos := "law.go:26", after := #[], guard := none }) (v := ?_) rfl (by kernel_rfl) (by kernel_rfl) (by kernel_rfl) (fun _ _ _ h => h) (Or.inl ⟨by rfl, ?_⟩) (by assumption) ?_
        rotate_left
        · (intro w hSw; (try dsimp only at hSw); go_simp; try with_reducible rfl)
        try simp only [Act.put, List.setIfInBounds_toArray, List.set_cons_zero, List.set_cons_succ]
        refine wpAnyH_take (i := 14) (oi := { dst := some 40, op := Op.indexAddr 23 (Operand.tmp 38) (Operand.tmp 39), type := 0, pos := "law.go:26", after := #[{ on := 12, ground := Ground.data }, { on := 13, ground := Ground.data }], guard := none }) (v := ?_) rfl (by kernel_rfl) (by kernel_rfl) (by kernel_rfl) (fun _ _ _ h => h) (Or.inl ⟨by rfl, ?_⟩) (by assumption) ?_
        rotate_left
        · (intro w hSw; (try dsimp only at hSw); go_simp; try with_reducible rfl)
        try simp only [Act.put, List.setIfInBounds_toArray, List.set_cons_zero, List.set_cons_succ]
        refine wpAnyH_take (i := 15) (oi := { dst := some 41, op := Op.fieldAddr 42 (Operand.tmp 40) 3, type := 0, pos := "law.go:26", after := #[{ on := 14, ground := Ground.data }], guard := none }) (v := ?_) rfl (by kernel_rfl) (by kernel_rfl) (by kernel_rfl) (fun _ _ _ h => h) (Or.inl ⟨by rfl, ?_⟩) (by assumption) ?_
        rotate_left
        · (intro w hSw; (try dsimp only at hSw); go_simp; try with_reducible rfl)
        try simp only [Act.put, List.setIfInBounds_toArray, List.set_cons_zero, List.set_cons_succ]
        refine wpAnyH_take (i := 16) (oi := { dst := some 42, op := Op.load 40 (Operand.tmp 41), type := 40, pos := "law.go:26", after := #[{ on := 15, ground := Ground.data }], guard := none }) (v := ?_) rfl (by kernel_rfl) (by kernel_rfl) (by kernel_rfl) (fun _ _ _ h => h) (Or.inl ⟨by rfl, ?_⟩) (by assumption) ?_
        rotate_left
        · (intro w' hSw; obtain ⟨⟨p0, p1, p2⟩, x0, x1, x2, x3, x4, x5, x6, x7, x8, x9, x10, x11, x12, x13, x14, x15, x16, x17, x18, x19, x20, x21⟩ := HX.out w' hSw; (try dsimp only at p0 p1 p2); go_simp; try with_reducible rfl)
        try simp only [Act.put, List.setIfInBounds_toArray, List.set_cons_zero, List.set_cons_succ]
        refine wpAnyH_take (i := 17) (oi := { dst := some 43, op := Op.move (Operand.tmp 1), type := 3, pos := "law.go:26", after := #[], guard := none }) (v := ?_) rfl (by kernel_rfl) (by kernel_rfl) (by kernel_rfl) (fun _ _ _ h => h) (Or.inl ⟨by rfl, ?_⟩) (by assumption) ?_
        rotate_left
        · (intro w hSw; (try dsimp only at hSw); go_simp; try with_reducible rfl)
        try simp only [Act.put, List.setIfInBounds_toArray, List.set_cons_zero, List.set_cons_succ]
        refine wpAnyH_take (i := 20) (oi := { dst := some 46, op := Op.move (Operand.tmp 1), type := 3, pos := "law.go:26", after := #[], guard := none }) (v := ?_) rfl (by kernel_rfl) (by kernel_rfl) (by kernel_rfl) (fun _ _ _ h => h) (Or.inl ⟨by rfl, ?_⟩) (by assumption) ?_
        rotate_left
        · (intro w hSw; (try dsimp only at hSw); go_simp; try with_reducible rfl)
        try simp only [Act.put, List.setIfInBounds_toArray, List.set_cons_zero, List.set_cons_succ]
        refine wpAnyH_take (i := 22) (oi := { dst := some 48, op := Op.fieldAddr 25 (Operand.tmp 2) 2, type := 0, pos := "law.go:26", after := #[], guard := none }) (v := ?_) rfl (by kernel_rfl) (by kernel_rfl) (by kernel_rfl) (fun _ _ _ h => h) (Or.inl ⟨by rfl, ?_⟩) (by assumption) ?_
        rotate_left
        · (intro w hSw; (try dsimp only at hSw); go_simp; try with_reducible rfl)
        try simp only [Act.put, List.setIfInBounds_toArray, List.set_cons_zero, List.set_cons_succ]
        refine wpAnyH_take (i := 23) (oi := { dst := some 49, op := Op.load 23 (Operand.tmp 48), type := 23, pos := "law.go:26", after := #[{ on := 22, ground := Ground.data }], guard := none }) (v := ?_) rfl (by kernel_rfl) (by kernel_rfl) (by kernel_rfl) (fun _ _ _ h => h) (Or.inl ⟨by rfl, ?_⟩) (by assumption) ?_
        rotate_left
        · (intro w' hSw; obtain ⟨⟨p0, p1, p2⟩, x0, x1, x2, x3, x4, x5, x6, x7, x8, x9, x10, x11, x12, x13, x14, x15, x16, x17, x18, x19, x20, x21⟩ := HX.out w' hSw; (try dsimp only at p0 p1 p2); go_simp; try with_reducible rfl)
        try simp only [Act.put, List.setIfInBounds_toArray, List.set_cons_zero, List.set_cons_succ]
        refine wpAnyH_take (i := 24) (oi := { dst := some 50, op := Op.move (Operand.tmp 6), type := 3, pos := "law.go:26", after := #[], guard := none }) (v := ?_) rfl (by kernel_rfl) (by kernel_rfl) (by kernel_rfl) (fun _ _ _ h => h) (Or.inl ⟨by rfl, ?_⟩) (by assumption) ?_
        rotate_left
        · (intro w hSw; (try dsimp only at hSw); go_simp; try with_reducible rfl)
        try simp only [Act.put, List.setIfInBounds_toArray, List.set_cons_zero, List.set_cons_succ]
        refine wpAnyH_take (i := 25) (oi := { dst := some 51, op := Op.indexAddr 23 (Operand.tmp 49) (Operand.tmp 50), type := 0, pos := "law.go:26", after := #[{ on := 23, ground := Ground.data }, { on := 24, ground := Ground.data }], guard := none }) (v := ?_) rfl (by kernel_rfl) (by kernel_rfl) (by kernel_rfl) (fun _ _ _ h => h) (Or.inl ⟨by rfl, ?_⟩) (by assumption) ?_
        rotate_left
        · (intro w hSw; (try dsimp only at hSw); go_simp; try with_reducible rfl)
        try simp only [Act.put, List.setIfInBounds_toArray, List.set_cons_zero, List.set_cons_succ]
        refine wpAnyH_take (i := 26) (oi := { dst := some 52, op := Op.fieldAddr 42 (Operand.tmp 51) 4, type := 0, pos := "law.go:26", after := #[{ on := 25, ground := Ground.data }], guard := none }) (v := ?_) rfl (by kernel_rfl) (by kernel_rfl) (by kernel_rfl) (fun _ _ _ h => h) (Or.inl ⟨by rfl, ?_⟩) (by assumption) ?_
        rotate_left
        · (intro w hSw; (try dsimp only at hSw); go_simp; try with_reducible rfl)
        try simp only [Act.put, List.setIfInBounds_toArray, List.set_cons_zero, List.set_cons_succ]
        refine wpAnyH_take (i := 27) (oi := { dst := some 53, op := Op.load 40 (Operand.tmp 52), type := 40, pos := "law.go:26", after := #[{ on := 26, ground := Ground.data }], guard := none }) (v := ?_) rfl (by kernel_rfl) (by kernel_rfl) (by kernel_rfl) (fun _ _ _ h => h) (Or.inl ⟨by rfl, ?_⟩) (by assumption) ?_
        rotate_left
        · (intro w' hSw; obtain ⟨⟨p0, p1, p2⟩, x0, x1, x2, x3, x4, x5, x6, x7, x8, x9, x10, x11, x12, x13, x14, x15, x16, x17, x18, x19, x20, x21⟩ := HX.out w' hSw; (try dsimp only at p0 p1 p2); go_simp; try with_reducible rfl)
        try simp only [Act.put, List.setIfInBounds_toArray, List.set_cons_zero, List.set_cons_succ]
        refine wpAnyH_take (i := 28) (oi := { dst := some 54, op := Op.move (Operand.tmp 1), type := 3, pos := "law.go:26", after := #[], guard := none }) (v := ?_) rfl (by kernel_rfl) (by kernel_rfl) (by kernel_rfl) (fun _ _ _ h => h) (Or.inl ⟨by rfl, ?_⟩) (by assumption) ?_
        rotate_left
        · (intro w hSw; (try dsimp only at hSw); go_simp; try with_reducible rfl)
        try simp only [Act.put, List.setIfInBounds_toArray, List.set_cons_zero, List.set_cons_succ]
        refine wpAnyH_ready (rs := [18]) (by kernel_rfl) (by simp) ?_
        refine AllReadyH.cons (o := { dst := some 44, op := Op.call { callee := Callee.value (Operand.func 21), args := #[Operand.tmp 42, Operand.tmp 43], argTypes := #[40, 3] }, type := 3, pos := "law.go:26", after := #[{ on := 16, ground := Ground.data }, { on := 17, ground := Ground.data }], guard := none }) rfl (fun K hK => ?_) AllReadyH.nil
        go_simp
        refine (HC1.out _ hHeld).mono ?_
        rintro e w2 ⟨rfl, hb2⟩
        go_wp2_with fail
        refine hK.out _ _ ?_ (fun hHeld => ?_)
        · exact hb2
        clear hK K
        try simp only [Act.put, List.setIfInBounds_toArray, List.set_cons_zero, List.set_cons_succ]
        clear HC1
        refine wpAnyH_take (i := 19) (oi := { dst := some 45, op := Op.binOp BinOp.sub 3 (Operand.tmp 36) (Operand.tmp 44) 3, type := 3, pos := "law.go:26", after := #[{ on := 10, ground := Ground.data }, { on := 18, ground := Ground.data }], guard := none }) (v := ?_) rfl (by kernel_rfl) (by kernel_rfl) (by kernel_rfl) (fun _ _ _ h => h) (Or.inl ⟨by rfl, ?_⟩) (by assumption) ?_
        rotate_left
        · (intro w hSw; (try dsimp only at hSw); go_simp; try with_reducible rfl)
        try simp only [Act.put, List.setIfInBounds_toArray, List.set_cons_zero, List.set_cons_succ]
        refine wpAnyH_take (i := 21) (oi := { dst := some 47, op := Op.binOp BinOp.add 3 (Operand.tmp 45) (Operand.tmp 46) 3, type := 3, pos := "law.go:26", after := #[{ on := 19, ground := Ground.data }, { on := 20, ground := Ground.data }], guard := none }) (v := ?_) rfl (by kernel_rfl) (by kernel_rfl) (by kernel_rfl) (fun _ _ _ h => h) (Or.inl ⟨by rfl, ?_⟩) (by assumption) ?_
        rotate_left
        · (intro w hSw; (try dsimp only at hSw); go_simp; try with_reducible rfl)
        try simp only [Act.put, List.setIfInBounds_toArray, List.set_cons_zero, List.set_cons_succ]
        refine wpAnyH_ready (rs := [29]) (by kernel_rfl) (by simp) ?_
        refine AllReadyH.cons (o := { dst := some 55, op := Op.call { callee := Callee.value (Operand.func 21), args := #[Operand.tmp 53, Operand.tmp 54], argTypes := #[40, 3] }, type := 3, pos := "law.go:26", after := #[{ on := 27, ground := Ground.data }, { on := 28, ground := Ground.data }, { on := 18, ground := Ground.chain }], guard := none }) rfl (fun K hK => ?_) AllReadyH.nil
        go_simp
        refine (HC2.out _ hHeld).mono ?_
        rintro e w3 ⟨rfl, hb3⟩
        go_wp2_with fail
        refine hK.out _ _ ?_ (fun hHeld => ?_)
        · exact hb3
        clear hK K
        try simp only [Act.put, List.setIfInBounds_toArray, List.set_cons_zero, List.set_cons_succ]
        refine wpAnyH_take (i := 30) (oi := { dst := some 56, op := Op.binOp BinOp.sub 3 (Operand.tmp 47) (Operand.tmp 55) 3, type := 3, pos := "law.go:26", after := #[{ on := 21, ground := Ground.data }, { on := 29, ground := Ground.data }], guard := none }) (v := ?_) rfl (by kernel_rfl) (by kernel_rfl) (by kernel_rfl) (fun _ _ _ h => h) (Or.inl ⟨by rfl, ?_⟩) (by assumption) ?_
        rotate_left
        · (intro w hSw; (try dsimp only at hSw); go_simp; try with_reducible rfl)
        try simp only [Act.put, List.setIfInBounds_toArray, List.set_cons_zero, List.set_cons_succ]
        refine wpAnyH_take (i := 31) (oi := { dst := some 5, op := Op.assign (Operand.tmp 56), type := 3, pos := "law.go:26", after := #[{ on := 30, ground := Ground.data }, { on := 29, ground := Ground.chain }, { on := 0, ground := Ground.phase }, { on := 1, ground := Ground.phase }, { on := 2, ground := Ground.phase }, { on := 3, ground := Ground.phase }, { on := 4, ground := Ground.phase }, { on := 5, ground := Ground.phase }, { on := 6, ground := Ground.phase }, { on := 7, ground := Ground.phase }, { on := 8, ground := Ground.phase }, { on := 9, ground := Ground.phase }, { on := 10, ground := Ground.phase }, { on := 11, ground := Ground.phase }, { on := 12, ground := Ground.phase }, { on := 13, ground := Ground.phase }, { on := 14, ground := Ground.phase }, { on := 15, ground := Ground.phase }, { on := 16, ground := Ground.phase }, { on := 17, ground := Ground.phase }, { on := 18, ground := Ground.phase }, { on := 19, ground := Ground.phase }, { on := 20, ground := Ground.phase }, { on := 21, ground := Ground.phase }, { on := 22, ground := Ground.phase }, { on := 23, ground := Ground.phase }, { on := 24, ground := Ground.phase }, { on := 25, ground := Ground.phase }, { on := 26, ground := Ground.phase }, { on := 27, ground := Ground.phase }, { on := 28, ground := Ground.phase }, { on := 29, ground := Ground.phase }, { on := 30, ground := Ground.phase }], guard := none }) (v := ?_) rfl (by kernel_rfl) (by kernel_rfl) (by kernel_rfl) (fun _ _ _ h => h) (Or.inl ⟨by rfl, ?_⟩) (by assumption) ?_
        rotate_left
        · (intro w hSw; (try dsimp only at hSw); go_simp; try with_reducible rfl)
        try simp only [Act.put, List.setIfInBounds_toArray, List.set_cons_zero, List.set_cons_succ]
        refine wpAnyH_done (by kernel_rfl) ?_ _
        go_wp2
        go_roundw
        case rel => exact ⟨q + 1, n + cn + 1000 - c1 + 1000 - c2, by omega, congrArg _ HV.out, by go_num, by omega, by omega, Lib.hid (HS.out _ rfl), Lib.hid hHeld⟩
        case measure => simp [intOf]; omega
      · have hn' : decide (n < 1000) = false := decide_eq_false hn
        go_wp2
        go_ret
        exact ⟨⟨false, ret_bool rfl, fun h => by cases h⟩, HBX.out.out⟩
    · have hlt' : ¬ (q : Int) < (rn : Int) := by omega
      obtain rfl : q = rn := by omega
      by_cases hn : n < 1000
      · have HS := Lib.hid (HN.out hn)
        go_wp2
        go_ret
        exact ⟨⟨true, ret_bool rfl, fun _ => HS.out⟩, HBX.out.out⟩
      · have hn' : decide (n < 1000) = false := decide_eq_false hn
        go_wp2
        go_ret
        exact ⟨⟨false, ret_bool rfl, fun h => by cases h⟩, HBX.out.out⟩
end Go.Proofs.YtnjplgfpnobicaaGreatDoor
